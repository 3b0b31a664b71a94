/- Maps from texts to truth values, of the program's own making. No condition. What is wrong with a module first, and how it is wrapped: plain. No condition. -/
import Derived.Test.YtmcmmbkodllpkaaGreatDoorMg31
import Derived.Test.YtmcmmbkodllpkaaGreatDoorMg11
import Derived.Test.YtmcmmbkodllpkaaGreatDoorMg24
import Derived.Test.YtmcmmbkodllpkaaGreatDoorMg30
namespace Go.Proofs.YtmcmmbkodllpkaaGreatDoor.Chk

open Go.RowKit Go.PlainAid Go.Proofs.YtmcmmbkodllpkaaGreatDoor.Args Go.Proofs.YtmcmmbkodllpkaaGreatDoor.Cel Go.Proofs.YtmcmmbkodllpkaaGreatDoor.Mpv

set_option linter.unusedVariables false

set_option linter.unusedSimpArgs false

def SK (s : ByteArray) : Prop := s.size ≤ maxLen
def skL (s : ByteArray) : Lit := .string s.data.toList
theorem sk_key {s : ByteArray} (h : SK s) : keyOf Tryz.prog 9 (.string s) = some (skL s) := Go.WideMaps.keyOf_string_mk Tryz.underlying9 h
theorem sk_inj {s t : ByteArray} (e : skL s = skL t) : s = t := by
  unfold skL at e
  injection e with e1
  obtain ⟨a⟩ := s
  obtain ⟨b⟩ := t
  congr
  exact Array.toList_inj.1 e1
/-- A map of c texts in block b. -/
def MapS (w : World) (b c : Nat) (F : ByteArray → Option Value) : Prop :=
  ∃ D : DataW Value, w.ownsMap Tryz.prog 9 rdV b c D ∧ Maps.Tidy D ∧ Maps.size D = c ∧ ∀ v, SK v → Maps.has D (skL v) = (F v).isSome ∧ ∀ z, D.atKey (skL v) (.held z) = .held ((F v).getD z)
theorem MapS.blk {w : World} {b c : Nat} {F : ByteArray → Option Value} (h : MapS w b c F) : b < w.heap.size := by
  obtain ⟨D, h, _⟩ := h
  exact h.lt
theorem MapS.kept {w w' : World} {b c : Nat} {F : ByteArray → Option Value} (h : MapS w b c F) (e : w'.heap[b]? = w.heap[b]?) : MapS w' b c F := by
  obtain ⟨D, ⟨es, clock, h1, h2⟩, h3⟩ := h
  exact ⟨D, ⟨es, clock, e.trans h1, h2⟩, h3⟩
theorem MapS.keep {w w' : World} {b c : Nat} {F : ByteArray → Option Value} (h : MapS w b c F) (e : Below w.heap.size w w') : MapS w' b c F := h.kept (e.block _ h.blk)
theorem maps_made (w : World) : MapS (w.alloc (.map #[] 0)) w.heap.size 0 (fun _ => none) :=
  ⟨.map [], World.ownsMap_made _ _ _ _, Maps.tidy_empty, rfl, fun _ _ => ⟨rfl, fun _ => rfl⟩⟩
section

variable {w : World} {b c : Nat} {F : ByteArray → Option Value} {t e : TypeId} {z : Value}

set_option maxRecDepth 4000 in
theorem MapS.look (h : MapS w b c F) (ht : Tryz.prog.underlying t = some (.map 9 e)) (hz : (zeroValue e).run Tryz.prog w = .ok z w) (v : ByteArray) (hv : SK v) :
    (Instr.lookup t (.map (some b)) (.string v) false).run Tryz.prog w = .ok ((F v).getD z) w := by
  obtain ⟨D, h1, _, _, h3⟩ := h
  obtain ⟨x, ps, hrun, hx⟩ := h1.lookup (z := z) (Maps.string_keyed Tryz.underlying9) ht hz (zd := .held z) (zp := []) rfl (kl := skL v) (sk_key hv)
  rw [(h3 v hv).2 z] at hx
  have hx2 : (DataW.held x : DataW Value) = .held ((F v).getD z) := by
    have := Option.some.inj hx
    simp only [Prod.mk.injEq] at this
    exact this.1
  injection hx2 with hx3
  rw [hrun, hx3]
theorem MapS.put (h : MapS w b c F) (ht : Tryz.prog.underlying t = some (.map 9 e)) (v : ByteArray) (hv : SK v) (x : Value) (hc : c ≤ 1099511627776) :
    ∃ w', (Instr.mapUpdate t (.map (some b)) (.string v) x).run Tryz.prog w = .ok () w' ∧ MapS w' b (if (F v).isSome then c else c + 1) (fun i => open Classical in if i = v then some x else F i) ∧ w.grownBy w' (some b) := by
  obtain ⟨D, h1, h2, h4, h3⟩ := h
  obtain ⟨w', hrun, ho, hg⟩ := h1.update (Maps.string_keyed Tryz.underlying9) ht (by unfold maxLen; omega) (kl := skL v) (sk_key hv) (val := x) (d := .held x) (ps := []) rfl
  have hsz : Maps.size (D.put (skL v) (.held x)) = if (F v).isSome then c else c + 1 := by rw [Maps.size_put h2, (h3 v hv).1, h4]
  refine ⟨w', hrun, ⟨_, own_size ho hsz, h2.put (by simp [skL, WideAt.IsKeyLit]) _, hsz, fun i hi => ?_⟩, hg⟩
  by_cases hiv : i = v
  · subst hiv
    refine ⟨?_, fun y => ?_⟩
    · rw [Maps.has_put_same h2.isMap (by simp [skL, WideAt.IsKeyLit])]; simp
    · rw [Maps.atKey_put_same h2.isMap (by simp [skL, WideAt.IsKeyLit])]; simp
  · have hne : skL i ≠ skL v := fun e => hiv (sk_inj e)
    refine ⟨?_, fun y => ?_⟩
    · rw [Maps.has_put_other hne]; simp [hiv, (h3 i hi).1]
    · rw [Maps.atKey_put_other hne]; simp [hiv, (h3 i hi).2 y]
end

/-- Of which texts it is so. -/
def bmS (s : ByteArray → Bool) : ByteArray → Option Value := fun i => if s i then some (.bool true) else none
theorem bmS_get (s : ByteArray → Bool) (i : ByteArray) : (bmS s i).getD (.bool false) = .bool (s i) := by
  unfold bmS
  cases s i <;> rfl
def SMap (w : World) (b : Nat) (s : ByteArray → Bool) (lim : Nat) : Prop := ∃ n, n ≤ lim ∧ MapS w b n (bmS s)
theorem zero_boolS (w : World) : (zeroValue 4).run Tryz.prog w = .ok (.bool false) w := by kernel_rfl
theorem SMap.kept {w w' : World} {b lim : Nat} {s : ByteArray → Bool} (h : SMap w b s lim) (e : w'.heap[b]? = w.heap[b]?) : SMap w' b s lim := by
  obtain ⟨n, hn, h⟩ := h
  exact ⟨n, hn, h.kept e⟩
theorem SMap.blk {w : World} {b lim : Nat} {s : ByteArray → Bool} (h : SMap w b s lim) : b < w.heap.size := by
  obtain ⟨n, hn, h⟩ := h
  exact h.blk
theorem SMap.keep {w w' : World} {b lim : Nat} {s : ByteArray → Bool} (h : SMap w b s lim) (e : Below w.heap.size w w') : SMap w' b s lim := h.kept (e.block _ h.blk)
theorem SMap.look {w : World} {b lim : Nat} {s : ByteArray → Bool} (h : SMap w b s lim) (v : ByteArray) (hv : SK v) : (Instr.lookup 105 (.map (some b)) (.string v) false).run Tryz.prog w = .ok (.bool (s v)) w := by
  obtain ⟨n, hn, h⟩ := h
  rw [h.look Tryz.underlying105 (zero_boolS w) v hv, bmS_get]
def eqS (v i : ByteArray) : Bool := v.data.toList == i.data.toList
theorem eqS_iff {v i : ByteArray} : eqS v i = true ↔ v = i := by
  unfold eqS
  obtain ⟨a⟩ := v
  obtain ⟨b⟩ := i
  constructor
  · intro h
    have : a.toList = b.toList := by simpa using h
    rw [Array.toList_inj.1 this]
  · intro h
    injection h with h
    subst h
    simp
theorem SMap.put {w : World} {b lim : Nat} {s : ByteArray → Bool} (h : SMap w b s lim) (v : ByteArray) (hv : SK v) (hl : lim ≤ 1000000) : ∃ w', (Instr.mapUpdate 105 (.map (some b)) (.string v) (.bool true)).run Tryz.prog w = .ok () w' ∧ SMap w' b (fun i => s i || eqS v i) (lim + 1) ∧ w.grownBy w' (some b) := by
  obtain ⟨n, hn, h⟩ := h
  obtain ⟨w', h1, h2, h3⟩ := h.put Tryz.underlying105 v hv (.bool true) (by omega)
  refine ⟨w', h1, ⟨if (bmS s v).isSome then n else n + 1, ?_, ?_⟩, h3⟩
  · split <;> omega
  · have e : (fun i => open Classical in if i = v then some (Value.bool true) else bmS s i) = bmS fun i => s i || eqS v i := by
      funext i
      unfold bmS
      by_cases hi : i = v
      · have : eqS v i = true := eqS_iff.2 hi.symm
        rw [if_pos hi]
        simp [this]
      · have : eqS v i = false := by
          cases h : eqS v i with
          | false => rfl
          | true => exact absurd (eqS_iff.1 h).symm hi
        rw [if_neg hi]
        simp only [this, Bool.or_false]
    rw [← e]
    exact h2
end Go.Proofs.YtmcmmbkodllpkaaGreatDoor.Chk
namespace Go.Proofs.YtmcmmbkodllpkaaGreatDoor.Chk

open Go.RowKit Go.PlainAid Go.Proofs.YtmcmmbkodllpkaaGreatDoor.Flt Go.Proofs.YtmcmmbkodllpkaaGreatDoor.Win Go.Proofs.YtmcmmbkodllpkaaGreatDoor.Nee Go.Proofs.YtmcmmbkodllpkaaGreatDoor.Rel

open Go.Proofs.YtmcmmbkodllpkaaGreatDoor.Prt (PT rg rg_le lastP lastP_snoc)

open Go.Proofs.YtmcmmbkodllpkaaGreatDoor.Scd (SC rgS rgS_le rgS_in lastS lastS_snoc)

open Go.Proofs.YtmcmmbkodllpkaaGreatDoor.Pai (P2)

open Go.Proofs.YtmcmmbkodllpkaaGreatDoor.Act (A3)

set_option linter.unusedVariables false

set_option linter.unusedSimpArgs false

/-- A class and its wraps, outermost first; no class: nothing is wrong. -/
abbrev KW := Nat × List (Bool × Int)
/-- The first one of which f tells something, wrapped in its place. -/
def fbw {α : Type} (f : List α → α → KW) (pre : List α) : List α → KW
  | [] => (0, [])
  | x :: l => if (f pre x).1 = 0 then fbw f (pre ++ [x]) l else ((f pre x).1, (false, (pre.length : Int)) :: (f pre x).2)
theorem fbw_step {α : Type} (f : List α → α → KW) (l : List α) (i : Nat) (x : α) (hx : l[i]? = some x) : fbw f (l.take i) (l.drop i) = if (f (l.take i) x).1 = 0 then fbw f (l.take (i + 1)) (l.drop (i + 1)) else ((f (l.take i) x).1, (false, (i : Int)) :: (f (l.take i) x).2) := by
  have hi : i < l.length := by
    rcases Nat.lt_or_ge i l.length with h | h
    · exact h
    · rw [List.getElem?_eq_none h] at hx; cases hx
  have hxe : l[i] = x := by rw [List.getElem?_eq_getElem hi] at hx; exact Option.some.inj hx
  have hd : l.drop i = x :: l.drop (i + 1) := by rw [List.drop_eq_getElem_cons hi, hxe]
  have ht : l.take (i + 1) = l.take i ++ [x] := by rw [List.take_succ_eq_append_getElem hi, hxe]
  rw [hd, fbw, ht]
  have hl : (l.take i).length = i := by simp; omega
  rw [hl]
theorem fbw_end {α : Type} (f : List α → α → KW) (l : List α) : fbw f (l.take l.length) (l.drop l.length) = (0, []) := by simp [fbw]
theorem fbw_le {α : Type} {f : List α → α → KW} (hf : ∀ pre x, (f pre x).1 ≤ 18) : ∀ (l pre : List α), (fbw f pre l).1 ≤ 18
  | [], _ => by simp [fbw]
  | x :: l, pre => by
    unfold fbw
    split
    · exact fbw_le hf l _
    · exact hf pre x
def manyM (n least most : Nat) : KW := if n < least ∨ most < n then (8, []) else (0, [])
def nmB (pre : List PT) (nm : ByteArray) : Bool := pre.any fun p => eqS p.nm nm
theorem nmB_snoc (pre : List PT) (x : PT) : (fun nm => nmB pre nm || eqS x.nm nm) = nmB (pre ++ [x]) := by
  funext nm
  unfold nmB
  rw [List.any_append]
  simp
def b1M (pre : List PT) (x : PT) : Nat := if rg x = 0 then (if x.id ≤ lastP pre then 9 else if nmB pre x.nm then 7 else 0) else rg x
theorem b1M_le (pre : List PT) (x : PT) : b1M pre x ≤ 18 := by
  unfold b1M
  have := rg_le x
  split
  · split
    · omega
    · split <;> omega
  · omega
def secPt (ps : List PT) : KW := if (fbw (fun pre x => (b1M pre x, [])) [] ps).1 = 0 then manyM ps.length 1 32 else fbw (fun pre x => (b1M pre x, [])) [] ps
/-- What is wrong with a schedule's windows, or needs. -/
def w1S (ids : List Int) (x : SC) : Nat × Int := if (chkW ids x.fr ⟨0, 0, 0⟩ 0 x.ws).1 = 0 then chkN ids (ticksL (ownT (x.fr.toNat : Int) x.ws) 0 x.fr.toNat) x.fr.toNat ⟨0, 0, 0⟩ 0 x.ns else chkW ids x.fr ⟨0, 0, 0⟩ 0 x.ws
def oneS (ids : List Int) (last : Int) (x : SC) : KW := if rgS x = 0 then (if x.id ≤ last then (9, []) else if (w1S ids x).1 = 0 then (0, []) else ((w1S ids x).1, [(false, (w1S ids x).2)])) else (rgS x, [])
def secSc (ids : List Int) (ss : List SC) : KW := if (fbw (fun pre x => oneS ids (lastS pre) x) [] ss).1 = 0 then manyM ss.length 1 16 else fbw (fun pre x => oneS ids (lastS pre) x) [] ss
def secPr (sids : List Int) (qs : List P2) : KW := if (badR sids qs).1 = 0 then manyM qs.length 0 240 else ((badR sids qs).1, [(false, (badR sids qs).2)])
def inL (l : List Int) (v : Int) : Bool := l.any fun z => z == v
def lessA (x y : A3) : Bool := decide (x.s < y.s) || (x.s == y.s && decide (x.p < y.p))
def b1A (sids pids : List Int) (pre : List A3) (x : A3) : Nat := if !(inL sids x.s && inL pids x.p) then 10 else if !(x.a == 1 || x.a == 2) then 6 else match pre.getLast? with | some y => if lessA y x then 0 else 9 | none => 0
theorem b1A_le (sids pids : List Int) (pre : List A3) (x : A3) : b1A sids pids pre x ≤ 18 := by
  unfold b1A
  split
  · omega
  · split
    · omega
    · split
      · split <;> omega
      · omega
def secAc (sids pids : List Int) (av : List A3) : KW := if (fbw (fun pre x => (b1A sids pids pre x, [])) [] av).1 = 0 then manyM av.length 0 512 else fbw (fun pre x => (b1A sids pids pre x, [])) [] av
def inS (n : Int) (q : KW) (r : KW) : KW := if q.1 = 0 then r else (q.1, (true, n) :: q.2)
/-- A module. -/
def modM (fst : Int) (ps : List PT) (ss : List SC) (qs : List P2) (av : List A3) : KW :=
  inS 1 (if inL (ss.map SC.id) fst then (0, []) else (10, [])) (inS 2 (secPt ps) (inS 3 (secSc (ps.map PT.id) ss) (inS 4 (secPr (ss.map SC.id) qs) (inS 5 (secAc (ss.map SC.id) (ps.map PT.id) av) (0, [])))))
/-- A value that tells it. -/
def WrongK (w : World) (x : Value) (q : KW) : Prop := (q.1 = 0 ∧ x = .nilIface) ∨ (1 ≤ q.1 ∧ q.1 ≤ 18 ∧ IsFault w x q.2 q.1)
theorem WrongK.kept {w w' : World} {x : Value} {q : KW} (h : WrongK w x q) (b : Below w.heap.size w w') : WrongK w' x q := by
  rcases h with h | ⟨h1, h2, h3⟩
  · exact .inl h
  · exact .inr ⟨h1, h2, h3.kept b⟩
end Go.Proofs.YtmcmmbkodllpkaaGreatDoor.Chk
