
/- A module's rules (latch.Of). Condition: at most 40 partitions, 20 schedules, 250 pairs. -/

import Derived.Test.YtbfhcphjeiojmaaLatC

namespace Go.Proofs.Ytbfhcphjeiojmaa.Lat

open Go.RowKit Go.PlainAid Go.Proofs.Ytbfhcphjeiojmaa.Args Go.Proofs.Ytbfhcphjeiojmaa.Cel Go.Proofs.Ytbfhcphjeiojmaa.Mpv

set_option linter.unusedVariables false

set_option linter.unusedSimpArgs false

def bm {α : Type} (s : α → Bool) : α → Option Value := fun i => if s i then some (.bool true) else none
theorem bm_get {α : Type} (s : α → Bool) (i : α) : (bm s i).getD (.bool false) = .bool (s i) := by
  unfold bm
  cases s i <;> rfl
/-- A map from numbers to truth values: of whom it is so. -/
def BMap (w : World) (b : Nat) (s : Int → Bool) (lim : Nat) : Prop := ∃ n, n ≤ lim ∧ MapV w b n (bm s)
def PMap (w : World) (b : Nat) (s : P2 → Bool) (lim : Nat) : Prop := ∃ n, n ≤ lim ∧ MapP w b n (bm s)
theorem zero_bool (w : World) : (zeroValue 4).run Try.prog w = .ok (.bool false) w := by kernel_rfl
theorem BMap.keep {w w' : World} {b lim : Nat} {s : Int → Bool} (h : BMap w b s lim) (e : Below w.heap.size w w') : BMap w' b s lim := by
  obtain ⟨n, hn, h⟩ := h
  exact ⟨n, hn, h.keep e⟩
theorem BMap.kept {w w' : World} {b lim : Nat} {s : Int → Bool} (h : BMap w b s lim) (e : w'.heap[b]? = w.heap[b]?) : BMap w' b s lim := by
  obtain ⟨n, hn, h⟩ := h
  exact ⟨n, hn, h.kept e⟩
theorem BMap.blk {w : World} {b lim : Nat} {s : Int → Bool} (h : BMap w b s lim) : b < w.heap.size := by
  obtain ⟨n, hn, h⟩ := h
  exact h.blk
theorem PMap.keep {w w' : World} {b lim : Nat} {s : P2 → Bool} (h : PMap w b s lim) (e : Below w.heap.size w w') : PMap w' b s lim := by
  obtain ⟨n, hn, h⟩ := h
  exact ⟨n, hn, h.keep e⟩
theorem PMap.kept {w w' : World} {b lim : Nat} {s : P2 → Bool} (h : PMap w b s lim) (e : w'.heap[b]? = w.heap[b]?) : PMap w' b s lim := by
  obtain ⟨n, hn, h⟩ := h
  exact ⟨n, hn, h.kept e⟩
theorem PMap.blk {w : World} {b lim : Nat} {s : P2 → Bool} (h : PMap w b s lim) : b < w.heap.size := by
  obtain ⟨n, hn, h⟩ := h
  exact h.blk
theorem BMap.look {w : World} {b lim : Nat} {s : Int → Bool} (h : BMap w b s lim) (v : Int) (hv : I64 v) : (Instr.lookup 66 (.map (some b)) (.int .i64 v) false).run Try.prog w = .ok (.bool (s v)) w := by
  obtain ⟨n, hn, h⟩ := h
  rw [h.look Try.underlying66 (zero_bool w) v hv, bm_get]
theorem PMap.look {w : World} {b lim : Nat} {s : P2 → Bool} (h : PMap w b s lim) (v : P2) (hv : I2 v) : (Instr.lookup 67 (.map (some b)) (.agg #[.int .i64 v.f, .int .i64 v.t]) false).run Try.prog w = .ok (.bool (s v)) w := by
  obtain ⟨n, hn, h⟩ := h
  rw [h.look Try.underlying67 (zero_bool w) v hv, bm_get]
theorem BMap.put {w : World} {b lim : Nat} {s : Int → Bool} (h : BMap w b s lim) (v : Int) (hv : I64 v) (hl : lim ≤ 1000000) : ∃ w', (Instr.mapUpdate 66 (.map (some b)) (.int .i64 v) (.bool true)).run Try.prog w = .ok () w' ∧ BMap w' b (fun i => s i || v == i) (lim + 1) ∧ w.grownBy w' (some b) := by
  obtain ⟨n, hn, h⟩ := h
  obtain ⟨w', h1, h2, h3⟩ := h.put Try.underlying66 v hv (.bool true) (by omega)
  refine ⟨w', h1, ⟨if (bm s v).isSome then n else n + 1, ?_, ?_⟩, h3⟩
  · split <;> omega
  · have e : (fun i => if i = v then some (Value.bool true) else bm s i) = bm fun i => s i || v == i := by
      funext i
      unfold bm
      by_cases hi : i = v
      · subst hi; simp
      · have : (v == i) = false := by simp; exact fun e => hi e.symm
        rw [if_neg hi]
        simp only [this, Bool.or_false]
    rw [← e]
    exact h2
theorem PMap.put {w : World} {b lim : Nat} {s : P2 → Bool} (h : PMap w b s lim) (v : P2) (hv : I2 v) (hl : lim ≤ 1000000) : ∃ w', (Instr.mapUpdate 67 (.map (some b)) (.agg #[.int .i64 v.f, .int .i64 v.t]) (.bool true)).run Try.prog w = .ok () w' ∧ PMap w' b (fun i => s i || eqP2 v i) (lim + 1) ∧ w.grownBy w' (some b) := by
  obtain ⟨n, hn, h⟩ := h
  obtain ⟨w', h1, h2, h3⟩ := h.put Try.underlying67 v hv (.bool true) (by omega)
  refine ⟨w', h1, ⟨if (bm s v).isSome then n else n + 1, ?_, ?_⟩, h3⟩
  · split <;> omega
  · have e : (fun i => open Classical in if i = v then some (Value.bool true) else bm s i) = bm fun i => s i || eqP2 v i := by
      funext i
      unfold bm
      by_cases hi : i = v
      · subst hi
        have : eqP2 i i = true := by unfold eqP2; simp
        simp [this]
      · have : eqP2 v i = false := by
          unfold eqP2
          obtain ⟨a, b⟩ := v
          obtain ⟨c, d⟩ := i
          by_cases h1 : a = c
          · have : ¬ b = d := fun e => hi (by rw [h1, e])
            simp [this]
          · simp [h1]
        rw [if_neg hi]
        simp only [this, Bool.or_false]
    rw [← e]
    exact h2
/-- Rules in block g. -/
structure IsR (w : World) (B g a b c lim : Nat) (s : Int → Bool) (t : P2 → Bool) (u : Int → Bool) : Prop where
  box : w.heap[g]? = some (.cells #[.map (some a), .map (some b), .map (some c)] 69 (0, 0))
  ms : BMap w a s lim
  mt : PMap w b t lim
  mu : BMap w c u lim
  aB : B ≤ a
  ab : a < b
  bc : b < c
  cg : c < g
theorem IsR.keep {w w' : World} {B g a b c lim : Nat} {s : Int → Bool} {t : P2 → Bool} {u : Int → Bool} (h : IsR w B g a b c lim s t u) (e : Below w.heap.size w w') : IsR w' B g a b c lim s t u :=
  ⟨(e.block _ (lt_of_block h.box)).trans h.box, h.ms.keep e, h.mt.keep e, h.mu.keep e, h.aB, h.ab, h.bc, h.cg⟩
theorem BMap.more {w : World} {b lim lim' : Nat} {s : Int → Bool} (h : BMap w b s lim) (e : lim ≤ lim') : BMap w b s lim' := by
  obtain ⟨n, hn, h⟩ := h
  exact ⟨n, by omega, h⟩
theorem PMap.more {w : World} {b lim lim' : Nat} {s : P2 → Bool} (h : PMap w b s lim) (e : lim ≤ lim') : PMap w b s lim' := by
  obtain ⟨n, hn, h⟩ := h
  exact ⟨n, by omega, h⟩
theorem IsR.more {w : World} {B g a b c lim lim' : Nat} {s : Int → Bool} {t : P2 → Bool} {u : Int → Bool} (h : IsR w B g a b c lim s t u) (e : lim ≤ lim') : IsR w B g a b c lim' s t u := ⟨h.box, h.ms.more e, h.mt.more e, h.mu.more e, h.aB, h.ab, h.bc, h.cg⟩
theorem IsR.c {w : World} {B g a b c lim : Nat} {s : Int → Bool} {t : P2 → Bool} {u : Int → Bool} (h : IsR w B g a b c lim s t u) : w.cell? ⟨g, 0, none⟩ = some (.map (some a)) ∧ w.cell? ⟨g, 1, none⟩ = some (.map (some b)) ∧ w.cell? ⟨g, 2, none⟩ = some (.map (some c)) := by
  refine ⟨?_, ?_, ?_⟩
  all_goals (rw [cell_of_row w _ _ _ _ _ h.box]; rfl)
theorem grown_other {w w' : World} {a k : Nat} (h : w.grownBy w' (some a)) (hk : k < w.heap.size) (hne : k ≠ a) : w'.heap[k]? = w.heap[k]? := h.block k hk (fun e => hne (Option.some.inj e))
theorem IsR.put1 {w w' : World} {B g a b c lim : Nat} {s : Int → Bool} {t : P2 → Bool} {u : Int → Bool} (h : IsR w B g a b c lim s t u) {s' : Int → Bool} (hm : BMap w' a s' (lim + 1)) (hg : w.grownBy w' (some a)) : IsR w' B g a b c (lim + 1) s' t u := by
  have h1 := h.ab
  have h2 := h.bc
  have h3 := h.cg
  exact ⟨(grown_other hg (lt_of_block h.box) (by omega)).trans h.box, hm, (h.mt.kept (grown_other hg h.mt.blk (by omega))).more (Nat.le_succ _), (h.mu.kept (grown_other hg h.mu.blk (by omega))).more (Nat.le_succ _), h.aB, h1, h2, h3⟩
theorem IsR.put2 {w w' : World} {B g a b c lim : Nat} {s : Int → Bool} {t : P2 → Bool} {u : Int → Bool} (h : IsR w B g a b c lim s t u) {t' : P2 → Bool} (hm : PMap w' b t' (lim + 1)) (hg : w.grownBy w' (some b)) : IsR w' B g a b c (lim + 1) s t' u := by
  have h1 := h.ab
  have h2 := h.bc
  have h3 := h.cg
  exact ⟨(grown_other hg (lt_of_block h.box) (by omega)).trans h.box, (h.ms.kept (grown_other hg h.ms.blk (by omega))).more (Nat.le_succ _), hm, (h.mu.kept (grown_other hg h.mu.blk (by omega))).more (Nat.le_succ _), h.aB, h1, h2, h3⟩
theorem IsR.put3 {w w' : World} {B g a b c lim : Nat} {s : Int → Bool} {t : P2 → Bool} {u : Int → Bool} (h : IsR w B g a b c lim s t u) {u' : Int → Bool} (hm : BMap w' c u' (lim + 1)) (hg : w.grownBy w' (some c)) : IsR w' B g a b c (lim + 1) s t u' := by
  have h1 := h.ab
  have h2 := h.bc
  have h3 := h.cg
  exact ⟨(grown_other hg (lt_of_block h.box) (by omega)).trans h.box, (h.ms.kept (grown_other hg h.ms.blk (by omega))).more (Nat.le_succ _), (h.mt.kept (grown_other hg h.mt.blk (by omega))).more (Nat.le_succ _), hm, h.aB, h1, h2, h3⟩
def idsS (ss : List LS) : List Int := ss.map LS.id
def mayB (ps : List LP) (i : Int) : Bool := ps.any fun p => p.id == i && p.may
theorem inB_snoc (l : List Int) (x : Int) : (fun i => inB l i || x == i) = inB (l ++ [x]) := by
  funext i
  unfold inB
  rw [List.any_append]
  simp
theorem hasB_snoc (l : List P2) (x : P2) : (fun i => hasB l i || eqP2 x i) = hasB (l ++ [x]) := by
  funext i
  unfold hasB
  rw [List.any_append]
  simp
theorem mayB_yes (l : List LP) (x : LP) (h : x.may = true) : (fun i => mayB l i || x.id == i) = mayB (l ++ [x]) := by
  funext i
  unfold mayB
  rw [List.any_append]
  simp [h]
theorem mayB_no (l : List LP) (x : LP) (h : x.may = false) : mayB (l ++ [x]) = mayB l := by
  funext i
  unfold mayB
  rw [List.any_append]
  simp [h]
theorem size_mod : (Try.prog.info? 28).map (·.size) = some 6 := by kernel_rfl
section

variable {w : World} {PA SA QA AA : Option Addr} {np pc ns sc nq qc na acp : Nat} {ps : List LP} {ss : List LS} {qs : List P2} {e f : Int}

def OfPost (ps : List LP) (ss : List LS) (qs : List P2) (w : World) (e : Ending) (w' : World) : Prop :=
  ∃ g a b c, e = .returned (.pointer (some ⟨g, 0, none⟩)) ∧ IsR w' w.heap.size g a b c 1000 (inB (idsS ss)) (hasB qs) (mayB ps) ∧ Below w.heap.size w w'
/-- The module's box, and the rules so far. -/
def OfRel (n b0 g a b c lim : Nat) (cs : Array Value) (s : Nat → Int → Bool) (t : Nat → P2 → Bool) (u : Nat → Int → Bool) (w : World) (i : Value) (W : World) : Prop :=
  ∃ k : Nat, k ≤ n ∧ i = .int .i64 (k : Int) ∧ W.heap[b0]? = some (.cells cs 28 (0, 0)) ∧ IsR W w.heap.size g a b c (lim + k) (s k) (t k) (u k) ∧ Below w.heap.size w W
def OfRel1 (n b0 g a b c : Nat) (cs : Array Value) (ids : List Int) (Br : Nat) (V : Value) (w : World) (i : Value) (W : World) : Prop :=
  OfRel n b0 g a b c 0 cs (fun k => inB (ids.take k)) (fun _ _ => false) (fun _ _ => false) w i W ∧ W.ownsRow Br 3 1 V n (ids.map (Value.int .i64)) ∧ g < Br
set_option maxRecDepth 8000 in
set_option maxHeartbeats 3200000 in
theorem of_any (h : MAt w PA SA QA np ns nq ps ss qs) (hp : np ≤ 40) (hs : ns ≤ 20) (hq : nq ≤ 250) :
    Calls Try.prog 8 #[.agg #[.int .u64 e, .int .i64 f, .slice PA np pc, .slice SA ns sc, .slice QA nq qc, .slice AA na acp]] w (OfPost ps ss qs w) := by
  have hmm := @run_makeMap Try.prog
  obtain ⟨cs, hcs⟩ : ∃ cs : Array Value, #[Value.int .u64 e, .int .i64 f, .slice PA np pc, .slice SA ns sc, .slice QA nq qc, .slice AA na acp] = cs := ⟨_, rfl⟩
  obtain ⟨W0, hW0⟩ : ∃ W, (((w.alloc (.cells cs 28)).alloc (.map #[] 0)).alloc (.map #[] 0)).alloc (.map #[] 0) = W := ⟨_, rfl⟩
  have hz0 : W0.heap.size = w.heap.size + 1 + 1 + 1 + 1 := by rw [← hW0]; simp
  have hb0 : Below w.heap.size w W0 := by rw [← hW0]; exact ((((Below.refl _ _).alloc (Nat.le_refl _) _).alloc (by simp) _).alloc (by simp; omega) _).alloc (by simp; omega) _
  have hx0 : W0.heap[w.heap.size]? = some (.cells cs 28 (0, 0)) := by
    rw [← hW0, heap_alloc_old _ _ (by simp; omega), heap_alloc_old _ _ (by simp; omega), heap_alloc_old _ _ (by simp)]
    exact heap_alloc_new _ _
  have hm1 : MapV W0 (w.heap.size + 1) 0 (fun _ => none) := by
    have h1 := map_made (w.alloc (.cells cs 28))
    rw [show (w.alloc (.cells cs 28)).heap.size = w.heap.size + 1 by simp] at h1
    have h2 := h1.keep ((Below.refl _ _).alloc (Nat.le_refl _) (.map #[] 0))
    have h3 := h2.keep ((Below.refl _ _).alloc (Nat.le_refl _) (.map #[] 0))
    rw [← hW0]; exact h3
  have hm2 : MapP W0 (w.heap.size + 1 + 1) 0 (fun _ => none) := by
    have h1 := mapp_made ((w.alloc (.cells cs 28)).alloc (.map #[] 0))
    rw [show ((w.alloc (.cells cs 28)).alloc (.map #[] 0)).heap.size = w.heap.size + 1 + 1 by simp] at h1
    have h3 := h1.keep ((Below.refl _ _).alloc (Nat.le_refl _) (.map #[] 0))
    rw [← hW0]; exact h3
  have hm3 : MapV W0 (w.heap.size + 1 + 1 + 1) 0 (fun _ => none) := by
    have h1 := map_made (((w.alloc (.cells cs 28)).alloc (.map #[] 0)).alloc (.map #[] 0))
    rw [show (((w.alloc (.cells cs 28)).alloc (.map #[] 0)).alloc (.map #[] 0)).heap.size = w.heap.size + 1 + 1 + 1 by simp] at h1
    rw [← hW0]; exact h1
  have hb1 : Below W0.heap.size W0 (W0.alloc (.cells #[.map (some (w.heap.size + 1)), .map (some (w.heap.size + 1 + 1)), .map (some (w.heap.size + 1 + 1 + 1))] 69)) := (Below.refl _ _).alloc (Nat.le_refl _) _
  have hg0 := heap_alloc_new W0 (.cells #[.map (some (w.heap.size + 1)), .map (some (w.heap.size + 1 + 1)), .map (some (w.heap.size + 1 + 1 + 1))] 69)
  obtain ⟨W1, hW1⟩ : ∃ W, W0.alloc (.cells #[.map (some (w.heap.size + 1)), .map (some (w.heap.size + 1 + 1)), .map (some (w.heap.size + 1 + 1 + 1))] 69) = W := ⟨_, rfl⟩
  rw [hW1, hz0] at hg0
  rw [hW1] at hb1
  have hir : IsR W1 w.heap.size (w.heap.size + 1 + 1 + 1 + 1) (w.heap.size + 1) (w.heap.size + 1 + 1) (w.heap.size + 1 + 1 + 1) 0 (fun _ => false) (fun _ => false) (fun _ => false) :=
    ⟨hg0, ⟨0, Nat.le_refl _, hm1.keep hb1⟩, ⟨0, Nat.le_refl _, hm2.keep hb1⟩, ⟨0, Nat.le_refl _, hm3.keep hb1⟩, by omega, by omega, by omega, by omega⟩
  rw [← hW0] at hW1
  rw [← hcs] at hW1
  have HX1 := Lib.hid ((hb1.block _ (lt_of_block hx0)).trans hx0)
  have HB1 := Lib.hid (hb0.trans (hb1.mono hb0.size))
  have HZ1 : Hid (W1.heap.size = w.heap.size + 1 + 1 + 1 + 1 + 1) := by show _ = _; rw [← hW1]; simp
  obtain ⟨a, ha⟩ : ∃ a, w.heap.size + 1 = a := ⟨_, rfl⟩
  obtain ⟨b, hb⟩ : ∃ b, a + 1 = b := ⟨_, rfl⟩
  obtain ⟨c, hc⟩ : ∃ c, b + 1 = c := ⟨_, rfl⟩
  obtain ⟨g, hg⟩ : ∃ g, c + 1 = g := ⟨_, rfl⟩
  rw [ha, hb, hc] at hW1
  rw [ha, hb, hc, hg] at hir HZ1
  have HIR := Lib.hid hir
  have HM := Lib.hid h
  have HCS := Lib.hid hcs
  have HP : Hid (np ≤ 40) := hp
  have HS : Hid (ns ≤ 20) := hs
  have HQ : Hid (nq ≤ 250) := hq
  have HA := Lib.hid ha
  have HBB := Lib.hid hb
  have HC := Lib.hid hc
  have HG := Lib.hid hg
  have HSC := Lib.hid (fun (W : World) (b : Below w.heap.size w W) => cscheds_any (pc := pc) (sc := sc) (qc := qc) (AA := AA) (na := na) (acp := acp) (e := e) (f := f) (h.kept b) (by omega))
  have HW1 := Lib.hid hW1
  have hx1 := HX1.out
  clear hz0 hb0 hx0 hm1 hm2 hm3 hb1 hg0 hir hcs hW0 h hp hs hq hW1 ha hb hc hg
  go_enter Try.func8, Try.ntmps8
  go_upto_region 2 with fail
  rw [HA.out, HBB.out, HC.out, HG.out, HW1.out]
  clear hmm
  rw [← HCS.out] at hx1
  go_wp2_with ((with_reducible show wpList _ _ _ _ _ _); refine wpList_load_row rfl 28 (.tmp 1) rfl w.heap.size rfl 28 _ (0, 0) _ hx1 Try.underlying28 rfl size_mod ?_)
  refine (HSC.out _ HB1.out).mono ?_
  rintro e w2 ⟨V, rfl, ho, hb2⟩
  obtain ⟨IA, ic, rfl⟩ := own_slice ho
  have hsl := HM.out.sl
  rw [hsl] at ho ⊢
  have hmp : (ss.map fun x => Value.int .i64 x.id) = (idsS ss).map (Value.int .i64) := by unfold idsS; rw [List.map_map]; rfl
  rw [hmp] at ho
  have HS1 : Hid (OfRel1 ns w.heap.size g a b c cs (idsS ss) W1.heap.size (.slice IA ns ic) w (.int .i64 0) w2) :=
    ⟨⟨0, Nat.zero_le _, rfl, (hb2.block _ (lt_of_block HX1.out)).trans HX1.out, (HIR.out.keep hb2).more (Nat.le_refl _), HB1.out.trans (hb2.mono HB1.out.size)⟩, ho, by have h1 := HZ1.out; omega⟩
  have HIL : Hid ((idsS ss).length = ns) := by show _ = _; unfold idsS; rw [List.length_map]; exact hsl
  clear ho hb2 hsl hmp HSC HIR hx1 HW1
  go_wp2_with fail
  go_loopw [18] (fun i W => OfRel1 ns w.heap.size g a b c cs (idsS ss) W1.heap.size (.slice IA ns ic) w i W) (fun i _ => ns - (intOf i).toNat)
  case atStart => exact HS1.out
  case round =>
    rename World => W
    obtain ⟨⟨k, hk, rfl, hbx, hir, hb3⟩, ho, hgb⟩ := hrel
    have HBX := Lib.hid hbx
    have HIR := Lib.hid hir
    have HB3 := Lib.hid hb3
    have HO := Lib.hid ho
    have HGB : Hid (g < W1.heap.size) := hgb
    clear hbx hir hb3 ho hgb HS1
    by_cases hlt : k < ns
    · obtain ⟨x, hx⟩ : ∃ x, (idsS ss)[k]? = some x := ⟨_, List.getElem?_eq_getElem (by rw [HIL.out]; exact hlt)⟩
      obtain ⟨y, rfl, e1⟩ := (zat_own HO.out) k x hx
      have hxi : I64 x := by
        obtain ⟨z, hz, rfl⟩ := List.mem_map.1 (List.mem_of_getElem? hx)
        exact HM.out.si z hz
      obtain ⟨w', hru, hbm, hgr⟩ := HIR.out.ms.put x hxi (by have := HS.out; omega)
      obtain ⟨c0, -, -⟩ := HIR.out.c
      have HLT := Lib.hid hlt
      have HTK : Hid ((fun i => inB ((idsS ss).take k) i || x == i) = inB ((idsS ss).take (k + 1))) := by
        show _ = _
        rw [inB_snoc, List.take_add_one, hx]; rfl
      have hki : (0 : Int) ≤ k := by omega
      have hkb : (k : Int) < ns := by omega
      have hk1 : IntKind.i64.wrap ((k : Int) + 1) = (k : Int) + 1 := IntWalk.i64_in _ (by have := HS.out; omega)
      have hir2 := HIR.out.put1 hbm hgr
      rw [HTK.out] at hir2
      have HIR2 := Lib.hid hir2
      have HG2 := Lib.hid hgr
      have HRU := Lib.hid hru
      clear hlt hk hx hxi hbm hgr hir2 hru
      go_wp2_with (at_mapUpdate; refine wpList_upd _ rfl _ _ _ 66 rfl _ _ _ rfl rfl rfl w' HRU.out ?_)
      have hrel2 : OfRel1 ns w.heap.size g a b c cs (idsS ss) W1.heap.size (.slice (some y) ns ic) w (.int .i64 ((k + 1 : Nat) : Int)) w' := by
        refine ⟨⟨k + 1, HLT.out, rfl, (grown_other HG2.out (lt_of_block HBX.out) (by have := HA.out; omega)).trans HBX.out, HIR2.out, HB3.out.grown HG2.out HB3.out.size (fun j hj => by have := Option.some.inj hj; have := HA.out; omega)⟩, HO.out.kept HG2.out ?_, HGB.out⟩
        rcases hu : (Value.slice (some y) ns ic).ownBlock with _ | j
        · exact .inl rfl
        · refine .inr (fun e => ?_)
          have h1 := (HO.out.lt j hu).1
          have h2 := Option.some.inj e
          have := HBB.out; have := HC.out; have := HG.out; have := HGB.out
          omega
      have HR2 := Lib.hid hrel2
      clear hrel2 e1 c0
      go_wp2
      go_roundw
      case rel => exact HR2.out
      case measure => have := HLT.out; simp [intOf]; omega
    · obtain rfl : ns = k := by omega
      clear hlt hk
      have HS2 : Hid (OfRel nq w.heap.size g a b c ns cs (fun _ => inB (idsS ss)) (fun k => hasB (qs.take k)) (fun _ _ => false) w (.int .i64 0) W) := by
        have h1 := HIR.out
        dsimp only at h1
        rw [List.take_of_length_le (by rw [HIL.out]; exact Nat.le_refl _)] at h1
        exact ⟨0, Nat.zero_le _, rfl, HBX.out, h1.more (by omega), HB3.out⟩
      have z := HBX.out
      have z4 := cell_of_row _ _ 4 _ _ _ z
      rw [← HCS.out] at z4
      simp only [List.getElem?_toArray, List.getElem?_cons_zero, List.getElem?_cons_succ] at z4
      clear z HBX HIR HB3 HO HGB
      go_wp2_with fail
      go_loopw [31] (fun i W => OfRel nq w.heap.size g a b c ns cs (fun _ => inB (idsS ss)) (fun k => hasB (qs.take k)) (fun _ _ => false) w i W) (fun i _ => nq - (intOf i).toNat)
      case atStart => exact HS2.out
      case round =>
        rename World => W
        obtain ⟨k, hk, rfl, hbx, hir, hb3⟩ := hrel
        have HBX := Lib.hid hbx
        have HIR := Lib.hid hir
        have HB3 := Lib.hid hb3
        clear hbx hir hb3 HS2 z4
        by_cases hlt : k < nq
        · obtain ⟨x, hx⟩ : ∃ x, qs[k]? = some x := ⟨_, List.getElem?_eq_getElem (by rw [HM.out.ql]; exact hlt)⟩
          obtain ⟨y, rfl, e1, e2⟩ := (HM.out.kept HB3.out).q k x hx
          have hxi : I2 x := HM.out.qi x (List.mem_of_getElem? hx)
          have hb4 : Below W.heap.size W (W.alloc (.cells #[.int .i64 x.f, .int .i64 x.t] 57)) := (Below.refl _ _).alloc (Nat.le_refl _) _
          have hx4 := heap_alloc_new W (.cells #[.int .i64 x.f, .int .i64 x.t] 57)
          have HLT := Lib.hid hlt
          have HTK : Hid ((fun i => hasB (qs.take k) i || eqP2 x i) = hasB (qs.take (k + 1))) := by
            show _ = _
            rw [hasB_snoc, List.take_add_one, hx]; rfl
          have hki : (0 : Int) ≤ k := by omega
          have hkb : (k : Int) < nq := by omega
          have HK1 : Hid (IntKind.i64.wrap ((k : Int) + 1) = (k : Int) + 1) := IntWalk.i64_in _ (by have := HQ.out; omega)
          clear hlt hk hx
          go_upto_region 10 with fail
          obtain ⟨W2, hW2⟩ : ∃ W2, W.alloc (.cells #[.int .i64 x.f, .int .i64 x.t] 57) = W2 := ⟨_, rfl⟩
          obtain ⟨Q, hQ⟩ : ∃ Q, W.heap.size = Q := ⟨_, rfl⟩
          rw [hW2, hQ] at hx4
          rw [hW2] at hb4
          rw [hW2, hQ]
          have HIR2 := Lib.hid (HIR.out.keep hb4)
          have HBX2 := Lib.hid ((hb4.block _ (lt_of_block HBX.out)).trans HBX.out)
          have HB2 := Lib.hid (HB3.out.trans (hb4.mono HB3.out.size))
          have hbd : Below W2.heap.size W2 W2.drew := ⟨rfl, rfl, rfl, Nat.le_refl _, fun _ _ => rfl⟩
          have hxd : W2.drew.heap[Q]? = some (.cells #[.int .i64 x.f, .int .i64 x.t] 57 (0, 0)) := hx4
          have hird := HIR2.out.keep hbd
          obtain ⟨w', hru, hbm, hgr⟩ := hird.mt.put x hxi (by have := HS.out; have := HQ.out; have := HLT.out; omega)
          obtain ⟨-, c1, -⟩ := hird.c
          have d0 := cell_of_row _ _ 0 _ _ _ hxd
          have d1 := cell_of_row _ _ 1 _ _ _ hxd
          simp only [List.getElem?_toArray, List.getElem?_cons_zero, List.getElem?_cons_succ] at d0 d1
          have hir2 := hird.put2 hbm hgr
          have hqb : Q ≠ b := by have h1 := HIR.out.mt.blk; omega
          have hxw := (grown_other hgr (lt_of_block hxd) hqb).trans hxd
          have d0' := cell_of_row _ _ 0 _ _ _ hxw
          have d1' := cell_of_row _ _ 1 _ _ _ hxw
          simp only [List.getElem?_toArray, List.getElem?_cons_zero, List.getElem?_cons_succ] at d0' d1'
          obtain ⟨-, c1', -⟩ := hir2.c
          clear hqb hxw
          rw [HTK.out] at hir2
          have HR2 : Hid (OfRel nq w.heap.size g a b c ns cs (fun _ => inB (idsS ss)) (fun k => hasB (qs.take k)) (fun _ _ => false) w (.int .i64 ((k + 1 : Nat) : Int)) w') :=
            ⟨k + 1, HLT.out, rfl, (grown_other hgr (lt_of_block HBX2.out) (by have := HA.out; have := HBB.out; omega)).trans HBX2.out, hir2.more (by omega), (HB2.out.trans (hbd.mono HB2.out.size)).grown hgr HB2.out.size (fun j hj => by have := Option.some.inj hj; have := HA.out; have := HBB.out; omega)⟩
          clear hb4 hx4 hW2 hQ hbd hird hbm hgr hir2 e1 e2 hxd HIR HBX HB3 HIR2 HBX2 HB2
          go_region_held3 (fun wx => wx.cell? ⟨g, 1, none⟩ = some (.map (some b)) ∧ wx.cell? ⟨Q, 0, none⟩ = some (.int .i64 x.f) ∧ wx.cell? ⟨Q, 1, none⟩ = some (.int .i64 x.t))
            (first | assumption | (go_keep; done))
            (fail)
          all_goals
            have hk1 := HK1.out
            go_wp2
            go_roundw
            case rel => exact HR2.out
            case measure => have := HLT.out; simp [intOf]; omega
        · obtain rfl : nq = k := by omega
          clear hlt hk
          have HS3 : Hid (OfRel np w.heap.size g a b c (ns + nq) cs (fun _ => inB (idsS ss)) (fun _ => hasB qs) (fun k => mayB (ps.take k)) w (.int .i64 0) W) := by
            have h1 := HIR.out
            dsimp only at h1
            rw [List.take_of_length_le (by rw [HM.out.ql]; exact Nat.le_refl _)] at h1
            exact ⟨0, Nat.zero_le _, rfl, HBX.out, h1.more (by omega), HB3.out⟩
          have z := HBX.out
          have z2 := cell_of_row _ _ 2 _ _ _ z
          rw [← HCS.out] at z2
          simp only [List.getElem?_toArray, List.getElem?_cons_zero, List.getElem?_cons_succ] at z2
          clear z HBX HIR HB3
          go_wp2_with fail
          go_loopw [44] (fun i W => OfRel np w.heap.size g a b c (ns + nq) cs (fun _ => inB (idsS ss)) (fun _ => hasB qs) (fun k => mayB (ps.take k)) w i W) (fun i _ => np - (intOf i).toNat)
          case atStart => exact HS3.out
          case round =>
            rename World => W
            obtain ⟨k, hk, rfl, hbx, hir, hb3⟩ := hrel
            have HBX := Lib.hid hbx
            have HIR := Lib.hid hir
            have HB3 := Lib.hid hb3
            clear hbx hir hb3 HS3 z2
            by_cases hlt : k < np
            · obtain ⟨x, hx⟩ : ∃ x, ps[k]? = some x := ⟨_, List.getElem?_eq_getElem (by rw [HM.out.pl]; exact hlt)⟩
              obtain ⟨y, rfl, e1, e2, e3, e4⟩ := (HM.out.kept HB3.out).p k x hx
              have hxi : I64 x.id := HM.out.pi x (List.mem_of_getElem? hx)
              have hb4 : Below W.heap.size W (W.alloc (.cells #[.int .i64 x.id, .string x.nm, .bool x.may, .slice x.B x.bn x.bc] 35)) := (Below.refl _ _).alloc (Nat.le_refl _) _
              have hx4 := heap_alloc_new W (.cells #[.int .i64 x.id, .string x.nm, .bool x.may, .slice x.B x.bn x.bc] 35)
              have HLT := Lib.hid hlt
              have htk : ps.take (k + 1) = ps.take k ++ [x] := by rw [List.take_add_one, hx]; rfl
              have hki : (0 : Int) ≤ k := by omega
              have hkb : (k : Int) < np := by omega
              have HK1 : Hid (IntKind.i64.wrap ((k : Int) + 1) = (k : Int) + 1) := IntWalk.i64_in _ (by have := HP.out; omega)
              have HTY : Hid (x.may = true → (fun i => mayB (ps.take k) i || x.id == i) = mayB (ps.take (k + 1))) := fun h => by rw [htk]; exact mayB_yes _ _ h
              have HTN : Hid (x.may = false → mayB (ps.take (k + 1)) = mayB (ps.take k)) := fun h => by rw [htk]; exact mayB_no _ _ h
              obtain ⟨id, nm, may, BB, bn, bc⟩ := x
              dsimp only at e1 e2 e3 e4 hxi hb4 hx4 HTY HTN
              clear hlt hk hx htk
              go_upto_region 15 with fail
              obtain ⟨W2, hW2⟩ : ∃ W2, W.alloc (.cells #[.int .i64 id, .string nm, .bool may, .slice BB bn bc] 35) = W2 := ⟨_, rfl⟩
              obtain ⟨Q, hQ⟩ : ∃ Q, W.heap.size = Q := ⟨_, rfl⟩
              rw [hW2, hQ] at hx4
              rw [hW2] at hb4
              rw [hW2, hQ]
              have HIR2 := Lib.hid (HIR.out.keep hb4)
              have HBX2 := Lib.hid ((hb4.block _ (lt_of_block HBX.out)).trans HBX.out)
              have HB2 := Lib.hid (HB3.out.trans (hb4.mono HB3.out.size))
              have d2 := cell_of_row _ _ 2 _ _ _ hx4
              simp only [List.getElem?_toArray, List.getElem?_cons_zero, List.getElem?_cons_succ] at d2
              cases may with
              | false =>
                have hir2 := HIR2.out
                dsimp only at hir2
                rw [← HTN.out rfl] at hir2
                have HR2 : Hid (OfRel np w.heap.size g a b c (ns + nq) cs (fun _ => inB (idsS ss)) (fun _ => hasB qs) (fun k => mayB (ps.take k)) w (.int .i64 ((k + 1 : Nat) : Int)) W2) := ⟨k + 1, HLT.out, rfl, HBX2.out, hir2.more (by omega), HB2.out⟩
                have hk1 := HK1.out
                clear hb4 hx4 hW2 hQ hir2 e1 e2 e3 e4 HIR HBX HB3 HIR2 HBX2 HB2
                go_wp2
                go_roundw
                case rel => exact HR2.out
                case measure => have := HLT.out; simp [intOf]; omega
              | true =>
                have hbd : Below W2.heap.size W2 W2.drew := ⟨rfl, rfl, rfl, Nat.le_refl _, fun _ _ => rfl⟩
                have hxd : W2.drew.heap[Q]? = some (.cells #[.int .i64 id, .string nm, .bool true, .slice BB bn bc] 35 (0, 0)) := hx4
                have hird := HIR2.out.keep hbd
                obtain ⟨w', hru, hbm, hgr⟩ := hird.mu.put id hxi (by have := HS.out; have := HQ.out; have := HP.out; have := HLT.out; omega)
                obtain ⟨-, -, c2⟩ := hird.c
                have d0 := cell_of_row _ _ 0 _ _ _ hxd
                simp only [List.getElem?_toArray, List.getElem?_cons_zero, List.getElem?_cons_succ] at d0
                have hir2 := hird.put3 hbm hgr
                have hqb : Q ≠ c := by have h1 := HIR.out.mu.blk; omega
                have hxw := (grown_other hgr (lt_of_block hxd) hqb).trans hxd
                have d0' := cell_of_row _ _ 0 _ _ _ hxw
                simp only [List.getElem?_toArray, List.getElem?_cons_zero, List.getElem?_cons_succ] at d0'
                obtain ⟨-, -, c2'⟩ := hir2.c
                clear hqb hxw
                rw [HTY.out rfl] at hir2
                have HR2 : Hid (OfRel np w.heap.size g a b c (ns + nq) cs (fun _ => inB (idsS ss)) (fun _ => hasB qs) (fun k => mayB (ps.take k)) w (.int .i64 ((k + 1 : Nat) : Int)) w') :=
                  ⟨k + 1, HLT.out, rfl, (grown_other hgr (lt_of_block HBX2.out) (by have := HA.out; have := HBB.out; have := HC.out; omega)).trans HBX2.out, hir2.more (by omega), (HB2.out.trans (hbd.mono HB2.out.size)).grown hgr HB2.out.size (fun j hj => by have := Option.some.inj hj; have := HA.out; have := HBB.out; have := HC.out; omega)⟩
                clear hb4 hx4 hW2 hQ hbd hird hbm hgr hir2 e1 e2 e3 e4 hxd HIR HBX HB3 HIR2 HBX2 HB2
                go_upto_region 16 with fail
                go_region_held3 (fun wx => wx.cell? ⟨g, 2, none⟩ = some (.map (some c)) ∧ wx.cell? ⟨Q, 0, none⟩ = some (.int .i64 id))
                  (first | assumption | (go_keep; done))
                  (fail)
                all_goals
                  have hk1 := HK1.out
                  go_wp2
                  go_roundw
                  case rel => exact HR2.out
                  case measure => have := HLT.out; simp [intOf]; omega
            · obtain rfl : np = k := by omega
              have HRF : Hid (IsR W w.heap.size g a b c 1000 (inB (idsS ss)) (hasB qs) (mayB ps)) := by
                have h1 := HIR.out
                dsimp only at h1
                rw [List.take_of_length_le (by rw [HM.out.pl]; exact Nat.le_refl _)] at h1
                exact h1.more (by have := HS.out; have := HQ.out; have := HP.out; omega)
              clear hlt hk
              go_wp2
              go_ret
              exact ⟨_, _, _, _, rfl, HRF.out, HB3.out⟩
end

end Go.Proofs.Ytbfhcphjeiojmaa.Lat
