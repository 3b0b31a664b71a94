/- What is wrong first with windows, as the program tells it, and the document. Condition: the variables hold what the program lays there; at most 1,000 windows, and 2 to the power 40 ids. What package window's Check tells. Condition: the variables hold what the program lays there; at most 1,000 windows, and 2 to the power 40 ids. -/
import Derived.Test.YtpjillclladjaaaDoorMg12
import Derived.Test.YtpjillclladjaaaDoorMg10
import Derived.Test.YtpjillclladjaaaDoorMg03
import Derived.Test.YtpjillclladjaaaDoorMg04
import Derived.Test.YtpjillclladjaaaDoorMg05
import Derived.Test.YtpjillclladjaaaDoorMg06
namespace Go.Proofs.YtpjillclladjaaaDoor.Win

open Go.RowKit Go.PlainAid Go.Proofs.YtpjillclladjaaaDoor.Oct Go.Proofs.YtpjillclladjaaaDoor.Flt Go.Proofs.YtpjillclladjaaaDoor.Rdr Go.Proofs.YtpjillclladjaaaDoor.Args

open Go.Proofs.YtpjillclladjaaaDoor.Act (A3 actL flatA ActsAt I64 Wide)

set_option linter.unusedVariables false

set_option linter.unusedSimpArgs false

def okW (fr : Int) (x : A3) : Bool := if x.a < 1 then false else if x.p < 0 then false else if fr < x.p then false else decide (x.a ≤ fr - x.p)
set_option maxRecDepth 4000 in
theorem within_any (x : A3) (fr : Int) (hx : Wide x) (hf : I64 fr) (w : World) :
    Calls Tryd.prog 86 #[.agg (winC x), .int .i64 fr] w fun e w' => e = .returned (.bool (okW fr x)) ∧ Below w.heap.size w w' := by
  have HB : Hid (∀ o n, Below w.heap.size w ((w.alloc o).drewN n)) := fun o n => ⟨rfl, rfl, rfl, by simp, fun k hk => heap_alloc_old _ _ hk⟩
  have HB1 : Hid (∀ o, Below w.heap.size w (w.alloc o)) := fun o => (Below.refl _ _).alloc (Nat.le_refl _) _
  obtain ⟨s, p, a⟩ := x
  obtain ⟨_, h1, h2⟩ := hx
  unfold I64 at h1 h2 hf
  dsimp only at h1 h2
  unfold okW winC
  dsimp only
  by_cases c1 : a < 1
  · rw [if_pos c1]
    clear h1 h2 hf
    go_enter Tryd.func86, Tryd.ntmps86
    go_wp2
    go_ret
    exact ⟨rfl, HB1.out _⟩
  · rw [if_neg c1]
    by_cases c2 : p < 0
    · rw [if_pos c2]
      clear h1 h2 hf
      go_enter Tryd.func86, Tryd.ntmps86
      go_wp2
      go_ret
      exact ⟨rfl, HB1.out _⟩
    · rw [if_neg c2]
      by_cases c3 : fr < p
      · rw [if_pos c3]
        clear h1 h2 hf
        go_enter Tryd.func86, Tryd.ntmps86
        go_wp2
        go_ret
        exact ⟨rfl, HB1.out _⟩
      · rw [if_neg c3]
        have hw : IntKind.i64.wrap (fr - p) = fr - p := IntWalk.i64_in _ (by omega)
        obtain ⟨r, hr⟩ : ∃ r, decide (a ≤ fr - p) = r := ⟨_, rfl⟩
        have hr2 := hr
        rw [hr]
        clear h1 h2 hf
        go_enter Tryd.func86, Tryd.ntmps86
        go_wp2
        go_ret
        exact ⟨by first | rfl | rw [hr] | simp [hr], HB1.out _⟩
def memB (ids : List Int) (v : Int) : Bool := decide (v ∈ ids)
theorem search_any (B : Nat) (V : Value) (ids : List Int) (v : Int) (W : World) (h : OwnsZ B (sortZ ids) V W) (hl : ids.length ≤ 1099511627776) :
    Calls Tryd.prog 73 #[V, .int .i64 v] W fun e w' => ∃ i : Int, e = .returned (.tuple #[.int .i64 i, .bool (memB ids v)]) ∧ ∃ n, w' = W.drewN n := by
  have hm : (sortZ ids).contains v = memB ids v := by
    unfold memB
    rw [List.contains_eq_mem]
    simp [sortZ_mem]
  rcases h.1.2 with ⟨rfl, hz⟩ | ⟨g, cap, cur, rfl, hb, hg, r1, r2, r3, r4⟩
  · refine (Tryd.slices_BinarySearch_int_empty none 0 v W).mono ?_
    rintro e w' ⟨rfl, rfl⟩
    have : sortZ ids = [] := List.eq_nil_of_length_eq_zero hz
    rw [this] at hm
    refine ⟨0, ?_, 0, rfl⟩
    rw [← hm]; rfl
  · have hown := h.1
    have hc : ∀ j, j < (sortZ ids).length → W.cell? ⟨g, 0 + j, none⟩ = some (.int .i64 ((sortZ ids).getD j 0)) := fun j hj => by
      rw [Nat.zero_add, hown.cellAt j (by omega)]
      simp [List.getD, List.getElem?_eq_getElem hj]
    refine (Tryd.slices_BinarySearch_int g 0 (sortZ ids).length cap (sortZ ids) v W (Nat.le_refl _) (by rw [sortZ_len]; omega) hc (by rw [List.take_length]; exact sortZ_rises ids)).mono ?_
    rintro e w' ⟨rfl, q, rfl⟩
    rw [List.take_length, hm]
    exact ⟨_, rfl, q, rfl⟩
def bad1W (ids : List Int) (fr : Int) (ah x : A3) : Nat := if memB ids x.s = false then 10 else if okW fr x = false then 11 else if x.p < ah.p then 9 else if x.p < ah.p + ah.a then 12 else 0
/-- What may stand ahead of a window: a right one, or none. -/
def Ahead (ah : A3) : Prop := 0 ≤ ah.p ∧ 0 ≤ ah.a ∧ ah.p + ah.a ≤ 9223372036854775807
set_option maxRecDepth 8000 in
set_option maxHeartbeats 1600000 in
theorem wrongW_any (B : Nat) (V : Value) (ids : List Int) (fr : Int) (ah x : A3) (w : World) (h : OwnsZ B (sortZ ids) V w) (hV : ∃ A n c, V = .slice A n c) (hl : ids.length ≤ 1099511627776) (hx : Wide x) (hf : I64 fr) (ha : Ahead ah) :
    Calls Tryd.prog 71 #[.agg (winC x), .agg (winC ah), .int .i64 fr, V] w fun e w' => e = .returned (.int .i64 (bad1W ids fr ah x)) ∧ Below w.heap.size w w' := by
  obtain ⟨A, n, c, rfl⟩ := hV
  obtain ⟨s1, p1, a1⟩ := x
  obtain ⟨s2, p2, a2⟩ := ah
  have HS : Hid (∀ W, Below w.heap.size w W → Calls Tryd.prog 73 #[.slice A n c, .int .i64 s1] W fun e w' => ∃ i : Int, e = .returned (.tuple #[.int .i64 i, .bool (memB ids s1)]) ∧ ∃ n, w' = W.drewN n) := fun W b => search_any B _ ids s1 W ⟨owns_kept h.1 b, h.2⟩ hl
  have HW := Lib.hid (fun W => within_any ⟨s1, p1, a1⟩ fr hx hf W)
  obtain ⟨g1, g2, g3⟩ := ha
  dsimp only at g1 g2 g3
  have hw : IntKind.i64.wrap (p2 + a2) = p2 + a2 := IntWalk.i64_in _ (by omega)
  unfold bad1W
  unfold winC at HW ⊢
  dsimp only at HW ⊢
  obtain ⟨mb, hmb⟩ : ∃ b, memB ids s1 = b := ⟨_, rfl⟩
  obtain ⟨ok, hok⟩ : ∃ b, okW fr ⟨s1, p1, a1⟩ = b := ⟨_, rfl⟩
  rw [hmb] at HS
  rw [hok] at HW
  rw [hmb, hok]
  clear h hl hx hf g1 g2 g3 hmb hok
  have hb0 : Below w.heap.size w ((w.alloc (.cells #[.int .i64 s1, .int .i64 p1, .int .i64 a1] 82)).alloc (.cells #[.int .i64 s2, .int .i64 p2, .int .i64 a2] 82)) := two_below w _ _
  have HB0 := Lib.hid hb0
  obtain ⟨r, hr⟩ : ∃ r : Nat, (if mb = false then 10 else if ok = false then 11 else if p1 < p2 then 9 else if p1 < p2 + a2 then 12 else 0) = r := ⟨_, rfl⟩
  rw [hr]
  have HR := Lib.hid hr
  clear hr hb0
  have hra : ((w.alloc (.cells #[.int .i64 s1, .int .i64 p1, .int .i64 a1] 82)).alloc (.cells #[.int .i64 s2, .int .i64 p2, .int .i64 a2] 82)).heap[w.heap.size]? = some (.cells #[.int .i64 s1, .int .i64 p1, .int .i64 a1] 82 (0, 0)) := (heap_alloc_old _ _ (by simp)).trans (heap_alloc_new _ _)
  have hrb : ((w.alloc (.cells #[.int .i64 s1, .int .i64 p1, .int .i64 a1] 82)).alloc (.cells #[.int .i64 s2, .int .i64 p2, .int .i64 a2] 82)).heap[w.heap.size + 1]? = some (.cells #[.int .i64 s2, .int .i64 p2, .int .i64 a2] 82 (0, 0)) := by have h := heap_alloc_new (w.alloc (.cells #[.int .i64 s1, .int .i64 p1, .int .i64 a1] 82)) (.cells #[.int .i64 s2, .int .i64 p2, .int .i64 a2] 82); rwa [World.size_alloc] at h
  have HRA := Lib.hid (And.intro hra hrb)
  clear hra hrb
  go_enter Tryd.func71, Tryd.ntmps71
  go_wp2_with fail
  refine (HS.out _ HB0.out).mono ?_
  rintro e w1 ⟨i, rfl, nd, rfl⟩
  have HB1 : Hid (Below w.heap.size w (((w.alloc (.cells #[.int .i64 s1, .int .i64 p1, .int .i64 a1] 82)).alloc (.cells #[.int .i64 s2, .int .i64 p2, .int .i64 a2] 82)).drewN nd)) := ⟨HB0.out.os, HB0.out.tape, HB0.out.output, HB0.out.size, HB0.out.block⟩
  obtain ⟨W1, hW1⟩ : ∃ W, (((w.alloc (.cells #[.int .i64 s1, .int .i64 p1, .int .i64 a1] 82)).alloc (.cells #[.int .i64 s2, .int .i64 p2, .int .i64 a2] 82)).drewN nd) = W := ⟨_, rfl⟩
  have hqa : W1.heap[w.heap.size]? = some (.cells #[.int .i64 s1, .int .i64 p1, .int .i64 a1] 82 (0, 0)) := by rw [← hW1]; exact HRA.out.1
  have hqb : W1.heap[w.heap.size + 1]? = some (.cells #[.int .i64 s2, .int .i64 p2, .int .i64 a2] 82 (0, 0)) := by rw [← hW1]; exact HRA.out.2
  have HQ := Lib.hid (And.intro hqa hqb)
  rw [hW1] at HB1
  rw [hW1]
  have t0 := cell_of_row _ _ 0 _ _ _ hqa
  have t1 := cell_of_row _ _ 1 _ _ _ hqa
  have t2 := cell_of_row _ _ 2 _ _ _ hqa
  simp only [List.getElem?_toArray, List.getElem?_cons_zero, List.getElem?_cons_succ] at t0 t1 t2
  clear hW1 hqa hqb HRA HB0
  cases mb with
  | false =>
    have e0 : r = 10 := by rw [← HR.out]; rfl
    subst e0
    go_wp2
    go_ret
    exact ⟨rfl, HB1.out⟩
  | true =>
    go_wp2_with fail
    refine (HW.out _).mono ?_
    rintro e w2 ⟨rfl, hb2⟩
    have HB2 := Lib.hid (HB1.out.trans (hb2.mono HB1.out.size))
    have hqa := (hb2.block w.heap.size (lt_of_block HQ.out.1)).trans HQ.out.1
    have hqb := (hb2.block (w.heap.size + 1) (lt_of_block HQ.out.2)).trans HQ.out.2
    clear t0 t1 t2
    have q1 := cell_of_row _ _ 1 _ _ _ hqa
    have q2 := cell_of_row _ _ 1 _ _ _ hqb
    have q3 := cell_of_row _ _ 2 _ _ _ hqb
    simp only [List.getElem?_toArray, List.getElem?_cons_zero, List.getElem?_cons_succ] at q1 q2 q3
    clear hb2 hqa hqb
    cases ok with
    | false =>
      have e0 : r = 11 := by rw [← HR.out]; rfl
      subst e0
      go_wp2
      go_ret
      exact ⟨rfl, HB2.out⟩
    | true =>
      by_cases c1 : p1 < p2
      · have e0 : r = 9 := by rw [← HR.out]; simp [c1]
        subst e0
        go_wp2
        go_ret
        exact ⟨rfl, HB2.out⟩
      · by_cases c2 : p1 < p2 + a2
        · have e0 : r = 12 := by rw [← HR.out]; simp [c1, c2]
          subst e0
          go_wp2
          go_ret
          exact ⟨rfl, HB2.out⟩
        · have e0 : r = 0 := by rw [← HR.out]; simp [c1, c2]
          subst e0
          go_wp2
          go_ret
          exact ⟨rfl, HB2.out⟩
end Go.Proofs.YtpjillclladjaaaDoor.Win

namespace Go.Proofs.YtpjillclladjaaaDoor.Win

open Go.RowKit Go.PlainAid Go.Proofs.YtpjillclladjaaaDoor.Oct Go.Proofs.YtpjillclladjaaaDoor.Flt Go.Proofs.YtpjillclladjaaaDoor.Rdr Go.Proofs.YtpjillclladjaaaDoor.Args

open Go.Proofs.YtpjillclladjaaaDoor.Act (A3 actL flatA ActsAt I64 Wide row_beside)

set_option linter.unusedVariables false

set_option linter.unusedSimpArgs false

def chkW (ids : List Int) (fr : Int) : A3 → Nat → List A3 → Nat × Int
  | _, _, [] => (0, 0)
  | ah, i, x :: l => if bad1W ids fr ah x = 0 then chkW ids fr x (i + 1) l else (bad1W ids fr ah x, i)
theorem bad1_le (ids : List Int) (fr : Int) (ah x : A3) : bad1W ids fr ah x ≤ 18 := by
  unfold bad1W
  split
  · omega
  · split
    · omega
    · split
      · omega
      · split <;> omega
theorem bad1_ok {ids : List Int} {fr : Int} {ah x : A3} (hf : I64 fr) (h : bad1W ids fr ah x = 0) : Ahead x := by
  unfold bad1W at h
  split at h
  · omega
  · split at h
    · omega
    · rename_i h2
      unfold okW at h2
      unfold Ahead I64 at *
      split at h2
      · simp at h2
      · split at h2
        · simp at h2
        · split at h2
          · simp at h2
          · simp at h2; omega
theorem ahead_no : Ahead ⟨0, 0, 0⟩ := ⟨Int.le_refl _, Int.le_refl _, by decide⟩
/-- What is wrong, and at which. -/
def WrongA (w : World) (x : Value) (k : Nat) (a : Int) : Prop := (k = 0 ∧ a = 0 ∧ x = .nilIface) ∨ (1 ≤ k ∧ k ≤ 18 ∧ IsFault w x [(false, a)] k)
theorem WrongA.kept {w w' : World} {x : Value} {k : Nat} {a : Int} (h : WrongA w x k a) (b : Below w.heap.size w w') : WrongA w' x k a := by
  rcases h with h | ⟨h1, h2, h3⟩
  · exact .inl h
  · exact .inr ⟨h1, h2, h3.kept b⟩
/-- Within Check: the schedule's box b, the window ahead in block H, the ids that rise. -/
structure CW (b H : Nat) (xs : Array Value) (V : Value) (ids : List Int) (ah : A3) (w wr : World) : Prop where
  box : wr.heap[b]? = some (.cells xs 31 (0, 0))
  ahd : wr.heap[H]? = some (.cells (winC ah) 82 (0, 0))
  own : OwnsZ w.heap.size (sortZ ids) V wr
  hb : w.heap.size ≤ b
  hH : w.heap.size ≤ H
  below : Below w.heap.size w wr
theorem CW.keep {b H : Nat} {xs : Array Value} {V : Value} {ids : List Int} {ah : A3} {w wr w' : World} (f : CW b H xs V ids ah w wr) (k : Below wr.heap.size wr w') : CW b H xs V ids ah w w' :=
  ⟨(k.block _ (lt_of_block f.box)).trans f.box, (k.block _ (lt_of_block f.ahd)).trans f.ahd, ⟨owns_kept f.own.1 k, f.own.2⟩, f.hb, f.hH, f.below.trans (k.mono f.below.size)⟩
theorem just_set (w : World) (X : Nat) (cs : Array Value) : Just X w (w.setRow X cs) := ⟨rfl, rfl, rfl, (by simp), fun k _ hne => setRow_other _ _ _ _ hne⟩
theorem CW.set {b H : Nat} {xs : Array Value} {V : Value} {ids : List Int} {ah : A3} {w wr : World} (f : CW b H xs V ids ah w wr) (x : A3) : CW b H xs V ids x w (wr.setRow H (winC x)) := by
  have j := just_set wr H (winC x)
  have hbH : b ≠ H := by
    intro e
    have h1 := f.box
    rw [e, f.ahd] at h1
    simp only [Option.some.injEq, Obj.cells.injEq] at h1
    exact absurd h1.2.1 (by decide)
  refine ⟨(j.block _ (lt_of_block f.box) hbH).trans f.box, setRow_heap _ _ _ _ _ _ f.ahd, ⟨row_beside f.own.1 j fun k hk e => ?_, f.own.2⟩, f.hb, f.hH, ⟨f.below.os, f.below.tape, f.below.output, Nat.le_trans f.below.size j.size, fun k hk => ?_⟩⟩
  · rcases f.own.1.2 with ⟨e1, _⟩ | ⟨g, cap, cur, e1, _, hg, _⟩
    · rw [e1] at hk; cases hk
    · rw [e1] at hk
      have : g = k := by simpa [Value.ownBlock] using hk
      rw [this, e, f.ahd] at hg
      simp only [Option.some.injEq, Obj.cells.injEq] at hg
      exact absurd hg.2.1 (by decide)
  · exact (j.block k (Nat.lt_of_lt_of_le hk f.below.size) (by have := f.hH; omega)).trans (f.below.block k hk)
theorem size_win : (Tryd.prog.info? 82).map (·.size) = some 3 := by kernel_rfl
theorem one_win (t : A3) : (winC t).all (·.oneCell') = true := by simp [winC, Value.oneCell']
def lastW (l : List A3) : A3 := l.getLast?.getD ⟨0, 0, 0⟩
theorem last_takeW (l : List A3) (k : Nat) (x : A3) (hx : l[k]? = some x) : lastW (l.take (k + 1)) = x := by
  have hk : k < l.length := (List.getElem?_eq_some_iff.1 hx).1
  unfold lastW
  rw [List.getLast?_eq_getElem?]
  simp only [List.length_take]
  rw [show min (k + 1) l.length - 1 = k by omega, List.getElem?_take_of_lt (by omega), hx]
  rfl
def CKRel (b H : Nat) (xs : Array Value) (V : Value) (ids : List Int) (fr : Int) (l : List A3) (q : Nat × Int) (w : World) (i : Value) (wr : World) : Prop :=
  ∃ k : Nat, k ≤ l.length ∧ i = .int .i64 k ∧ q = chkW ids fr (lastW (l.take k)) k (l.drop k) ∧ Ahead (lastW (l.take k)) ∧ CW b H xs V ids (lastW (l.take k)) w wr
theorem IntsBelow.mono {n m : Nat} {W : World} {sv : Value} {zs : List Int} (h : IntsBelow n W sv zs) (hm : n ≤ m) : IntsBelow m W sv zs := by
  rcases h with h | ⟨y, cap, e, hb, hc⟩
  · exact .inl h
  · exact .inr ⟨y, cap, e, fun h0 => Nat.lt_of_lt_of_le (hb h0) hm, hc⟩
theorem OwnsZ.slice {B : Nat} {zs : List Int} {V : Value} {W : World} (h : OwnsZ B zs V W) : ∃ A n c, V = .slice A n c := by
  rcases h.1.2 with ⟨rfl, _⟩ | ⟨g, cap, cur, rfl, _⟩
  · exact ⟨_, _, _, rfl⟩
  · exact ⟨_, _, _, rfl⟩
set_option maxRecDepth 8000 in
set_option maxHeartbeats 3200000 in
theorem check_any (id fr : Int) (P : Option Addr) (pc : Nat) (l : List A3) (C : Option Addr) (nn cc : Nat) (I : Option Addr) (li ci : Nat) (ids : List Int) (w : World) (hn : Names w) (hI : IntsBelow w.heap.size w (.slice I li ci) ids)
    (h1 : ActsAt w P l) (hw : ∀ x ∈ l, Wide x) (hf : I64 fr) (hl : l.length ≤ 1000) (hids : ids.length ≤ 1099511627776) :
    Calls Tryd.prog 49 #[.agg #[.int .i64 id, .int .i64 fr, .slice P l.length pc, .slice C nn cc], .slice I li ci] w fun e w' => ∃ x, e = .returned x ∧ WrongA w' x (chkW ids fr ⟨0, 0, 0⟩ 0 l).1 (chkW ids fr ⟨0, 0, 0⟩ 0 l).2 ∧ Below w.heap.size w w' := by
  obtain ⟨q, hq⟩ : ∃ q, chkW ids fr ⟨0, 0, 0⟩ 0 l = q := ⟨_, rfl⟩
  have HQ := Lib.hid hq
  rw [hq]
  obtain ⟨a, ha⟩ : ∃ a, l.length = a := ⟨_, rfl⟩
  have HA := Lib.hid ha
  rw [ha] at hl
  rw [ha]
  have H1 := Lib.hid h1
  have HN := Lib.hid hn
  have HW := Lib.hid hw
  have HF := Lib.hid hf
  have HID : Hid (ids.length ≤ 1099511627776) := hids
  have hb0 : Below w.heap.size w (w.alloc (.cells #[.int .i64 id, .int .i64 fr, .slice P a pc, .slice C nn cc] 31)) := (Below.refl _ _).alloc (Nat.le_refl _) _
  have HB0 := Lib.hid hb0
  have HI := Lib.hid (hI.below hb0)
  clear hq ha h1 hn hw hf hids hI hb0
  go_enter Tryd.func49, Tryd.ntmps49
  go_wp2_with fail
  refine (values_any I li ci _).mono ?_
  rintro e w1 ⟨rfl, rfl⟩
  obtain ⟨W1, hW1⟩ : ∃ W, w.alloc (.cells #[.int .i64 id, .int .i64 fr, .slice P a pc, .slice C nn cc] 31) = W := ⟨_, rfl⟩
  have hbox : W1.heap[w.heap.size]? = some (.cells #[.int .i64 id, .int .i64 fr, .slice P a pc, .slice C nn cc] 31 (0, 0)) := by rw [← hW1]; exact heap_alloc_new _ _
  rw [hW1] at HB0 HI
  rw [hW1]
  have hb2 : Below W1.heap.size W1 (W1.alloc (.cells #[.slice I li ci] 24)) := (Below.refl _ _).alloc (Nat.le_refl _) _
  have hs := sorted_any W1.heap.size (.slice I li ci) ids (W1.alloc (.cells #[.slice I li ci] 24)) HID.out (by rw [cell_of_row _ _ _ _ _ _ (heap_alloc_new W1 _)]; rfl) ((HI.out.below (hb2.mono HB0.out.size)).mono (by have := HB0.out.size; simp; omega))
  have HS := Lib.hid hs
  have HB2 := Lib.hid (HB0.out.trans (hb2.mono HB0.out.size))
  have HBX := Lib.hid ((hb2.block _ (lt_of_block hbox)).trans hbox)
  clear hW1 hbox hb2 hs HI HB0
  go_wp2_with fail
  refine HS.out.mono ?_
  rintro e w3 ⟨V, rfl, ho3, hb3⟩
  obtain ⟨VA, VN, VC, hV⟩ := ho3.slice
  have hb4 : Below w3.heap.size w3 (w3.alloc (.cells #[.int .i64 0, .int .i64 0, .int .i64 0] 82)) := (Below.refl _ _).alloc (Nat.le_refl _) _
  have hb34 := hb3.trans (hb4.mono hb3.size)
  have hc0 : CW w.heap.size w3.heap.size #[.int .i64 id, .int .i64 fr, .slice P a pc, .slice C nn cc] V ids ⟨0, 0, 0⟩ w (w3.alloc (.cells #[.int .i64 0, .int .i64 0, .int .i64 0] 82)) := by
    have hbw := HB2.out.trans (hb34.mono HB2.out.size)
    refine ⟨(hb34.block _ (lt_of_block HBX.out)).trans HBX.out, heap_alloc_new _ _, ⟨?_, ho3.2⟩, Nat.le_refl _, ?_, hbw⟩
    · exact owns_kept (Go.Proofs.YtpjillclladjaaaDoor.Act.row_base ho3.1 HB2.out.size) hb4
    · exact Nat.le_trans HB2.out.size hb3.size
  subst hV
  have HC0 := Lib.hid hc0
  have x4 := cell_of_row _ _ 2 _ _ _ HC0.out.box
  simp only [List.getElem?_toArray, List.getElem?_cons_zero, List.getElem?_cons_succ] at x4
  clear ho3 hb3 hb4 hb34 hc0 HS
  go_wp2_with fail
  obtain ⟨W4, hW4⟩ : ∃ W, w3.alloc (.cells #[.int .i64 0, .int .i64 0, .int .i64 0] 82) = W := ⟨_, rfl⟩
  obtain ⟨H, hH⟩ : ∃ H, w3.heap.size = H := ⟨_, rfl⟩
  rw [hH, hW4] at HC0
  rw [hH, hW4]
  clear hH hW4 x4 HB2 HBX
  go_loopw [16] (fun i wr => CKRel w.heap.size H #[.int .i64 id, .int .i64 fr, .slice P a pc, .slice C nn cc] (.slice VA VN VC) ids fr l q w i wr) (fun i _ => a - (intOf i).toNat)
  case atStart => exact ⟨0, Nat.zero_le _, rfl, HQ.out.symm, ahead_no, HC0.out⟩
  case round =>
    obtain ⟨k, hk, rfl, hq, hah, hcw⟩ := hrel
    have HCW := Lib.hid hcw
    have HQK := Lib.hid hq
    have HAH := Lib.hid hah
    have hka : k ≤ a := by rw [← HA.out]; exact hk
    clear hk hq hah hcw HC0
    by_cases hlt : k < a
    · obtain ⟨x, hx⟩ : ∃ x, l[k]? = some x := ⟨_, List.getElem?_eq_getElem (by rw [HA.out]; exact hlt)⟩
      obtain ⟨ax, rfl, c1, c2, c3⟩ := (H1.out.kept HCW.out.below) k x hx
      have HWX := Lib.hid (HW.out x (List.mem_of_getElem? hx))
      have hdr : l.drop k = x :: l.drop (k + 1) := by
        rw [List.drop_eq_getElem_cons (by rw [HA.out]; exact hlt)]
        congr 1
        rw [List.getElem?_eq_getElem (by rw [HA.out]; exact hlt)] at hx
        exact Option.some.inj hx
      have hst := HQK.out
      rw [hdr, chkW] at hst
      have HST := Lib.hid hst
      have HLT := Lib.hid (last_takeW l k x hx)
      obtain ⟨ah, hah⟩ : ∃ ah, lastW (l.take k) = ah := ⟨_, rfl⟩
      rw [hah] at HCW HAH HST
      clear hah hst hdr hx HQK
      have hb5 : Below wr.heap.size wr (wr.alloc (.cells (winC x) 82)) := (Below.refl _ _).alloc (Nat.le_refl _) _
      have HC5 := Lib.hid (HCW.out.keep hb5)
      have HX5 := Lib.hid (heap_alloc_new wr (.cells (winC x) 82))
      have HCALL := Lib.hid (wrongW_any w.heap.size (.slice VA VN VC) ids fr ah x (wr.alloc (.cells (winC x) 82)) HC5.out.own ⟨_, _, _, rfl⟩ HID.out HWX.out HF.out HAH.out)
      have b1 := cell_of_row _ _ 1 _ _ _ HC5.out.box
      have d0 := cell_of_row _ _ 0 _ _ _ HC5.out.ahd
      have d1 := cell_of_row _ _ 1 _ _ _ HC5.out.ahd
      have d2 := cell_of_row _ _ 2 _ _ _ HC5.out.ahd
      obtain ⟨s1, p1, a1⟩ := x
      obtain ⟨s2, p2, a2⟩ := ah
      unfold winC at HCALL HX5 HC5 d0 d1 d2 b1
      simp only [List.getElem?_toArray, List.getElem?_cons_zero, List.getElem?_cons_succ] at b1 d0 d1 d2
      dsimp only at c1 c2 c3 HCALL HX5 HC5 b1 d0 d1 d2
      obtain ⟨r, hr⟩ : ∃ r, bad1W ids fr ⟨s2, p2, a2⟩ ⟨s1, p1, a1⟩ = r := ⟨_, rfl⟩
      have HR := Lib.hid hr
      rw [hr] at HCALL HST
      have hki : (0 : Int) ≤ k := by omega
      have hkb : (k : Int) < a := by omega
      clear hr hb5
      go_wp2_with fail
      refine HCALL.out.mono ?_
      rintro e w6 ⟨rfl, hb6⟩
      have HC6 := Lib.hid (HC5.out.keep hb6)
      have HX6 := Lib.hid ((hb6.block _ (lt_of_block HX5.out)).trans HX5.out)
      have HSW := Lib.hid size_win
      clear hb6 HC5 HX5 HCALL b1 d0 d1 d2 c1 c2 c3
      by_cases hr0 : r = 0
      · subst hr0
        have HC7 := Lib.hid (HC6.out.set ⟨s1, p1, a1⟩)
        have hk1 : IntKind.i64.wrap ((k : Int) + 1) = (k : Int) + 1 := IntWalk.i64_in _ (by omega)
        have hno : ((0 : Nat) : Int) = 0 := rfl
        go_wp2_with (first
          | ((with_reducible show wpList _ _ _ _ _ _); refine wpList_load_row rfl 82 (.tmp 8) rfl (wr.heap.size) rfl 82 (winC ⟨s1, p1, a1⟩) (0, 0) _ HX6.out Tryd.underlying82 rfl (by rw [HSW.out]; rfl) ?_)
          | ((with_reducible show wpList _ _ _ _ _ _); refine wpList_store_row rfl 82 (.tmp 6) (.tmp 33) rfl H (winC ⟨s1, p1, a1⟩) rfl rfl 82 (winC ⟨s2, p2, a2⟩) HC6.out.ahd (by rw [HSW.out]; rfl) rfl (one_win _) ?_))
        go_roundw
        case rel =>
          refine ⟨k + 1, by have := HA.out; omega, by go_num, ?_, ?_, ?_⟩
          · rw [HLT.out, HST.out]; simp
          · rw [HLT.out]; exact bad1_ok HF.out HR.out
          · rw [HLT.out]; exact HC7.out
        case measure => simp [intOf]; omega
      · have hr1 : 1 ≤ r ∧ r ≤ 18 := ⟨by omega, by rw [← HR.out]; exact bad1_le _ _ _ _⟩
        have hno : ((r : Int) != 0) = true := by simp; omega
        have hqe : q = (r, (k : Int)) := by rw [HST.out, if_neg hr0]
        have HR1 := Lib.hid hr1
        clear hr1 hr0
        subst hqe
        go_wp2_with (first
          | (go_at_call 39; refine (new_yes r HR1.out.1 HR1.out.2 _ (HN.out.kept HC6.out.below)).mono ?_; rintro e w' ⟨rfl, rfl⟩)
          | (go_at_call 38; refine (at_any (k : Int) _ [] r _ rfl).mono ?_; rintro e w7 ⟨y, rfl, hy, hb7⟩; have HY := Lib.hid hy; have HB7 := Lib.hid (HC6.out.below.trans (hb7.mono HC6.out.below.size)); clear hy hb7))
        go_ret
        exact ⟨y, rfl, .inr ⟨HR1.out.1, HR1.out.2, HY.out⟩, HB7.out⟩
    · obtain rfl : k = a := by omega
      have hqe : q = (0, 0) := by
        rw [HQK.out, List.drop_eq_nil_of_le (by rw [HA.out]; exact Nat.le_refl _)]; rfl
      subst hqe
      have HBE := Lib.hid HCW.out.below
      clear HCW HQK
      go_wp2
      go_ret
      exact ⟨_, rfl, .inl ⟨rfl, rfl, rfl⟩, HBE.out⟩
end Go.Proofs.YtpjillclladjaaaDoor.Win
