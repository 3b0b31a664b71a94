
/- What is wrong first with windows, as the program tells it, and the document. Condition: the variables hold what the program lays there; at most 1,000 windows, and 2 to the power 40 ids. -/

import Derived.Test.YteefmdelacihfaaDoorWinA

import Derived.Test.YteefmdelacihfaaDoorWinV

import Derived.Test.YteefmdelacihfaaDoorFltB

import Derived.Test.YteefmdelacihfaaDoorFltQ

import Derived.Test.YteefmdelacihfaaDoorFltK

import Derived.Test.YteefmdelacihfaaDoorRdrA

namespace Go.Proofs.YteefmdelacihfaaDoor.Win

open Go.RowKit Go.PlainAid Go.Proofs.YteefmdelacihfaaDoor.Oct Go.Proofs.YteefmdelacihfaaDoor.Flt Go.Proofs.YteefmdelacihfaaDoor.Rdr Go.Proofs.YteefmdelacihfaaDoor.Args

open Go.Proofs.YteefmdelacihfaaDoor.Act (A3 actL flatA ActsAt I64 Wide)

set_option linter.unusedVariables false

set_option linter.unusedSimpArgs false

def okW (fr : Int) (x : A3) : Bool := if x.a < 1 then false else if x.p < 0 then false else if fr < x.p then false else decide (x.a ≤ fr - x.p)
set_option maxRecDepth 4000 in
theorem within_any (x : A3) (fr : Int) (hx : Wide x) (hf : I64 fr) (w : World) :
    Calls Tryd.prog 61 #[.agg (winC x), .int .i64 fr] w fun e w' => e = .returned (.bool (okW fr x)) ∧ Below w.heap.size w w' := by
  have HB : Hid (∀ o n, Below w.heap.size w ((w.alloc o).drewN n)) := fun o n => ⟨rfl, rfl, rfl, by simp, fun k hk => heap_alloc_old _ _ hk⟩
  have HB1 : Hid (∀ o, Below w.heap.size w (w.alloc o)) := fun o => (Below.refl _ _).alloc (Nat.le_refl _) _
  obtain ⟨s, p, a⟩ := x
  obtain ⟨_, h1, h2⟩ := hx
  unfold I64 at h1 h2 hf
  dsimp only at h1 h2
  unfold okW winC
  dsimp only
  by_cases c1 : a < 1
  · rw [if_pos c1]
    clear h1 h2 hf
    go_enter Tryd.func61, Tryd.ntmps61
    go_wp2
    go_ret
    exact ⟨rfl, HB1.out _⟩
  · rw [if_neg c1]
    by_cases c2 : p < 0
    · rw [if_pos c2]
      clear h1 h2 hf
      go_enter Tryd.func61, Tryd.ntmps61
      go_wp2
      go_ret
      exact ⟨rfl, HB1.out _⟩
    · rw [if_neg c2]
      by_cases c3 : fr < p
      · rw [if_pos c3]
        clear h1 h2 hf
        go_enter Tryd.func61, Tryd.ntmps61
        go_wp2
        go_ret
        exact ⟨rfl, HB1.out _⟩
      · rw [if_neg c3]
        have hw : IntKind.i64.wrap (fr - p) = fr - p := IntWalk.i64_in _ (by omega)
        obtain ⟨r, hr⟩ : ∃ r, decide (a ≤ fr - p) = r := ⟨_, rfl⟩
        have hr2 := hr
        rw [hr]
        clear h1 h2 hf
        go_enter Tryd.func61, Tryd.ntmps61
        go_wp2
        go_ret
        exact ⟨by first | rfl | rw [hr] | simp [hr], HB1.out _⟩
def memB (ids : List Int) (v : Int) : Bool := decide (v ∈ ids)
theorem search_any (B : Nat) (V : Value) (ids : List Int) (v : Int) (W : World) (h : OwnsZ B (sortZ ids) V W) (hl : ids.length ≤ 1099511627776) :
    Calls Tryd.prog 38 #[V, .int .i64 v] W fun e w' => ∃ i : Int, e = .returned (.tuple #[.int .i64 i, .bool (memB ids v)]) ∧ ∃ n, w' = W.drewN n := by
  have hm : (sortZ ids).contains v = memB ids v := by
    unfold memB
    rw [List.contains_eq_mem]
    simp [sortZ_mem]
  rcases h.1.2 with ⟨rfl, hz⟩ | ⟨g, cap, cur, rfl, hb, hg, r1, r2, r3, r4⟩
  · refine (Tryd.slices_BinarySearch_int_empty none 0 v W).mono ?_
    rintro e w' ⟨rfl, rfl⟩
    have : sortZ ids = [] := List.eq_nil_of_length_eq_zero hz
    rw [this] at hm
    refine ⟨0, ?_, 0, rfl⟩
    rw [← hm]; rfl
  · have hown := h.1
    have hc : ∀ j, j < (sortZ ids).length → W.cell? ⟨g, 0 + j, none⟩ = some (.int .i64 ((sortZ ids).getD j 0)) := fun j hj => by
      rw [Nat.zero_add, hown.cellAt j (by omega)]
      simp [List.getD, List.getElem?_eq_getElem hj]
    refine (Tryd.slices_BinarySearch_int g 0 (sortZ ids).length cap (sortZ ids) v W (Nat.le_refl _) (by rw [sortZ_len]; omega) hc (by rw [List.take_length]; exact sortZ_rises ids)).mono ?_
    rintro e w' ⟨rfl, q, rfl⟩
    rw [List.take_length, hm]
    exact ⟨_, rfl, q, rfl⟩
def bad1W (ids : List Int) (fr : Int) (ah x : A3) : Nat := if memB ids x.s = false then 10 else if okW fr x = false then 11 else if x.p < ah.p then 9 else if x.p < ah.p + ah.a then 12 else 0
/-- What may stand ahead of a window: a right one, or none. -/
def Ahead (ah : A3) : Prop := 0 ≤ ah.p ∧ 0 ≤ ah.a ∧ ah.p + ah.a ≤ 9223372036854775807
set_option maxRecDepth 8000 in
set_option maxHeartbeats 1600000 in
theorem wrongW_any (B : Nat) (V : Value) (ids : List Int) (fr : Int) (ah x : A3) (w : World) (h : OwnsZ B (sortZ ids) V w) (hV : ∃ A n c, V = .slice A n c) (hl : ids.length ≤ 1099511627776) (hx : Wide x) (hf : I64 fr) (ha : Ahead ah) :
    Calls Tryd.prog 44 #[.agg (winC x), .agg (winC ah), .int .i64 fr, V] w fun e w' => e = .returned (.int .i64 (bad1W ids fr ah x)) ∧ Below w.heap.size w w' := by
  obtain ⟨A, n, c, rfl⟩ := hV
  obtain ⟨s1, p1, a1⟩ := x
  obtain ⟨s2, p2, a2⟩ := ah
  have HS : Hid (∀ W, Below w.heap.size w W → Calls Tryd.prog 38 #[.slice A n c, .int .i64 s1] W fun e w' => ∃ i : Int, e = .returned (.tuple #[.int .i64 i, .bool (memB ids s1)]) ∧ ∃ n, w' = W.drewN n) := fun W b => search_any B _ ids s1 W ⟨owns_kept h.1 b, h.2⟩ hl
  have HW := Lib.hid (fun W => within_any ⟨s1, p1, a1⟩ fr hx hf W)
  obtain ⟨g1, g2, g3⟩ := ha
  dsimp only at g1 g2 g3
  have hw : IntKind.i64.wrap (p2 + a2) = p2 + a2 := IntWalk.i64_in _ (by omega)
  unfold bad1W
  unfold winC at HW ⊢
  dsimp only at HW ⊢
  obtain ⟨mb, hmb⟩ : ∃ b, memB ids s1 = b := ⟨_, rfl⟩
  obtain ⟨ok, hok⟩ : ∃ b, okW fr ⟨s1, p1, a1⟩ = b := ⟨_, rfl⟩
  rw [hmb] at HS
  rw [hok] at HW
  rw [hmb, hok]
  clear h hl hx hf g1 g2 g3 hmb hok
  have hb0 : Below w.heap.size w ((w.alloc (.cells #[.int .i64 s1, .int .i64 p1, .int .i64 a1] 50)).alloc (.cells #[.int .i64 s2, .int .i64 p2, .int .i64 a2] 50)) := two_below w _ _
  have HB0 := Lib.hid hb0
  obtain ⟨r, hr⟩ : ∃ r : Nat, (if mb = false then 10 else if ok = false then 11 else if p1 < p2 then 9 else if p1 < p2 + a2 then 12 else 0) = r := ⟨_, rfl⟩
  rw [hr]
  have HR := Lib.hid hr
  clear hr hb0
  have hra : ((w.alloc (.cells #[.int .i64 s1, .int .i64 p1, .int .i64 a1] 50)).alloc (.cells #[.int .i64 s2, .int .i64 p2, .int .i64 a2] 50)).heap[w.heap.size]? = some (.cells #[.int .i64 s1, .int .i64 p1, .int .i64 a1] 50 (0, 0)) := (heap_alloc_old _ _ (by simp)).trans (heap_alloc_new _ _)
  have hrb : ((w.alloc (.cells #[.int .i64 s1, .int .i64 p1, .int .i64 a1] 50)).alloc (.cells #[.int .i64 s2, .int .i64 p2, .int .i64 a2] 50)).heap[w.heap.size + 1]? = some (.cells #[.int .i64 s2, .int .i64 p2, .int .i64 a2] 50 (0, 0)) := by have h := heap_alloc_new (w.alloc (.cells #[.int .i64 s1, .int .i64 p1, .int .i64 a1] 50)) (.cells #[.int .i64 s2, .int .i64 p2, .int .i64 a2] 50); rwa [World.size_alloc] at h
  have HRA := Lib.hid (And.intro hra hrb)
  clear hra hrb
  go_enter Tryd.func44, Tryd.ntmps44
  go_wp2_with fail
  refine (HS.out _ HB0.out).mono ?_
  rintro e w1 ⟨i, rfl, nd, rfl⟩
  have HB1 : Hid (Below w.heap.size w (((w.alloc (.cells #[.int .i64 s1, .int .i64 p1, .int .i64 a1] 50)).alloc (.cells #[.int .i64 s2, .int .i64 p2, .int .i64 a2] 50)).drewN nd)) := ⟨HB0.out.os, HB0.out.tape, HB0.out.output, HB0.out.size, HB0.out.block⟩
  obtain ⟨W1, hW1⟩ : ∃ W, (((w.alloc (.cells #[.int .i64 s1, .int .i64 p1, .int .i64 a1] 50)).alloc (.cells #[.int .i64 s2, .int .i64 p2, .int .i64 a2] 50)).drewN nd) = W := ⟨_, rfl⟩
  have hqa : W1.heap[w.heap.size]? = some (.cells #[.int .i64 s1, .int .i64 p1, .int .i64 a1] 50 (0, 0)) := by rw [← hW1]; exact HRA.out.1
  have hqb : W1.heap[w.heap.size + 1]? = some (.cells #[.int .i64 s2, .int .i64 p2, .int .i64 a2] 50 (0, 0)) := by rw [← hW1]; exact HRA.out.2
  have HQ := Lib.hid (And.intro hqa hqb)
  rw [hW1] at HB1
  rw [hW1]
  have t0 := cell_of_row _ _ 0 _ _ _ hqa
  have t1 := cell_of_row _ _ 1 _ _ _ hqa
  have t2 := cell_of_row _ _ 2 _ _ _ hqa
  simp only [List.getElem?_toArray, List.getElem?_cons_zero, List.getElem?_cons_succ] at t0 t1 t2
  clear hW1 hqa hqb HRA HB0
  cases mb with
  | false =>
    have e0 : r = 10 := by rw [← HR.out]; rfl
    subst e0
    go_wp2
    go_ret
    exact ⟨rfl, HB1.out⟩
  | true =>
    go_wp2_with fail
    refine (HW.out _).mono ?_
    rintro e w2 ⟨rfl, hb2⟩
    have HB2 := Lib.hid (HB1.out.trans (hb2.mono HB1.out.size))
    have hqa := (hb2.block w.heap.size (lt_of_block HQ.out.1)).trans HQ.out.1
    have hqb := (hb2.block (w.heap.size + 1) (lt_of_block HQ.out.2)).trans HQ.out.2
    clear t0 t1 t2
    have q1 := cell_of_row _ _ 1 _ _ _ hqa
    have q2 := cell_of_row _ _ 1 _ _ _ hqb
    have q3 := cell_of_row _ _ 2 _ _ _ hqb
    simp only [List.getElem?_toArray, List.getElem?_cons_zero, List.getElem?_cons_succ] at q1 q2 q3
    clear hb2 hqa hqb
    cases ok with
    | false =>
      have e0 : r = 11 := by rw [← HR.out]; rfl
      subst e0
      go_wp2
      go_ret
      exact ⟨rfl, HB2.out⟩
    | true =>
      by_cases c1 : p1 < p2
      · have e0 : r = 9 := by rw [← HR.out]; simp [c1]
        subst e0
        go_wp2
        go_ret
        exact ⟨rfl, HB2.out⟩
      · by_cases c2 : p1 < p2 + a2
        · have e0 : r = 12 := by rw [← HR.out]; simp [c1, c2]
          subst e0
          go_wp2
          go_ret
          exact ⟨rfl, HB2.out⟩
        · have e0 : r = 0 := by rw [← HR.out]; simp [c1, c2]
          subst e0
          go_wp2
          go_ret
          exact ⟨rfl, HB2.out⟩
end Go.Proofs.YteefmdelacihfaaDoor.Win
