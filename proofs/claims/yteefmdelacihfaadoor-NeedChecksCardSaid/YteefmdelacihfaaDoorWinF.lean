
/- Windows: the chapter's example, and what an error of Check is told as. Condition: the variables hold what the program lays there. -/

import Derived.Test.YteefmdelacihfaaDoorWinD

namespace Go.Proofs.YteefmdelacihfaaDoor.Win

open Go.RowKit Go.PlainAid Go.Proofs.YteefmdelacihfaaDoor.Oct Go.Proofs.YteefmdelacihfaaDoor.Flt Go.Proofs.YteefmdelacihfaaDoor.Rdr Go.Proofs.YteefmdelacihfaaDoor.Args

open Go.Proofs.YteefmdelacihfaaDoor.Act (A3 actL flatA ActsAt I64 Wide)

set_option linter.unusedVariables false

set_option linter.unusedSimpArgs false

theorem of_wrongA {x : Value} {k : Nat} {a : Int} (w : World) (hw : WrongA w x k a) :
    Calls Tryd.prog 22 #[x] w fun e w' => e = .returned (fltV k 0 a) ∧ Below w.heap.size w w' := by
  rcases hw with ⟨rfl, rfl, rfl⟩ | ⟨_, _, h⟩
  · exact of_nil w
  · exact of_any x [(false, a)] k w h (by simp)
def exW : List A3 := [⟨0, 0, 4⟩, ⟨0, 3, 2⟩]
theorem ex_bad : chkW [0] 10 ⟨0, 0, 0⟩ 0 exW = (12, 1) := by decide
set_option maxRecDepth 4000 in
theorem awake13 (w : World) (hn : Names w) : Calls Tryd.prog 6 #[] w fun e w' => e = .returned (.bool true) ∧ Below w.heap.size w w' := by
  obtain ⟨W, hW⟩ : ∃ W, (w.alloc (.cells #[.int .i64 0, .int .i64 0, .int .i64 4, .int .i64 0, .int .i64 3, .int .i64 2] 50)).alloc (.cells #[.int .i64 0] 3) = W := ⟨_, rfl⟩
  have hb0 : Below w.heap.size w W := by rw [← hW]; exact two_below w _ _
  have hra : W.heap[w.heap.size]? = some (.cells #[.int .i64 0, .int .i64 0, .int .i64 4, .int .i64 0, .int .i64 3, .int .i64 2] 50 (0, 0)) := by rw [← hW]; exact (heap_alloc_old _ _ (by simp)).trans (heap_alloc_new _ _)
  have hrb : W.heap[w.heap.size + 1]? = some (.cells #[.int .i64 0] 3 (0, 0)) := by rw [← hW]; have h := heap_alloc_new (w.alloc (.cells #[.int .i64 0, .int .i64 0, .int .i64 4, .int .i64 0, .int .i64 3, .int .i64 2] 50)) (.cells #[.int .i64 0] 3); rwa [World.size_alloc] at h
  have hacts : ActsAt W (some ⟨w.heap.size, 0, none⟩) exW := by
    intro i x hx
    match i, hx with
    | 0, hx => obtain rfl : (⟨0, 0, 4⟩ : A3) = x := by simpa [exW] using hx
               refine ⟨_, rfl, ?_, ?_, ?_⟩
               · exact (cell_of_row _ _ _ _ _ _ hra).trans rfl
               · exact (cell_of_row _ _ _ _ _ _ hra).trans rfl
               · exact (cell_of_row _ _ _ _ _ _ hra).trans rfl
    | 1, hx => obtain rfl : (⟨0, 3, 2⟩ : A3) = x := by simpa [exW] using hx
               refine ⟨_, rfl, ?_, ?_, ?_⟩
               · exact (cell_of_row _ _ _ _ _ _ hra).trans rfl
               · exact (cell_of_row _ _ _ _ _ _ hra).trans rfl
               · exact (cell_of_row _ _ _ _ _ _ hra).trans rfl
    | n + 2, hx => simp [exW] at hx
  have hints : IntsBelow W.heap.size W (.slice (some ⟨w.heap.size + 1, 0, none⟩) 1 1) [0] := by
    refine .inr ⟨⟨w.heap.size + 1, 0, none⟩, 1, rfl, fun _ => lt_of_block hrb, fun j hj => ?_⟩
    obtain rfl : j = 0 := by simp at hj; omega
    exact (cell_of_row _ _ _ _ _ _ hrb).trans rfl
  have HCK := Lib.hid (check_any 0 10 (some ⟨w.heap.size, 0, none⟩) 2 exW none 0 0 (some ⟨w.heap.size + 1, 0, none⟩) 1 1 [0] W (hn.kept hb0) hints hacts (fun x hx => by
    simp [exW] at hx
    rcases hx with rfl | rfl <;> exact ⟨⟨by decide, by decide⟩, ⟨by decide, by decide⟩, ⟨by decide, by decide⟩⟩) ⟨by decide, by decide⟩ (by decide) (by decide))
  have HB0 := Lib.hid hb0
  have HWE := Lib.hid hW
  rw [ex_bad] at HCK
  have HOF : Hid (∀ w x, WrongA w x 12 1 → Calls Tryd.prog 22 #[x] w fun e w' => e = .returned (fltV 12 0 1) ∧ Below w.heap.size w w') := fun w x h => of_wrongA w h
  have hef : ∀ wx : World, (Op.equalIn 10000 45 (.agg #[.int .i64 12, .int .i64 0, .int .i64 1]) (.agg #[.int .i64 12, .int .i64 0, .int .i64 1])).run Tryd.prog wx = .ok true wx := eq_flt 12 0 1
  clear hra hrb hacts hints hb0 hW hn
  go_enter Tryd.func6, Tryd.ntmps6
  go_wp2_with fail
  rw [HWE.out]
  refine HCK.out.mono ?_
  rintro e w1 ⟨x, rfl, hx, hb1⟩
  have HX := Lib.hid hx
  have HB1 := Lib.hid (HB0.out.trans (hb1.mono HB0.out.size))
  clear hx hb1
  go_wp2_with fail
  refine (HOF.out _ _ HX.out).mono ?_
  rintro e w2 ⟨rfl, hb2⟩
  simp only [fltV]
  have HB2 := Lib.hid (HB1.out.trans (hb2.mono HB1.out.size))
  clear hb2
  go_wp2
  go_ret
  exact ⟨rfl, HB2.out⟩
end Go.Proofs.YteefmdelacihfaaDoor.Win
