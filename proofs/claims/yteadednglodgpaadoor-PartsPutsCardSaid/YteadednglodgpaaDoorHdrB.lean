
/- What the document tells of counts and headers: Fine, Right; the law's plain. No condition. -/

import Derived.Test.YteadednglodgpaaDoorHdrA

namespace Go.Proofs.YteadednglodgpaaDoor.Hdr

open Go.RowKit Go.PlainAid Go.Proofs.YteadednglodgpaaDoor.Oct Go.Proofs.YteadednglodgpaaDoor.Flt Go.Proofs.YteadednglodgpaaDoor.Rdr

set_option linter.unusedVariables false

set_option maxRecDepth 4000 in
set_option maxHeartbeats 4000000 in
theorem rfine_any (i : Nat) (h1 : i < 4) (n : Int) (w : World) :
    Calls Tryd.prog 37 #[.int .i64 ((i + 1 : Nat) : Int), .int .i64 n] w fun e w' => e = .returned (.bool (fineB i n)) ∧ Below w.heap.size w w' := by
  have HB : Hid (∀ o, Below w.heap.size w (w.alloc o)) := fun o => (Below.refl _ _).alloc (Nat.le_refl _) o
  rcases (show i = 0 ∨ i = 1 ∨ i = 2 ∨ i = 3 by omega) with rfl | rfl | rfl | rfl
  · rw [show fineB 0 n = (decide (1 ≤ n) && decide (n ≤ 32)) from rfl]
    clear h1
    cases t1 : decide (n ≤ 32) <;> cases t2 : decide (1 ≤ n) <;> cases t3 : (n == 0)
    all_goals
      go_enter Tryd.func37, Tryd.ntmps37
      go_wp2
      go_ret
      exact ⟨rfl, HB.out _⟩
  · rw [show fineB 1 n = (decide (1 ≤ n) && decide (n ≤ 16)) from rfl]
    clear h1
    cases t1 : decide (n ≤ 16) <;> cases t2 : decide (1 ≤ n) <;> cases t3 : (n == 0)
    all_goals
      go_enter Tryd.func37, Tryd.ntmps37
      go_wp2
      go_ret
      exact ⟨rfl, HB.out _⟩
  · rw [show fineB 2 n = ((decide (1 ≤ n) || (n == 0)) && decide (n ≤ 240)) by unfold fineB; rw [Bool.eq_iff_iff]; simp [fewL, mostL]; omega]
    clear h1
    cases t1 : decide (n ≤ 240) <;> cases t2 : decide (1 ≤ n) <;> cases t3 : (n == 0)
    all_goals
      go_enter Tryd.func37, Tryd.ntmps37
      go_wp2
      go_ret
      exact ⟨rfl, HB.out _⟩
  · rw [show fineB 3 n = ((decide (1 ≤ n) || (n == 0)) && decide (n ≤ 512)) by unfold fineB; rw [Bool.eq_iff_iff]; simp [fewL, mostL]; omega]
    clear h1
    cases t1 : decide (n ≤ 512) <;> cases t2 : decide (1 ≤ n) <;> cases t3 : (n == 0)
    all_goals
      go_enter Tryd.func37, Tryd.ntmps37
      go_wp2
      go_ret
      exact ⟨rfl, HB.out _⟩
theorem second_new (w : World) (o p : Obj) : ((w.alloc o).alloc p).heap[w.heap.size + 1]? = some p := by have := heap_alloc_new (w.alloc o) p; simpa using this
def hd0 : Array Value := #[.int .u32 0, .int .u64 0, .int .i64 0, .int .i64 0, .int .i64 0, .int .i64 0, .int .i64 0]
theorem size_rhd : (Tryd.prog.info? 36).map (·.size) = some 7 := by kernel_rfl
theorem size_hd : (Tryd.prog.info? 26).map (·.size) = some 7 := by kernel_rfl
theorem one_hd (h : H7) : (hdC h).all (·.oneCell') = true := by simp [hdC, Value.oneCell']
theorem below_set2 {w W : World} {g : Nat} {cs : Array Value} (h : Below w.heap.size w W) (hg : w.heap.size ≤ g) : Below w.heap.size w (W.setRow g cs) :=
  h.trans ⟨rfl, rfl, rfl, by simp, fun k hk => setRow_other _ _ _ _ (by omega)⟩
theorem plain_any (h : H7) (w : World) :
    Calls Tryd.prog 10 #[.agg (hdC h)] w fun e w' => e = .returned (.agg (hdC h)) ∧ Below w.heap.size w w' := by
  have HB := Lib.hid (two_below w)
  have HO := Lib.hid (one_hd h)
  unfold hdC at HO ⊢
  go_enter Tryd.func10, Tryd.ntmps10
  go_wp2_with ((with_reducible show wpList _ _ _ _ _ _); refine wpList_store_row rfl 36 (.tmp 2) (.tmp 17) rfl (w.heap.size + 1) #[.int .u32 h.tot, .int .u64 h.ep, .int .i64 h.fi, .int .i64 h.a, .int .i64 h.b, .int .i64 h.c, .int .i64 h.d] rfl rfl 36 hd0 (second_new _ _ _) (by rw [size_rhd]; rfl) rfl HO.out ?_)
  refine bodyPost_ret (v := .agg #[.int .u32 h.tot, .int .u64 h.ep, .int .i64 h.fi, .int .i64 h.a, .int .i64 h.b, .int .i64 h.c, .int .i64 h.d]) (results_cell_row (by rfl) _ _ (w.heap.size + 1) 36 _ (0, 0) _ rfl (setRow_heap _ _ _ _ _ _ (second_new _ _ _)) Tryd.underlying36 rfl (by rw [size_rhd]; rfl)) rfl ⟨rfl, ?_⟩
  exact below_set2 (HB.out _ _) (by omega)
end Go.Proofs.YteadednglodgpaaDoor.Hdr
