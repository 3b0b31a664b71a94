
/- The chapter's example, and a module's header. Condition: the variables hold what the program lays there. -/

import Derived.Test.YteadednglodgpaaDoorHdrE

namespace Go.Proofs.YteadednglodgpaaDoor.Hdr

open Go.RowKit Go.PlainAid Go.Proofs.YteadednglodgpaaDoor.Oct Go.Proofs.YteadednglodgpaaDoor.Flt Go.Proofs.YteadednglodgpaaDoor.Rdr

set_option linter.unusedVariables false

set_option linter.unusedSimpArgs false

def awT : St := ⟨⟨#[67, 87, 77, 50]⟩, 0, 0, 0, 0, 0⟩
theorem aw_k : (rdS awT).k = 3 := by decide +kernel
theorem aw_fs : (rdS awT).fs = 1 := by decide +kernel
theorem aw_fa : (rdS awT).fa = 3 := by decide +kernel
theorem eq_flt1 (w : World) : (Op.equalIn 10000 34 (.agg #[.int .i64 3, .int .i64 1, .int .i64 3]) (.agg #[.int .i64 3, .int .i64 1, .int .i64 3])).run Tryd.prog w = .ok true w := eq_flt 3 1 3 w
theorem hd0_hdZ : hdC hdZ = hd0 := rfl
set_option maxRecDepth 4000 in
set_option maxHeartbeats 800000 in
theorem awake_any (w : World) (hl : Laid w) :
    Calls Tryd.prog 7 #[] w fun e w' => e = .returned (.bool true) ∧ Below w.heap.size w w' := by
  have HL := Lib.hid hl
  have hev : rdV awT = hdZ := by unfold rdV; rw [aw_k]; rfl
  have heq := eq_flt1
  clear hl
  go_enter Tryd.func7, Tryd.ntmps7
  go_wp2_with fail
  refine (new_any ⟨#[67, 87, 77, 50]⟩ _).mono ?_
  rintro e w2 ⟨g, hg, rfl, hr2, hb2⟩
  have HB2 := Lib.hid hb2
  have HG : Hid (w.heap.size ≤ g ∧ g < w2.heap.size) := ⟨hg, hr2.lt⟩
  have HC := Lib.hid (rd_any g awT w2 (HL.out.kept hb2) hr2 ⟨Nat.zero_le _, by show 4 ≤ 1099511627776; omega⟩)
  rw [hev] at HC
  clear hr2 hb2 hev hg
  go_wp2_with fail
  refine HC.out.mono ?_
  rintro e w3 ⟨x, rfl, hw, hr3, hj3⟩
  rw [aw_k, aw_fs, aw_fa] at hw
  have HW := Lib.hid hw
  have HB3 := Lib.hid (HB2.out.trans (hj3.below HG.out.1 HG.out.2))
  have hb4 : Below w3.heap.size w3 ((w3.alloc (.cells hd0 26)).setRow w3.heap.size hd0) := below_set2 ((Below.refl _ _).alloc (Nat.le_refl _) _) (Nat.le_refl _)
  have HOF := Lib.hid (of_wrong ((w3.alloc (.cells hd0 26)).setRow w3.heap.size hd0) hw (KeptW.below hb4))
  have HB4 := Lib.hid (HB3.out.trans (hb4.mono HB3.out.size))
  have HOH := Lib.hid (one_hd hdZ)
  rw [hd0_hdZ]
  unfold hd0 at HB4 HOF ⊢
  unfold hdC hdZ at HOH
  clear hw hr3 hj3 hb4 HC
  go_wp2_with (first
    | ((with_reducible show wpList _ _ _ _ _ _); refine wpList_store_row rfl 26 (.tmp 2) (.tmp 10) rfl w3.heap.size #[.int .u32 0, .int .u64 0, .int .i64 0, .int .i64 0, .int .i64 0, .int .i64 0, .int .i64 0] rfl rfl 26 #[.int .u32 0, .int .u64 0, .int .i64 0, .int .i64 0, .int .i64 0, .int .i64 0, .int .i64 0] (heap_alloc_new _ _) (by rw [size_hd]; rfl) rfl HOH.out ?_)
    | (go_at_call 11; refine HOF.out.mono ?_; rintro e w5 ⟨rfl, hb5⟩; have HB5 := Lib.hid (HB4.out.trans (hb5.mono HB4.out.size)); clear hb5; simp only [fltV]))
  go_ret
  exact ⟨rfl, HB5.out⟩
theorem hd_of_mod (ep fi : Int) (l1 l2 l3 l4 : Nat) : (#[Value.int .u32 0, .int .u64 ep, .int .i64 fi, .int .i64 l1, .int .i64 l2, .int .i64 l3, .int .i64 l4]).all (·.oneCell') = true := by simp [Value.oneCell']
theorem plain_lit (a b c d e f g : Int) (w : World) (h : 0 ≤ a) (h' : 0 ≤ b) :
    Calls Tryd.prog 10 #[.agg #[.int .u32 a, .int .u64 b, .int .i64 c, .int .i64 d, .int .i64 e, .int .i64 f, .int .i64 g]] w fun x w' => x = .returned (.agg #[.int .u32 a, .int .u64 b, .int .i64 c, .int .i64 d, .int .i64 e, .int .i64 f, .int .i64 g]) ∧ Below w.heap.size w w' := by
  obtain ⟨a, rfl⟩ := Int.eq_ofNat_of_zero_le h
  obtain ⟨b, rfl⟩ := Int.eq_ofNat_of_zero_le h'
  exact plain_any ⟨a, b, c, d, e, f, g⟩ w
theorem eq_rhd (a b c d e f g : Int) (w : World) : (Op.equalIn 10000 36 (.agg #[.int .u32 a, .int .u64 b, .int .i64 c, .int .i64 d, .int .i64 e, .int .i64 f, .int .i64 g]) (.agg #[.int .u32 a, .int .u64 b, .int .i64 c, .int .i64 d, .int .i64 e, .int .i64 f, .int .i64 g])).run Tryd.prog w = .ok true w := by
  have hS : Tryd.prog.underlying 36 = some (.struct (Tryd.prog.fieldsOf 36)) := by kernel_rfl
  rw [show (10000 : Nat) = 9999 + 1 from rfl, run_equalIn_agg w 9999 36 _ _ hS (by kernel_rfl)]
  simp only [Program.fieldsOf, Tryd.underlying36]
  go_simp
theorem eq_hd (a b c d e f g : Int) (w : World) : (Op.equalIn 10000 26 (.agg #[.int .u32 a, .int .u64 b, .int .i64 c, .int .i64 d, .int .i64 e, .int .i64 f, .int .i64 g]) (.agg #[.int .u32 a, .int .u64 b, .int .i64 c, .int .i64 d, .int .i64 e, .int .i64 f, .int .i64 g])).run Tryd.prog w = .ok true w := by
  have hS : Tryd.prog.underlying 26 = some (.struct (Tryd.prog.fieldsOf 26)) := by kernel_rfl
  rw [show (10000 : Nat) = 9999 + 1 from rfl, run_equalIn_agg w 9999 26 _ _ hS (by kernel_rfl)]
  simp only [Program.fieldsOf, Tryd.underlying26]
  go_simp
end Go.Proofs.YteadednglodgpaaDoor.Hdr
