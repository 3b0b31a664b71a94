
/- The function NameGets returns true for every text and every section. Condition: the package-level variables hold what the program lays in them (the card ties that). This text: the walk through the Go text; the row is in the text without the W at its name's end. -/

import Derived.Test.YtbjolbgjohggiaaDoorArgs

import Derived.Test.YtbjolbgjohggiaaDoorNamD

import Derived.Test.YtbjolbgjohggiaaDoorRdrF

import Derived.Deep.RegionHeld3

namespace Go.Proofs.YtbjolbgjohggiaaDoor.nameGets

open Go.RowKit Go.PlainAid Go.Proofs.YtbjolbgjohggiaaDoor.Args

set_option linter.unusedVariables false

open Go.Proofs.YtbjolbgjohggiaaDoor.Flt Go.Proofs.YtbjolbgjohggiaaDoor.Rdr Go.Proofs.YtbjolbgjohggiaaDoor.Nam

set_option maxRecDepth 4000 in
set_option maxHeartbeats 800000 in
theorem walk (a0 : ByteArray) (a1 : Int) (w : World) (w0 : a0.size ≤ maxLen) (w1 : (Lit.int .i64 a1).wf = true) (hn : Go.Proofs.YtbjolbgjohggiaaDoor.Flt.Names w) :
    Calls Tryd.prog 7 #[.string a0, .int .i64 a1] w fun e w' => e = .returned (.bool true) ∧ Below w.heap.size w w' := by
  have HN := Lib.hid hn
  clear hn
  by_cases hl : 100 < (a0.size : Int)
  · have t : decide (100 < (a0.size : Int)) = true := decide_eq_true hl
    clear hl w0 w1
    go_enter Tryd.func7, Tryd.ntmps7
    go_wp2_with fail
    refine (new_any a0 _).mono ?_
    rintro e w2 ⟨g, hg, rfl, hr2, hb2⟩
    have HB2 := Lib.hid hb2
    clear hr2 hb2
    go_wp2_with (go_at_call 23; refine (Go.Proofs.YtbjolbgjohggiaaDoor.Nam.awake_any _).mono ?_; rintro e w' ⟨rfl, hb⟩)
    go_ret
    exact ⟨rfl, HB2.out.trans (hb.mono HB2.out.size)⟩
  · have t : decide (100 < (a0.size : Int)) = false := decide_eq_false hl
    have ho : Ok ⟨a0, 0, a1, 0, 0, 0⟩ := ⟨Nat.zero_le _, by show a0.size ≤ _; omega⟩
    have HO := Lib.hid ho
    have HRG : Hid (∀ w, Calls Tryd.prog 29 #[.agg #[.string a0, .int .i64 0, .int .i64 a1, .int .i64 0, .int .i64 0, .int .i64 0]] w (RNumPost (nmS ⟨a0, 0, a1, 0, 0, 0⟩) (.string (nmV ⟨a0, 0, a1, 0, 0, 0⟩)) w)) := fun w => rget_any ⟨a0, 0, a1, 0, 0, 0⟩ w ho
    have HGG : Hid (∀ g w, Names w → IsRdr w g ⟨a0, 0, a1, 0, 0, 0⟩ → Calls Tryd.prog 28 #[.pointer (some ⟨g, 0, none⟩)] w (SPost g (nmS ⟨a0, 0, a1, 0, 0, 0⟩) (nmV ⟨a0, 0, a1, 0, 0, 0⟩) w)) := fun g w hn hr => get_any g _ w hn hr ho
    obtain ⟨T, hT⟩ : ∃ T, nmS ⟨a0, 0, a1, 0, 0, 0⟩ = T := ⟨_, rfl⟩
    obtain ⟨X, hX⟩ : ∃ X, nmV ⟨a0, 0, a1, 0, 0, 0⟩ = X := ⟨_, rfl⟩
    rw [hT, hX] at HRG HGG
    have hxx : (X.toList == X.toList) = true := by simp
    have heq : ∀ wx : World, (Op.equalIn 10000 28 (.agg #[.int .i64 T.k, .int .i64 T.fs, .int .i64 T.fa]) (.agg #[.int .i64 T.k, .int .i64 T.fs, .int .i64 T.fa])).run Tryd.prog wx = .ok true wx := eq_flt T.k T.fs T.fa
    clear hl w0 w1 ho hT hX
    go_enter Tryd.func7, Tryd.ntmps7
    go_wp2_with fail
    refine (new_any a0 _).mono ?_
    rintro e w2 ⟨g, hg, rfl, hr2, hb2⟩
    have HB2 := Lib.hid hb2
    have HR2 := Lib.hid hr2
    have HN2 := Lib.hid (HN.out.kept hb2)
    clear hr2 hb2
    go_wp2_with fail
    refine (enter_any g _ a1 _ HR2.out).mono ?_
    rintro e w3 ⟨rfl, hr3, hj3⟩
    have HB3 := Lib.hid (HB2.out.trans (hj3.below hg HR2.out.lt))
    have HN3 := Lib.hid (Rdr.Names.just HN2.out HR2.out hj3)
    have HR3 : Hid (IsRdr w3 g ⟨a0, 0, a1, 0, 0, 0⟩) := hr3
    clear hr3 hj3
    go_wp2_with fail
    refine (HRG.out _).mono ?_
    rintro e w4 ⟨rfl, hb4⟩
    have HB4 := Lib.hid (HB3.out.trans (hb4.mono HB3.out.size))
    have HN4 := Lib.hid (HN3.out.kept hb4)
    have HR4 := Lib.hid (HR3.out.kept hb4)
    clear hb4
    have hb5 : Below w4.heap.size w4 (w4.alloc (.cells (rdC T) 30)) := (Below.refl _ _).alloc (Nat.le_refl _) _
    have HB5 := Lib.hid (HB4.out.trans (hb5.mono HB4.out.size))
    have HN5 := Lib.hid (HN4.out.kept hb5)
    have HR5 := Lib.hid (HR4.out.kept hb5)
    have HGC : Hid (w4.heap.size ≠ g) := by have := HR4.out.lt; show _ ≠ _; omega
    have hc5 := rd_cells (w := w4.alloc (.cells (rdC T) 30)) (b := w4.heap.size) (t := T) (heap_alloc_new _ _)
    have HCC : Hid (∀ w1, Just g (w4.alloc (.cells (rdC T) 30)) w1 → w1.heap[w4.heap.size]? = some (.cells (rdC T) 30 (0, 0))) := fun w1 j => (j.block _ (by simp) HGC.out).trans (heap_alloc_new _ _)
    clear hb5
    dsimp only [rdC] at HB5 HN5 HR5 hc5 HCC
    dsimp only [rdC]
    obtain ⟨hc1, hc3, hc4, hc5⟩ := hc5
    go_wp2_with fail
    obtain ⟨W, hW⟩ : ∃ W, W = w4.alloc (.cells #[.string T.s, .int .i64 T.p, .int .i64 T.sec, .int .i64 T.k, .int .i64 T.fs, .int .i64 T.fa] 30) := ⟨_, rfl⟩
    rw [← hW] at HB5 HN5 HR5 hc1 hc3 hc4 hc5 HCC
    rw [← hW]
    clear hW
    obtain ⟨C, hC⟩ : ∃ C, w4.heap.size = C := ⟨_, rfl⟩
    rw [hC] at hc1 hc3 hc4 hc5 HCC HGC
    rw [hC]
    clear hC
    go_region_held3 (fun w' => w'.cell? ⟨C, 1, none⟩ = some (.int .i64 T.p) ∧ w'.cell? ⟨C, 3, none⟩ = some (.int .i64 T.k) ∧ w'.cell? ⟨C, 4, none⟩ = some (.int .i64 T.fs) ∧ w'.cell? ⟨C, 5, none⟩ = some (.int .i64 T.fa)) (go_keep)
      (first
        | (go_at_call 28; refine (HGG.out g _ (by exact HN5.out) (by exact HR5.out.drewN 1)).mono ?_; rintro e w6 ⟨rfl, hr6, hj6⟩; have HR6 := Lib.hid hr6; have HJ6 := Lib.hid (((Just.refl g W).drewN 1).trans hj6); obtain ⟨hd1, hd3, hd4, hd5⟩ := rd_cells (HCC.out w6 HJ6.out); clear hr6 hj6)
        | (go_at_call 12; refine (fault_any g _ _ HR6.out).mono ?_; rintro e w7 ⟨rfl, hb7⟩; (try simp only [fltV]); have HR7 := Lib.hid (HR6.out.kept hb7); have HJ7 := Lib.hid (HJ6.out.trans (Just.of_below hb7)); obtain ⟨he1, he3, he4, he5⟩ := rd_cells (HCC.out w7 HJ7.out); clear hb7)
        | (go_at_call 13; refine (place_any g _ _ HR7.out).mono ?_; rintro e w' ⟨rfl, rfl⟩)
        | (go_at_call 23; refine (Go.Proofs.YtbjolbgjohggiaaDoor.Nam.awake_any _).mono ?_; rintro e w8 ⟨rfl, hb8⟩; have HJ8 := Lib.hid (HJ7.out.trans (Just.of_below hb8)); obtain ⟨hf1, hf3, hf4, hf5⟩ := rd_cells (HCC.out w8 HJ8.out); clear hb8))
    go_wp2
    go_ret
    exact ⟨rfl, HB5.out.trans (HJ8.out.below hg HR5.out.lt)⟩

end Go.Proofs.YtbjolbgjohggiaaDoor.nameGets
