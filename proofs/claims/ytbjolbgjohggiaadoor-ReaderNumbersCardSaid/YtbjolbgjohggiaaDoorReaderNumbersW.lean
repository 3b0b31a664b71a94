
/- The function ReaderNumbers returns true for every text, every number and every count of bytes that lack. Condition: the package-level variables hold what the program lays in them (the card ties that). This text: the walk through the Go text; the row is in the text without the W at its name's end. -/

import Derived.Test.YtbjolbgjohggiaaDoorArgs

import Derived.Test.YtbjolbgjohggiaaDoorRdrG

namespace Go.Proofs.YtbjolbgjohggiaaDoor.readerNumbers

open Go.RowKit Go.PlainAid Go.Proofs.YtbjolbgjohggiaaDoor.Args

set_option linter.unusedVariables false

open Go.Proofs.YtbjolbgjohggiaaDoor.Flt Go.Proofs.YtbjolbgjohggiaaDoor.Rdr Go.Proofs.YtbjolbgjohggiaaDoor.Oct

def kRow : Array Value := #[.int .i64 1, .int .i64 2, .int .i64 4, .int .i64 8]
/-- What the rounds keep: the row of sizes, and that nothing that was there has changed. -/
def NRel (B : Nat) (w : World) (i : Value) (wr : World) : Prop :=
  ∃ k : Nat, k ≤ 4 ∧ i = .int .i64 k ∧ wr.heap[B]? = some (.cells kRow 3 (0, 0)) ∧ Names wr ∧ Below w.heap.size w wr
set_option maxRecDepth 8000 in
set_option maxHeartbeats 1600000 in
theorem walk (a0 : ByteArray) (a1 : Int) (a2 : Int) (w : World) (w0 : a0.size ≤ maxLen) (w1 : (Lit.int .u64 a1).wf = true) (w2 : (Lit.int .u8 a2).wf = true) (hn : Go.Proofs.YtbjolbgjohggiaaDoor.Flt.Names w) :
    Calls Tryd.prog 4 #[.string a0, .int .u64 a1, .int .u8 a2] w fun e w' => e = .returned (.bool true) ∧ Below w.heap.size w w' := by
  have HN := Lib.hid hn
  clear hn
  have b1 := bounds_u64 w1
  have b2 := bounds_u8 w2
  obtain ⟨v, rfl⟩ : ∃ v : Nat, a1 = v := ⟨a1.toNat, by omega⟩
  obtain ⟨c, rfl⟩ : ∃ c : Nat, a2 = c := ⟨a2.toNat, by omega⟩
  have hv : v ≤ 18446744073709551615 := by omega
  have hc : (c : Int) ≤ 255 := by omega
  by_cases hl : 100 < (a0.size : Int)
  · have t : decide (100 < (a0.size : Int)) = true := decide_eq_true hl
    clear hl w0 w1 w2 b1 b2 hv hc
    go_enter Tryd.func4, Tryd.ntmps4
    go_wp2_with (go_at_call 10; refine (Go.Proofs.YtbjolbgjohggiaaDoor.Rdr.awake_any _ HN.out).mono ?_; rintro e w' ⟨rfl, hb⟩)
    go_ret
    exact ⟨rfl, hb⟩
  · have t : decide (100 < (a0.size : Int)) = false := decide_eq_false hl
    have ha : a0.size ≤ 100 := by omega
    have HA := Lib.hid ha
    have HV := Lib.hid hv
    have HC := Lib.hid hc
    have ha2 : (a0.size : Int) ≤ 100 := by omega
    clear hl w0 w1 w2 b1 b2 hv ha
    go_enter Tryd.func4, Tryd.ntmps4
    go_wp2_with fail
    go_loopw [20] (fun i wr => NRel w.heap.size w i wr) (fun i _ => 4 - (intOf i).toNat)
    case atStart => exact ⟨0, by omega, rfl, heap_alloc_new _ _, HN.out.kept ((Below.refl _ _).alloc (Nat.le_refl _) _), (Below.refl _ _).alloc (Nat.le_refl _) _⟩
    case round =>
      obtain ⟨k, hk, rfl, hrow, hnr, hbr⟩ := hrel
      have HROW := Lib.hid hrow
      have HNR := Lib.hid hnr
      have HBR := Lib.hid hbr
      have hblt : w.heap.size < wr.heap.size := lt_of_block hrow
      rcases (show k = 0 ∨ k = 1 ∨ k = 2 ∨ k = 3 ∨ k = 4 by omega) with rfl | rfl | rfl | rfl | rfl
      · have hc0 : wr.cell? ⟨w.heap.size, 0, none⟩ = some (.int .i64 1) := by rw [cell_of_row wr _ _ _ _ _ hrow]; rfl
        clear hrow hnr hbr hk hblt
        obtain ⟨q, hq⟩ : ∃ q, v % 256 ^ 1 = q := ⟨_, rfl⟩
        have hqm : q < 256 ^ 1 := by rw [← hq]; exact Nat.mod_lt _ (Nat.pow_pos (by omega))
        have hqv : (v : Int) % 256 = (q : Int) := by rw [← hq]; omega
        have HQM := Lib.hid hqm
        have hqw : IntKind.u64.wrap (q : Int) = (q : Int) := by rw [IntKind.wrap_u64]; omega
        have HTX : Hid (∀ w, Calls Tryd.prog 16 #[.int .u64 q, .int .i64 1] w fun e w' => e = .returned (.string (strOfNums (low q 1))) ∧ Below w.heap.size w w') := fun w => text_any q 1 (by omega) (by omega) w
        have hts : (strOfNums (low q 1)).size = 1 := by rw [strOfNums_size, low_length]
        clear hq hqm
        by_cases hk0 : c % 2 = 0
        · have hcm : (c : Int) % 2 = 0 := by omega
          obtain ⟨U, hU⟩ : ∃ U, strOfNums (low q 1) = U := ⟨_, rfl⟩
          have hUs : U.size = 1 := by rw [← hU]; exact hts
          have hsl : ∀ w : World, (Instr.slice 9 (.string U) none (some (.int .i64 1)) none).run Tryd.prog w = .ok (.string U) w := by
            intro w; rw [run_slice_string_h w 9 U Tryd.underlying9 .i64 1 (by omega) (by omega)]; congr 2; exact extract_all U 1 (by omega)
          have HF : Hid (numS ⟨a0 ++ U, a0.size, 0, 0, 0, 0⟩ 1 = ⟨a0 ++ U, a0.size + 1, 0, 0, 0, 0⟩ ∧ numV ⟨a0 ++ U, a0.size, 0, 0, 0, 0⟩ 1 = q) := by rw [← hU]; exact num_full a0 q 1 (by omega) HQM.out
          rw [hU] at HTX
          have hu8 : U.size ≤ 8 := by omega
          have hsum : ¬ 9223372036854775807 < a0.size + U.size := by have := HA.out; omega
          have HTF : Hid (∀ g w, Names w → IsRdr w g ⟨a0 ++ U, 0, 0, 0, 0, 0⟩ → Calls Tryd.prog 17 #[.pointer (some ⟨g, 0, none⟩), .int .i64 a0.size] w (SPost g ⟨a0 ++ U, a0.size, 0, 0, 0, 0⟩ a0 w)) := fun g w hn hr => front_any a0 U g w HA.out hu8 hn hr
          have HRD : Hid (∀ g w, Names w → IsRdr w g ⟨a0 ++ U, a0.size, 0, 0, 0, 0⟩ → Calls Tryd.prog 18 #[.pointer (some ⟨g, 0, none⟩)] w (IPost .i64 g ⟨a0 ++ U, a0.size + 1, 0, 0, 0, 0⟩ q w)) := fun g w hn hr => by
            have := u8_any g _ w hn hr (ok_full a0 U HA.out hu8 _ (by omega) 0 0 0)
            rwa [HF.out.1, HF.out.2] at this
          have HLF : Hid (∀ g w, IsRdr w g ⟨a0 ++ U, a0.size + 1, 0, 0, 0, 0⟩ → Calls Tryd.prog 14 #[.pointer (some ⟨g, 0, none⟩)] w fun e w' => e = .returned (.int .i64 0) ∧ ∃ n, w' = w.drewN n) := fun g w hr => left_full a0 U g 1 w HA.out hu8 hUs hr
          obtain ⟨S, hS⟩ : ∃ S, a0 ++ U = S := ⟨_, rfl⟩
          rw [hS] at HTF HRD HLF
          have haa : (a0.toList == a0.toList) = true := by simp
          have haa2 : (a0.toList != a0.toList) = false := by simp
          clear hU hUs hts hu8 hk0 HF
          go_wp2_with (first
            | (go_at_call 16; refine (HTX.out _).mono ?_; rintro e w3 ⟨rfl, hb3⟩; have HN3 := Lib.hid (HNR.out.kept hb3); have HB3 := Lib.hid hb3; clear hb3)
            | (go_at_call 9; refine (new_any S _).mono ?_; rintro e w4 ⟨g, hg, rfl, hr4, hb4⟩; have HR4 := Lib.hid hr4; have HN4 := Lib.hid (HN3.out.kept hb4); have HG := Lib.hid (Nat.le_trans HB3.out.size hg); have HB4 := Lib.hid (HB3.out.trans (hb4.mono HB3.out.size)); clear hr4 hb4 hg)
            | (go_at_call 17; refine (HTF.out g _ HN4.out HR4.out).mono ?_; rintro e w5 ⟨rfl, hr5, hj5⟩; have HR5 := Lib.hid hr5; have HN5 := Lib.hid (Rdr.Names.just HN4.out HR4.out hj5); have HB5 := Lib.hid (HB4.out.trans (hj5.below HG.out HR4.out.lt)); clear hr5 hj5)
            | (go_at_call 18; refine (HRD.out g _ HN5.out HR5.out).mono ?_; rintro e w6 ⟨rfl, hr6, hj6⟩; have HR6 := Lib.hid hr6; have HN6 := Lib.hid (Rdr.Names.just HN5.out HR5.out hj6); have HB6 := Lib.hid (HB5.out.trans (hj6.below HG.out HR5.out.lt)); clear hr6 hj6)
            | (go_at_call 15; refine (err_ok g _ _ HR6.out rfl).mono ?_; rintro e w' ⟨rfl, rfl⟩)
            | (go_at_call 14; refine (HLF.out g _ HR6.out).mono ?_; rintro e w' ⟨rfl, nl, rfl⟩))
          have HBE : Hid (Below wr.heap.size wr (w6.drewN nl)) := (⟨HB6.out.os, HB6.out.tape, HB6.out.output, HB6.out.size, HB6.out.block⟩ : Below wr.heap.size wr (w6.drewN nl))
          have HNE : Hid (Names (w6.drewN nl)) := names_drewN HN6.out nl
          go_roundw
          case rel => exact ⟨1, by omega, rfl, (HBE.out.block _ (lt_of_block HROW.out)).trans HROW.out, HNE.out, HBR.out.trans (HBE.out.mono HBR.out.size)⟩
          case measure => simp [intOf]
        · obtain ⟨k, hkk⟩ : ∃ k, c % 2 = k := ⟨_, rfl⟩
          have hcm : (c : Int) % 2 = (k : Int) := by omega
          have hk1 : 1 ≤ k ∧ k ≤ 1 := by omega
          have tk0 : ((k : Int) == 0) = false := by simp; omega
          have tk1 : decide (0 < (k : Int)) = true := decide_eq_true (by omega)
          have tk2 : decide (0 < k) = true := decide_eq_true (by omega)
          have tk3 : (k == 0) = false := by simp; omega
          have hkb : (k : Int) ≤ 1 := by omega
          obtain ⟨J, hJ⟩ : ∃ J, 1 - k = J := ⟨_, rfl⟩
          have hJi : (1 : Int) - (k : Int) = (J : Int) := by omega
          have hJn : J < 1 := by omega
          obtain ⟨T, hT⟩ : ∃ T, strOfNums (low q 1) = T := ⟨_, rfl⟩
          have hTs : T.size = 1 := by rw [← hT]; exact hts
          obtain ⟨U, hU⟩ : ∃ U, T.extract 0 J = U := ⟨_, rfl⟩
          have hUs : U.size = J := by rw [← hU]; exact extract_len T J (by omega)
          have hsl : ∀ w : World, (Instr.slice 9 (.string T) none (some (.int .i64 J)) none).run Tryd.prog w = .ok (.string U) w := by
            intro w; rw [run_slice_string_h w 9 T Tryd.underlying9 .i64 J (by omega) (by omega), ← hU]; rfl
          have HF : Hid (numS ⟨a0 ++ U, a0.size, 0, 0, 0, 0⟩ 1 = ⟨a0 ++ U, a0.size, 0, 2, 0, a0.size⟩ ∧ numV ⟨a0 ++ U, a0.size, 0, 0, 0, 0⟩ 1 = 0) := num_short a0 U 1 (by omega)
          have heq : ∀ wx : World, (Op.equalIn 10000 28 (.agg #[.int .i64 2, .int .i64 0, .int .i64 a0.size]) (.agg #[.int .i64 2, .int .i64 0, .int .i64 a0.size])).run Tryd.prog wx = .ok true wx := eq_flt 2 0 a0.size
          rw [hT] at HTX
          have hu8 : U.size ≤ 8 := by omega
          have hsum : ¬ 9223372036854775807 < a0.size + U.size := by have := HA.out; omega
          have HTF : Hid (∀ g w, Names w → IsRdr w g ⟨a0 ++ U, 0, 0, 0, 0, 0⟩ → Calls Tryd.prog 17 #[.pointer (some ⟨g, 0, none⟩), .int .i64 a0.size] w (SPost g ⟨a0 ++ U, a0.size, 0, 0, 0, 0⟩ a0 w)) := fun g w hn hr => front_any a0 U g w HA.out hu8 hn hr
          have HRD : Hid (∀ g w, Names w → IsRdr w g ⟨a0 ++ U, a0.size, 0, 0, 0, 0⟩ → Calls Tryd.prog 18 #[.pointer (some ⟨g, 0, none⟩)] w (IPost .i64 g ⟨a0 ++ U, a0.size, 0, 2, 0, a0.size⟩ 0 w)) := fun g w hn hr => by
            have := u8_any g _ w hn hr (ok_full a0 U HA.out hu8 _ (by omega) 0 0 0)
            rwa [HF.out.1, HF.out.2] at this
          obtain ⟨S, hS⟩ : ∃ S, a0 ++ U = S := ⟨_, rfl⟩
          rw [hS] at HTF HRD
          have haa : (a0.toList == a0.toList) = true := by simp
          have haa2 : (a0.toList != a0.toList) = false := by simp
          clear hU hUs hts hu8 hk0 HF hT hTs hkk hk1 hJ hJn
          go_wp2_with (first
            | (go_at_call 16; refine (HTX.out _).mono ?_; rintro e w3 ⟨rfl, hb3⟩; have HN3 := Lib.hid (HNR.out.kept hb3); have HB3 := Lib.hid hb3; clear hb3)
            | (go_at_call 9; refine (new_any S _).mono ?_; rintro e w4 ⟨g, hg, rfl, hr4, hb4⟩; have HR4 := Lib.hid hr4; have HN4 := Lib.hid (HN3.out.kept hb4); have HG := Lib.hid (Nat.le_trans HB3.out.size hg); have HB4 := Lib.hid (HB3.out.trans (hb4.mono HB3.out.size)); clear hr4 hb4 hg)
            | (go_at_call 17; refine (HTF.out g _ HN4.out HR4.out).mono ?_; rintro e w5 ⟨rfl, hr5, hj5⟩; have HR5 := Lib.hid hr5; have HN5 := Lib.hid (Rdr.Names.just HN4.out HR4.out hj5); have HB5 := Lib.hid (HB4.out.trans (hj5.below HG.out HR4.out.lt)); clear hr5 hj5)
            | (go_at_call 18; refine (HRD.out g _ HN5.out HR5.out).mono ?_; rintro e w6 ⟨rfl, hr6, hj6⟩; have HR6 := Lib.hid hr6; have HN6 := Lib.hid (Rdr.Names.just HN5.out HR5.out hj6); have HB6 := Lib.hid (HB5.out.trans (hj6.below HG.out HR5.out.lt)); clear hr6 hj6)
            | (go_at_call 12; refine (fault_any g _ _ HR6.out).mono ?_; rintro e w7 ⟨rfl, hb7⟩; (try simp only [fltV]); have HR7 := Lib.hid (HR6.out.kept hb7); have HN7 := Lib.hid (HN6.out.kept hb7); have HB7 := Lib.hid (HB6.out.trans (hb7.mono HB6.out.size)); clear hb7)
            | (go_at_call 13; refine (place_any g _ _ HR7.out).mono ?_; rintro e w' ⟨rfl, rfl⟩))
          have HBE := HB7
          have HNE := HN7
          go_roundw
          case rel => exact ⟨1, by omega, rfl, (HBE.out.block _ (lt_of_block HROW.out)).trans HROW.out, HNE.out, HBR.out.trans (HBE.out.mono HBR.out.size)⟩
          case measure => simp [intOf]
      · have hc0 : wr.cell? ⟨w.heap.size, 1, none⟩ = some (.int .i64 2) := by rw [cell_of_row wr _ _ _ _ _ hrow]; rfl
        clear hrow hnr hbr hk hblt
        obtain ⟨q, hq⟩ : ∃ q, v % 256 ^ 2 = q := ⟨_, rfl⟩
        have hqm : q < 256 ^ 2 := by rw [← hq]; exact Nat.mod_lt _ (Nat.pow_pos (by omega))
        have hqv : (v : Int) % 65536 = (q : Int) := by rw [← hq]; omega
        have HQM := Lib.hid hqm
        have hqw : IntKind.u64.wrap (q : Int) = (q : Int) := by rw [IntKind.wrap_u64]; omega
        have HTX : Hid (∀ w, Calls Tryd.prog 16 #[.int .u64 q, .int .i64 2] w fun e w' => e = .returned (.string (strOfNums (low q 2))) ∧ Below w.heap.size w w') := fun w => text_any q 2 (by omega) (by omega) w
        have hts : (strOfNums (low q 2)).size = 2 := by rw [strOfNums_size, low_length]
        clear hq hqm
        by_cases hk0 : c % 3 = 0
        · have hcm : (c : Int) % 3 = 0 := by omega
          obtain ⟨U, hU⟩ : ∃ U, strOfNums (low q 2) = U := ⟨_, rfl⟩
          have hUs : U.size = 2 := by rw [← hU]; exact hts
          have hsl : ∀ w : World, (Instr.slice 9 (.string U) none (some (.int .i64 2)) none).run Tryd.prog w = .ok (.string U) w := by
            intro w; rw [run_slice_string_h w 9 U Tryd.underlying9 .i64 2 (by omega) (by omega)]; congr 2; exact extract_all U 2 (by omega)
          have HF : Hid (numS ⟨a0 ++ U, a0.size, 0, 0, 0, 0⟩ 2 = ⟨a0 ++ U, a0.size + 2, 0, 0, 0, 0⟩ ∧ numV ⟨a0 ++ U, a0.size, 0, 0, 0, 0⟩ 2 = q) := by rw [← hU]; exact num_full a0 q 2 (by omega) HQM.out
          rw [hU] at HTX
          have hu8 : U.size ≤ 8 := by omega
          have hsum : ¬ 9223372036854775807 < a0.size + U.size := by have := HA.out; omega
          have HTF : Hid (∀ g w, Names w → IsRdr w g ⟨a0 ++ U, 0, 0, 0, 0, 0⟩ → Calls Tryd.prog 17 #[.pointer (some ⟨g, 0, none⟩), .int .i64 a0.size] w (SPost g ⟨a0 ++ U, a0.size, 0, 0, 0, 0⟩ a0 w)) := fun g w hn hr => front_any a0 U g w HA.out hu8 hn hr
          have HRD : Hid (∀ g w, Names w → IsRdr w g ⟨a0 ++ U, a0.size, 0, 0, 0, 0⟩ → Calls Tryd.prog 19 #[.pointer (some ⟨g, 0, none⟩)] w (IPost .i64 g ⟨a0 ++ U, a0.size + 2, 0, 0, 0, 0⟩ q w)) := fun g w hn hr => by
            have := u16_any g _ w hn hr (ok_full a0 U HA.out hu8 _ (by omega) 0 0 0)
            rwa [HF.out.1, HF.out.2] at this
          have HLF : Hid (∀ g w, IsRdr w g ⟨a0 ++ U, a0.size + 2, 0, 0, 0, 0⟩ → Calls Tryd.prog 14 #[.pointer (some ⟨g, 0, none⟩)] w fun e w' => e = .returned (.int .i64 0) ∧ ∃ n, w' = w.drewN n) := fun g w hr => left_full a0 U g 2 w HA.out hu8 hUs hr
          obtain ⟨S, hS⟩ : ∃ S, a0 ++ U = S := ⟨_, rfl⟩
          rw [hS] at HTF HRD HLF
          have haa : (a0.toList == a0.toList) = true := by simp
          have haa2 : (a0.toList != a0.toList) = false := by simp
          clear hU hUs hts hu8 hk0 HF
          go_wp2_with (first
            | (go_at_call 16; refine (HTX.out _).mono ?_; rintro e w3 ⟨rfl, hb3⟩; have HN3 := Lib.hid (HNR.out.kept hb3); have HB3 := Lib.hid hb3; clear hb3)
            | (go_at_call 9; refine (new_any S _).mono ?_; rintro e w4 ⟨g, hg, rfl, hr4, hb4⟩; have HR4 := Lib.hid hr4; have HN4 := Lib.hid (HN3.out.kept hb4); have HG := Lib.hid (Nat.le_trans HB3.out.size hg); have HB4 := Lib.hid (HB3.out.trans (hb4.mono HB3.out.size)); clear hr4 hb4 hg)
            | (go_at_call 17; refine (HTF.out g _ HN4.out HR4.out).mono ?_; rintro e w5 ⟨rfl, hr5, hj5⟩; have HR5 := Lib.hid hr5; have HN5 := Lib.hid (Rdr.Names.just HN4.out HR4.out hj5); have HB5 := Lib.hid (HB4.out.trans (hj5.below HG.out HR4.out.lt)); clear hr5 hj5)
            | (go_at_call 19; refine (HRD.out g _ HN5.out HR5.out).mono ?_; rintro e w6 ⟨rfl, hr6, hj6⟩; have HR6 := Lib.hid hr6; have HN6 := Lib.hid (Rdr.Names.just HN5.out HR5.out hj6); have HB6 := Lib.hid (HB5.out.trans (hj6.below HG.out HR5.out.lt)); clear hr6 hj6)
            | (go_at_call 15; refine (err_ok g _ _ HR6.out rfl).mono ?_; rintro e w' ⟨rfl, rfl⟩)
            | (go_at_call 14; refine (HLF.out g _ HR6.out).mono ?_; rintro e w' ⟨rfl, nl, rfl⟩))
          have HBE : Hid (Below wr.heap.size wr (w6.drewN nl)) := (⟨HB6.out.os, HB6.out.tape, HB6.out.output, HB6.out.size, HB6.out.block⟩ : Below wr.heap.size wr (w6.drewN nl))
          have HNE : Hid (Names (w6.drewN nl)) := names_drewN HN6.out nl
          go_roundw
          case rel => exact ⟨2, by omega, rfl, (HBE.out.block _ (lt_of_block HROW.out)).trans HROW.out, HNE.out, HBR.out.trans (HBE.out.mono HBR.out.size)⟩
          case measure => simp [intOf]
        · obtain ⟨k, hkk⟩ : ∃ k, c % 3 = k := ⟨_, rfl⟩
          have hcm : (c : Int) % 3 = (k : Int) := by omega
          have hk1 : 1 ≤ k ∧ k ≤ 2 := by omega
          have tk0 : ((k : Int) == 0) = false := by simp; omega
          have tk1 : decide (0 < (k : Int)) = true := decide_eq_true (by omega)
          have tk2 : decide (0 < k) = true := decide_eq_true (by omega)
          have tk3 : (k == 0) = false := by simp; omega
          have hkb : (k : Int) ≤ 2 := by omega
          obtain ⟨J, hJ⟩ : ∃ J, 2 - k = J := ⟨_, rfl⟩
          have hJi : (2 : Int) - (k : Int) = (J : Int) := by omega
          have hJn : J < 2 := by omega
          obtain ⟨T, hT⟩ : ∃ T, strOfNums (low q 2) = T := ⟨_, rfl⟩
          have hTs : T.size = 2 := by rw [← hT]; exact hts
          obtain ⟨U, hU⟩ : ∃ U, T.extract 0 J = U := ⟨_, rfl⟩
          have hUs : U.size = J := by rw [← hU]; exact extract_len T J (by omega)
          have hsl : ∀ w : World, (Instr.slice 9 (.string T) none (some (.int .i64 J)) none).run Tryd.prog w = .ok (.string U) w := by
            intro w; rw [run_slice_string_h w 9 T Tryd.underlying9 .i64 J (by omega) (by omega), ← hU]; rfl
          have HF : Hid (numS ⟨a0 ++ U, a0.size, 0, 0, 0, 0⟩ 2 = ⟨a0 ++ U, a0.size, 0, 2, 0, a0.size⟩ ∧ numV ⟨a0 ++ U, a0.size, 0, 0, 0, 0⟩ 2 = 0) := num_short a0 U 2 (by omega)
          have heq : ∀ wx : World, (Op.equalIn 10000 28 (.agg #[.int .i64 2, .int .i64 0, .int .i64 a0.size]) (.agg #[.int .i64 2, .int .i64 0, .int .i64 a0.size])).run Tryd.prog wx = .ok true wx := eq_flt 2 0 a0.size
          rw [hT] at HTX
          have hu8 : U.size ≤ 8 := by omega
          have hsum : ¬ 9223372036854775807 < a0.size + U.size := by have := HA.out; omega
          have HTF : Hid (∀ g w, Names w → IsRdr w g ⟨a0 ++ U, 0, 0, 0, 0, 0⟩ → Calls Tryd.prog 17 #[.pointer (some ⟨g, 0, none⟩), .int .i64 a0.size] w (SPost g ⟨a0 ++ U, a0.size, 0, 0, 0, 0⟩ a0 w)) := fun g w hn hr => front_any a0 U g w HA.out hu8 hn hr
          have HRD : Hid (∀ g w, Names w → IsRdr w g ⟨a0 ++ U, a0.size, 0, 0, 0, 0⟩ → Calls Tryd.prog 19 #[.pointer (some ⟨g, 0, none⟩)] w (IPost .i64 g ⟨a0 ++ U, a0.size, 0, 2, 0, a0.size⟩ 0 w)) := fun g w hn hr => by
            have := u16_any g _ w hn hr (ok_full a0 U HA.out hu8 _ (by omega) 0 0 0)
            rwa [HF.out.1, HF.out.2] at this
          obtain ⟨S, hS⟩ : ∃ S, a0 ++ U = S := ⟨_, rfl⟩
          rw [hS] at HTF HRD
          have haa : (a0.toList == a0.toList) = true := by simp
          have haa2 : (a0.toList != a0.toList) = false := by simp
          clear hU hUs hts hu8 hk0 HF hT hTs hkk hk1 hJ hJn
          go_wp2_with (first
            | (go_at_call 16; refine (HTX.out _).mono ?_; rintro e w3 ⟨rfl, hb3⟩; have HN3 := Lib.hid (HNR.out.kept hb3); have HB3 := Lib.hid hb3; clear hb3)
            | (go_at_call 9; refine (new_any S _).mono ?_; rintro e w4 ⟨g, hg, rfl, hr4, hb4⟩; have HR4 := Lib.hid hr4; have HN4 := Lib.hid (HN3.out.kept hb4); have HG := Lib.hid (Nat.le_trans HB3.out.size hg); have HB4 := Lib.hid (HB3.out.trans (hb4.mono HB3.out.size)); clear hr4 hb4 hg)
            | (go_at_call 17; refine (HTF.out g _ HN4.out HR4.out).mono ?_; rintro e w5 ⟨rfl, hr5, hj5⟩; have HR5 := Lib.hid hr5; have HN5 := Lib.hid (Rdr.Names.just HN4.out HR4.out hj5); have HB5 := Lib.hid (HB4.out.trans (hj5.below HG.out HR4.out.lt)); clear hr5 hj5)
            | (go_at_call 19; refine (HRD.out g _ HN5.out HR5.out).mono ?_; rintro e w6 ⟨rfl, hr6, hj6⟩; have HR6 := Lib.hid hr6; have HN6 := Lib.hid (Rdr.Names.just HN5.out HR5.out hj6); have HB6 := Lib.hid (HB5.out.trans (hj6.below HG.out HR5.out.lt)); clear hr6 hj6)
            | (go_at_call 12; refine (fault_any g _ _ HR6.out).mono ?_; rintro e w7 ⟨rfl, hb7⟩; (try simp only [fltV]); have HR7 := Lib.hid (HR6.out.kept hb7); have HN7 := Lib.hid (HN6.out.kept hb7); have HB7 := Lib.hid (HB6.out.trans (hb7.mono HB6.out.size)); clear hb7)
            | (go_at_call 13; refine (place_any g _ _ HR7.out).mono ?_; rintro e w' ⟨rfl, rfl⟩))
          have HBE := HB7
          have HNE := HN7
          go_roundw
          case rel => exact ⟨2, by omega, rfl, (HBE.out.block _ (lt_of_block HROW.out)).trans HROW.out, HNE.out, HBR.out.trans (HBE.out.mono HBR.out.size)⟩
          case measure => simp [intOf]
      · have hc0 : wr.cell? ⟨w.heap.size, 2, none⟩ = some (.int .i64 4) := by rw [cell_of_row wr _ _ _ _ _ hrow]; rfl
        clear hrow hnr hbr hk hblt
        obtain ⟨q, hq⟩ : ∃ q, v % 256 ^ 4 = q := ⟨_, rfl⟩
        have hqm : q < 256 ^ 4 := by rw [← hq]; exact Nat.mod_lt _ (Nat.pow_pos (by omega))
        have hqv : (v : Int) % 4294967296 = (q : Int) := by rw [← hq]; omega
        have HQM := Lib.hid hqm
        have hqw : IntKind.u64.wrap (q : Int) = (q : Int) := by rw [IntKind.wrap_u64]; omega
        have HTX : Hid (∀ w, Calls Tryd.prog 16 #[.int .u64 q, .int .i64 4] w fun e w' => e = .returned (.string (strOfNums (low q 4))) ∧ Below w.heap.size w w') := fun w => text_any q 4 (by omega) (by omega) w
        have hts : (strOfNums (low q 4)).size = 4 := by rw [strOfNums_size, low_length]
        clear hq hqm
        by_cases hk0 : c % 5 = 0
        · have hcm : (c : Int) % 5 = 0 := by omega
          obtain ⟨U, hU⟩ : ∃ U, strOfNums (low q 4) = U := ⟨_, rfl⟩
          have hUs : U.size = 4 := by rw [← hU]; exact hts
          have hsl : ∀ w : World, (Instr.slice 9 (.string U) none (some (.int .i64 4)) none).run Tryd.prog w = .ok (.string U) w := by
            intro w; rw [run_slice_string_h w 9 U Tryd.underlying9 .i64 4 (by omega) (by omega)]; congr 2; exact extract_all U 4 (by omega)
          have HF : Hid (numS ⟨a0 ++ U, a0.size, 0, 0, 0, 0⟩ 4 = ⟨a0 ++ U, a0.size + 4, 0, 0, 0, 0⟩ ∧ numV ⟨a0 ++ U, a0.size, 0, 0, 0, 0⟩ 4 = q) := by rw [← hU]; exact num_full a0 q 4 (by omega) HQM.out
          rw [hU] at HTX
          have hu8 : U.size ≤ 8 := by omega
          have hsum : ¬ 9223372036854775807 < a0.size + U.size := by have := HA.out; omega
          have HTF : Hid (∀ g w, Names w → IsRdr w g ⟨a0 ++ U, 0, 0, 0, 0, 0⟩ → Calls Tryd.prog 17 #[.pointer (some ⟨g, 0, none⟩), .int .i64 a0.size] w (SPost g ⟨a0 ++ U, a0.size, 0, 0, 0, 0⟩ a0 w)) := fun g w hn hr => front_any a0 U g w HA.out hu8 hn hr
          have HRD : Hid (∀ g w, Names w → IsRdr w g ⟨a0 ++ U, a0.size, 0, 0, 0, 0⟩ → Calls Tryd.prog 20 #[.pointer (some ⟨g, 0, none⟩)] w (IPost .u32 g ⟨a0 ++ U, a0.size + 4, 0, 0, 0, 0⟩ q w)) := fun g w hn hr => by
            have := u32_any g _ w hn hr (ok_full a0 U HA.out hu8 _ (by omega) 0 0 0)
            rwa [HF.out.1, HF.out.2] at this
          have HLF : Hid (∀ g w, IsRdr w g ⟨a0 ++ U, a0.size + 4, 0, 0, 0, 0⟩ → Calls Tryd.prog 14 #[.pointer (some ⟨g, 0, none⟩)] w fun e w' => e = .returned (.int .i64 0) ∧ ∃ n, w' = w.drewN n) := fun g w hr => left_full a0 U g 4 w HA.out hu8 hUs hr
          obtain ⟨S, hS⟩ : ∃ S, a0 ++ U = S := ⟨_, rfl⟩
          rw [hS] at HTF HRD HLF
          have haa : (a0.toList == a0.toList) = true := by simp
          have haa2 : (a0.toList != a0.toList) = false := by simp
          clear hU hUs hts hu8 hk0 HF
          go_wp2_with (first
            | (go_at_call 16; refine (HTX.out _).mono ?_; rintro e w3 ⟨rfl, hb3⟩; have HN3 := Lib.hid (HNR.out.kept hb3); have HB3 := Lib.hid hb3; clear hb3)
            | (go_at_call 9; refine (new_any S _).mono ?_; rintro e w4 ⟨g, hg, rfl, hr4, hb4⟩; have HR4 := Lib.hid hr4; have HN4 := Lib.hid (HN3.out.kept hb4); have HG := Lib.hid (Nat.le_trans HB3.out.size hg); have HB4 := Lib.hid (HB3.out.trans (hb4.mono HB3.out.size)); clear hr4 hb4 hg)
            | (go_at_call 17; refine (HTF.out g _ HN4.out HR4.out).mono ?_; rintro e w5 ⟨rfl, hr5, hj5⟩; have HR5 := Lib.hid hr5; have HN5 := Lib.hid (Rdr.Names.just HN4.out HR4.out hj5); have HB5 := Lib.hid (HB4.out.trans (hj5.below HG.out HR4.out.lt)); clear hr5 hj5)
            | (go_at_call 20; refine (HRD.out g _ HN5.out HR5.out).mono ?_; rintro e w6 ⟨rfl, hr6, hj6⟩; have HR6 := Lib.hid hr6; have HN6 := Lib.hid (Rdr.Names.just HN5.out HR5.out hj6); have HB6 := Lib.hid (HB5.out.trans (hj6.below HG.out HR5.out.lt)); clear hr6 hj6)
            | (go_at_call 15; refine (err_ok g _ _ HR6.out rfl).mono ?_; rintro e w' ⟨rfl, rfl⟩)
            | (go_at_call 14; refine (HLF.out g _ HR6.out).mono ?_; rintro e w' ⟨rfl, nl, rfl⟩))
          have HBE : Hid (Below wr.heap.size wr (w6.drewN nl)) := (⟨HB6.out.os, HB6.out.tape, HB6.out.output, HB6.out.size, HB6.out.block⟩ : Below wr.heap.size wr (w6.drewN nl))
          have HNE : Hid (Names (w6.drewN nl)) := names_drewN HN6.out nl
          go_roundw
          case rel => exact ⟨3, by omega, rfl, (HBE.out.block _ (lt_of_block HROW.out)).trans HROW.out, HNE.out, HBR.out.trans (HBE.out.mono HBR.out.size)⟩
          case measure => simp [intOf]
        · obtain ⟨k, hkk⟩ : ∃ k, c % 5 = k := ⟨_, rfl⟩
          have hcm : (c : Int) % 5 = (k : Int) := by omega
          have hk1 : 1 ≤ k ∧ k ≤ 4 := by omega
          have tk0 : ((k : Int) == 0) = false := by simp; omega
          have tk1 : decide (0 < (k : Int)) = true := decide_eq_true (by omega)
          have tk2 : decide (0 < k) = true := decide_eq_true (by omega)
          have tk3 : (k == 0) = false := by simp; omega
          have hkb : (k : Int) ≤ 4 := by omega
          obtain ⟨J, hJ⟩ : ∃ J, 4 - k = J := ⟨_, rfl⟩
          have hJi : (4 : Int) - (k : Int) = (J : Int) := by omega
          have hJn : J < 4 := by omega
          obtain ⟨T, hT⟩ : ∃ T, strOfNums (low q 4) = T := ⟨_, rfl⟩
          have hTs : T.size = 4 := by rw [← hT]; exact hts
          obtain ⟨U, hU⟩ : ∃ U, T.extract 0 J = U := ⟨_, rfl⟩
          have hUs : U.size = J := by rw [← hU]; exact extract_len T J (by omega)
          have hsl : ∀ w : World, (Instr.slice 9 (.string T) none (some (.int .i64 J)) none).run Tryd.prog w = .ok (.string U) w := by
            intro w; rw [run_slice_string_h w 9 T Tryd.underlying9 .i64 J (by omega) (by omega), ← hU]; rfl
          have HF : Hid (numS ⟨a0 ++ U, a0.size, 0, 0, 0, 0⟩ 4 = ⟨a0 ++ U, a0.size, 0, 2, 0, a0.size⟩ ∧ numV ⟨a0 ++ U, a0.size, 0, 0, 0, 0⟩ 4 = 0) := num_short a0 U 4 (by omega)
          have heq : ∀ wx : World, (Op.equalIn 10000 28 (.agg #[.int .i64 2, .int .i64 0, .int .i64 a0.size]) (.agg #[.int .i64 2, .int .i64 0, .int .i64 a0.size])).run Tryd.prog wx = .ok true wx := eq_flt 2 0 a0.size
          rw [hT] at HTX
          have hu8 : U.size ≤ 8 := by omega
          have hsum : ¬ 9223372036854775807 < a0.size + U.size := by have := HA.out; omega
          have HTF : Hid (∀ g w, Names w → IsRdr w g ⟨a0 ++ U, 0, 0, 0, 0, 0⟩ → Calls Tryd.prog 17 #[.pointer (some ⟨g, 0, none⟩), .int .i64 a0.size] w (SPost g ⟨a0 ++ U, a0.size, 0, 0, 0, 0⟩ a0 w)) := fun g w hn hr => front_any a0 U g w HA.out hu8 hn hr
          have HRD : Hid (∀ g w, Names w → IsRdr w g ⟨a0 ++ U, a0.size, 0, 0, 0, 0⟩ → Calls Tryd.prog 20 #[.pointer (some ⟨g, 0, none⟩)] w (IPost .u32 g ⟨a0 ++ U, a0.size, 0, 2, 0, a0.size⟩ 0 w)) := fun g w hn hr => by
            have := u32_any g _ w hn hr (ok_full a0 U HA.out hu8 _ (by omega) 0 0 0)
            rwa [HF.out.1, HF.out.2] at this
          obtain ⟨S, hS⟩ : ∃ S, a0 ++ U = S := ⟨_, rfl⟩
          rw [hS] at HTF HRD
          have haa : (a0.toList == a0.toList) = true := by simp
          have haa2 : (a0.toList != a0.toList) = false := by simp
          clear hU hUs hts hu8 hk0 HF hT hTs hkk hk1 hJ hJn
          go_wp2_with (first
            | (go_at_call 16; refine (HTX.out _).mono ?_; rintro e w3 ⟨rfl, hb3⟩; have HN3 := Lib.hid (HNR.out.kept hb3); have HB3 := Lib.hid hb3; clear hb3)
            | (go_at_call 9; refine (new_any S _).mono ?_; rintro e w4 ⟨g, hg, rfl, hr4, hb4⟩; have HR4 := Lib.hid hr4; have HN4 := Lib.hid (HN3.out.kept hb4); have HG := Lib.hid (Nat.le_trans HB3.out.size hg); have HB4 := Lib.hid (HB3.out.trans (hb4.mono HB3.out.size)); clear hr4 hb4 hg)
            | (go_at_call 17; refine (HTF.out g _ HN4.out HR4.out).mono ?_; rintro e w5 ⟨rfl, hr5, hj5⟩; have HR5 := Lib.hid hr5; have HN5 := Lib.hid (Rdr.Names.just HN4.out HR4.out hj5); have HB5 := Lib.hid (HB4.out.trans (hj5.below HG.out HR4.out.lt)); clear hr5 hj5)
            | (go_at_call 20; refine (HRD.out g _ HN5.out HR5.out).mono ?_; rintro e w6 ⟨rfl, hr6, hj6⟩; have HR6 := Lib.hid hr6; have HN6 := Lib.hid (Rdr.Names.just HN5.out HR5.out hj6); have HB6 := Lib.hid (HB5.out.trans (hj6.below HG.out HR5.out.lt)); clear hr6 hj6)
            | (go_at_call 12; refine (fault_any g _ _ HR6.out).mono ?_; rintro e w7 ⟨rfl, hb7⟩; (try simp only [fltV]); have HR7 := Lib.hid (HR6.out.kept hb7); have HN7 := Lib.hid (HN6.out.kept hb7); have HB7 := Lib.hid (HB6.out.trans (hb7.mono HB6.out.size)); clear hb7)
            | (go_at_call 13; refine (place_any g _ _ HR7.out).mono ?_; rintro e w' ⟨rfl, rfl⟩))
          have HBE := HB7
          have HNE := HN7
          go_roundw
          case rel => exact ⟨3, by omega, rfl, (HBE.out.block _ (lt_of_block HROW.out)).trans HROW.out, HNE.out, HBR.out.trans (HBE.out.mono HBR.out.size)⟩
          case measure => simp [intOf]
      · have hc0 : wr.cell? ⟨w.heap.size, 3, none⟩ = some (.int .i64 8) := by rw [cell_of_row wr _ _ _ _ _ hrow]; rfl
        clear hrow hnr hbr hk hblt
        obtain ⟨q, hq⟩ : ∃ q, v % 256 ^ 8 = q := ⟨_, rfl⟩
        have hqm : q < 256 ^ 8 := by rw [← hq]; exact Nat.mod_lt _ (Nat.pow_pos (by omega))
        have hqv : q = v := by rw [← hq]; have := HV.out; omega
        have HQM := Lib.hid hqm
        subst hqv
        have hqw : IntKind.u64.wrap (q : Int) = (q : Int) := by rw [IntKind.wrap_u64]; omega
        have HTX : Hid (∀ w, Calls Tryd.prog 16 #[.int .u64 q, .int .i64 8] w fun e w' => e = .returned (.string (strOfNums (low q 8))) ∧ Below w.heap.size w w') := fun w => text_any q 8 (by omega) (by omega) w
        have hts : (strOfNums (low q 8)).size = 8 := by rw [strOfNums_size, low_length]
        clear hq hqm
        by_cases hk0 : c % 9 = 0
        · have hcm : (c : Int) % 9 = 0 := by omega
          obtain ⟨U, hU⟩ : ∃ U, strOfNums (low q 8) = U := ⟨_, rfl⟩
          have hUs : U.size = 8 := by rw [← hU]; exact hts
          have hsl : ∀ w : World, (Instr.slice 9 (.string U) none (some (.int .i64 8)) none).run Tryd.prog w = .ok (.string U) w := by
            intro w; rw [run_slice_string_h w 9 U Tryd.underlying9 .i64 8 (by omega) (by omega)]; congr 2; exact extract_all U 8 (by omega)
          have HF : Hid (numS ⟨a0 ++ U, a0.size, 0, 0, 0, 0⟩ 8 = ⟨a0 ++ U, a0.size + 8, 0, 0, 0, 0⟩ ∧ numV ⟨a0 ++ U, a0.size, 0, 0, 0, 0⟩ 8 = q) := by rw [← hU]; exact num_full a0 q 8 (by omega) HQM.out
          rw [hU] at HTX
          have hu8 : U.size ≤ 8 := by omega
          have hsum : ¬ 9223372036854775807 < a0.size + U.size := by have := HA.out; omega
          have HTF : Hid (∀ g w, Names w → IsRdr w g ⟨a0 ++ U, 0, 0, 0, 0, 0⟩ → Calls Tryd.prog 17 #[.pointer (some ⟨g, 0, none⟩), .int .i64 a0.size] w (SPost g ⟨a0 ++ U, a0.size, 0, 0, 0, 0⟩ a0 w)) := fun g w hn hr => front_any a0 U g w HA.out hu8 hn hr
          have HRD : Hid (∀ g w, Names w → IsRdr w g ⟨a0 ++ U, a0.size, 0, 0, 0, 0⟩ → Calls Tryd.prog 21 #[.pointer (some ⟨g, 0, none⟩)] w (IPost .u64 g ⟨a0 ++ U, a0.size + 8, 0, 0, 0, 0⟩ q w)) := fun g w hn hr => by
            have := u64_any g _ w hn hr (ok_full a0 U HA.out hu8 _ (by omega) 0 0 0)
            rwa [HF.out.1, HF.out.2] at this
          have HLF : Hid (∀ g w, IsRdr w g ⟨a0 ++ U, a0.size + 8, 0, 0, 0, 0⟩ → Calls Tryd.prog 14 #[.pointer (some ⟨g, 0, none⟩)] w fun e w' => e = .returned (.int .i64 0) ∧ ∃ n, w' = w.drewN n) := fun g w hr => left_full a0 U g 8 w HA.out hu8 hUs hr
          obtain ⟨S, hS⟩ : ∃ S, a0 ++ U = S := ⟨_, rfl⟩
          rw [hS] at HTF HRD HLF
          have haa : (a0.toList == a0.toList) = true := by simp
          have haa2 : (a0.toList != a0.toList) = false := by simp
          clear hU hUs hts hu8 hk0 HF
          go_wp2_with (first
            | (go_at_call 16; refine (HTX.out _).mono ?_; rintro e w3 ⟨rfl, hb3⟩; have HN3 := Lib.hid (HNR.out.kept hb3); have HB3 := Lib.hid hb3; clear hb3)
            | (go_at_call 9; refine (new_any S _).mono ?_; rintro e w4 ⟨g, hg, rfl, hr4, hb4⟩; have HR4 := Lib.hid hr4; have HN4 := Lib.hid (HN3.out.kept hb4); have HG := Lib.hid (Nat.le_trans HB3.out.size hg); have HB4 := Lib.hid (HB3.out.trans (hb4.mono HB3.out.size)); clear hr4 hb4 hg)
            | (go_at_call 17; refine (HTF.out g _ HN4.out HR4.out).mono ?_; rintro e w5 ⟨rfl, hr5, hj5⟩; have HR5 := Lib.hid hr5; have HN5 := Lib.hid (Rdr.Names.just HN4.out HR4.out hj5); have HB5 := Lib.hid (HB4.out.trans (hj5.below HG.out HR4.out.lt)); clear hr5 hj5)
            | (go_at_call 21; refine (HRD.out g _ HN5.out HR5.out).mono ?_; rintro e w6 ⟨rfl, hr6, hj6⟩; have HR6 := Lib.hid hr6; have HN6 := Lib.hid (Rdr.Names.just HN5.out HR5.out hj6); have HB6 := Lib.hid (HB5.out.trans (hj6.below HG.out HR5.out.lt)); clear hr6 hj6)
            | (go_at_call 15; refine (err_ok g _ _ HR6.out rfl).mono ?_; rintro e w' ⟨rfl, rfl⟩)
            | (go_at_call 14; refine (HLF.out g _ HR6.out).mono ?_; rintro e w' ⟨rfl, nl, rfl⟩))
          have HBE : Hid (Below wr.heap.size wr (w6.drewN nl)) := (⟨HB6.out.os, HB6.out.tape, HB6.out.output, HB6.out.size, HB6.out.block⟩ : Below wr.heap.size wr (w6.drewN nl))
          have HNE : Hid (Names (w6.drewN nl)) := names_drewN HN6.out nl
          go_roundw
          case rel => exact ⟨4, by omega, rfl, (HBE.out.block _ (lt_of_block HROW.out)).trans HROW.out, HNE.out, HBR.out.trans (HBE.out.mono HBR.out.size)⟩
          case measure => simp [intOf]
        · obtain ⟨k, hkk⟩ : ∃ k, c % 9 = k := ⟨_, rfl⟩
          have hcm : (c : Int) % 9 = (k : Int) := by omega
          have hk1 : 1 ≤ k ∧ k ≤ 8 := by omega
          have tk0 : ((k : Int) == 0) = false := by simp; omega
          have tk1 : decide (0 < (k : Int)) = true := decide_eq_true (by omega)
          have tk2 : decide (0 < k) = true := decide_eq_true (by omega)
          have tk3 : (k == 0) = false := by simp; omega
          have hkb : (k : Int) ≤ 8 := by omega
          obtain ⟨J, hJ⟩ : ∃ J, 8 - k = J := ⟨_, rfl⟩
          have hJi : (8 : Int) - (k : Int) = (J : Int) := by omega
          have hJn : J < 8 := by omega
          obtain ⟨T, hT⟩ : ∃ T, strOfNums (low q 8) = T := ⟨_, rfl⟩
          have hTs : T.size = 8 := by rw [← hT]; exact hts
          obtain ⟨U, hU⟩ : ∃ U, T.extract 0 J = U := ⟨_, rfl⟩
          have hUs : U.size = J := by rw [← hU]; exact extract_len T J (by omega)
          have hsl : ∀ w : World, (Instr.slice 9 (.string T) none (some (.int .i64 J)) none).run Tryd.prog w = .ok (.string U) w := by
            intro w; rw [run_slice_string_h w 9 T Tryd.underlying9 .i64 J (by omega) (by omega), ← hU]; rfl
          have HF : Hid (numS ⟨a0 ++ U, a0.size, 0, 0, 0, 0⟩ 8 = ⟨a0 ++ U, a0.size, 0, 2, 0, a0.size⟩ ∧ numV ⟨a0 ++ U, a0.size, 0, 0, 0, 0⟩ 8 = 0) := num_short a0 U 8 (by omega)
          have heq : ∀ wx : World, (Op.equalIn 10000 28 (.agg #[.int .i64 2, .int .i64 0, .int .i64 a0.size]) (.agg #[.int .i64 2, .int .i64 0, .int .i64 a0.size])).run Tryd.prog wx = .ok true wx := eq_flt 2 0 a0.size
          rw [hT] at HTX
          have hu8 : U.size ≤ 8 := by omega
          have hsum : ¬ 9223372036854775807 < a0.size + U.size := by have := HA.out; omega
          have HTF : Hid (∀ g w, Names w → IsRdr w g ⟨a0 ++ U, 0, 0, 0, 0, 0⟩ → Calls Tryd.prog 17 #[.pointer (some ⟨g, 0, none⟩), .int .i64 a0.size] w (SPost g ⟨a0 ++ U, a0.size, 0, 0, 0, 0⟩ a0 w)) := fun g w hn hr => front_any a0 U g w HA.out hu8 hn hr
          have HRD : Hid (∀ g w, Names w → IsRdr w g ⟨a0 ++ U, a0.size, 0, 0, 0, 0⟩ → Calls Tryd.prog 21 #[.pointer (some ⟨g, 0, none⟩)] w (IPost .u64 g ⟨a0 ++ U, a0.size, 0, 2, 0, a0.size⟩ 0 w)) := fun g w hn hr => by
            have := u64_any g _ w hn hr (ok_full a0 U HA.out hu8 _ (by omega) 0 0 0)
            rwa [HF.out.1, HF.out.2] at this
          obtain ⟨S, hS⟩ : ∃ S, a0 ++ U = S := ⟨_, rfl⟩
          rw [hS] at HTF HRD
          have haa : (a0.toList == a0.toList) = true := by simp
          have haa2 : (a0.toList != a0.toList) = false := by simp
          clear hU hUs hts hu8 hk0 HF hT hTs hkk hk1 hJ hJn
          go_wp2_with (first
            | (go_at_call 16; refine (HTX.out _).mono ?_; rintro e w3 ⟨rfl, hb3⟩; have HN3 := Lib.hid (HNR.out.kept hb3); have HB3 := Lib.hid hb3; clear hb3)
            | (go_at_call 9; refine (new_any S _).mono ?_; rintro e w4 ⟨g, hg, rfl, hr4, hb4⟩; have HR4 := Lib.hid hr4; have HN4 := Lib.hid (HN3.out.kept hb4); have HG := Lib.hid (Nat.le_trans HB3.out.size hg); have HB4 := Lib.hid (HB3.out.trans (hb4.mono HB3.out.size)); clear hr4 hb4 hg)
            | (go_at_call 17; refine (HTF.out g _ HN4.out HR4.out).mono ?_; rintro e w5 ⟨rfl, hr5, hj5⟩; have HR5 := Lib.hid hr5; have HN5 := Lib.hid (Rdr.Names.just HN4.out HR4.out hj5); have HB5 := Lib.hid (HB4.out.trans (hj5.below HG.out HR4.out.lt)); clear hr5 hj5)
            | (go_at_call 21; refine (HRD.out g _ HN5.out HR5.out).mono ?_; rintro e w6 ⟨rfl, hr6, hj6⟩; have HR6 := Lib.hid hr6; have HN6 := Lib.hid (Rdr.Names.just HN5.out HR5.out hj6); have HB6 := Lib.hid (HB5.out.trans (hj6.below HG.out HR5.out.lt)); clear hr6 hj6)
            | (go_at_call 12; refine (fault_any g _ _ HR6.out).mono ?_; rintro e w7 ⟨rfl, hb7⟩; (try simp only [fltV]); have HR7 := Lib.hid (HR6.out.kept hb7); have HN7 := Lib.hid (HN6.out.kept hb7); have HB7 := Lib.hid (HB6.out.trans (hb7.mono HB6.out.size)); clear hb7)
            | (go_at_call 13; refine (place_any g _ _ HR7.out).mono ?_; rintro e w' ⟨rfl, rfl⟩))
          have HBE := HB7
          have HNE := HN7
          go_roundw
          case rel => exact ⟨4, by omega, rfl, (HBE.out.block _ (lt_of_block HROW.out)).trans HROW.out, HNE.out, HBR.out.trans (HBE.out.mono HBR.out.size)⟩
          case measure => simp [intOf]
      · clear hrow hk hblt hnr hbr
        go_wp2_with (go_at_call 10; refine (Go.Proofs.YtbjolbgjohggiaaDoor.Rdr.awake_any _ HNR.out).mono ?_; rintro e w' ⟨rfl, hb⟩)
        go_ret
        exact ⟨rfl, HBR.out.trans (hb.mono HBR.out.size)⟩

end Go.Proofs.YtbjolbgjohggiaaDoor.readerNumbers
