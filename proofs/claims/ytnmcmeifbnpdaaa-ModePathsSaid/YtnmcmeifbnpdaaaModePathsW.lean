
/- The function ModePaths returns true for every mode and every slice of modes. Condition: none. This text: the walk through the Go text; the row is in the text without the W at its name's end. -/

import Derived.Test.YtnmcmeifbnpdaaaArgs

import Derived.Test.YtnmcmeifbnpdaaaModC

import Derived.IntWalk

namespace Go.Proofs.Ytnmcmeifbnpdaaa.modePaths

open Go.RowKit Go.PlainAid Go.Proofs.Ytnmcmeifbnpdaaa.Args

set_option linter.unusedVariables false

open Go.Proofs.Ytnmcmeifbnpdaaa.Mod

set_option linter.unusedSimpArgs false

set_option maxRecDepth 4000 in
set_option maxHeartbeats 3200000 in
theorem walk (a0 : Int) (a1 : Option Addr) (len1 cap1 : Nat) (z1 : List Int) (w : World) (w0 : (Lit.int .i64 a0).wf = true) (w1 : IsRow .i64 w a1 len1 cap1 z1) :
    Calls Try.prog 3 #[.int .i64 a0, .slice a1 len1 cap1] w fun e w' => e = .returned (.bool true) ∧ Below w.heap.size w w' := by
  obtain ⟨hints, hzb⟩ := row_ints w1
  obtain ⟨zs, hzs⟩ : ∃ zs : Nat → Int, (fun j => z1.getD j 0) = zs := ⟨_, rfl⟩
  rw [hzs] at hints
  have HI := Lib.hid hints
  clear hints hzb hzs w1 w0
  by_cases hl : 60 < len1
  · have tl : decide (60 < (len1 : Int)) = true := decide_eq_true (by omega)
    clear hl
    go_enter Try.func3, Try.ntmps3
    go_wp2_with (go_at_call 8; refine (awake_any _).mono ?_; rintro e w' ⟨rfl, hbel⟩)
    go_ret
    exact ⟨rfl, hbel⟩
  · have tl : decide (60 < (len1 : Int)) = false := decide_eq_false (by omega)
    have HL : Hid (len1 ≤ 60) := by show _ ≤ _; omega
    clear hl
    go_enter Try.func3, Try.ntmps3
    go_wp2_with fail
    refine (path_any a0 a1 len1 cap1 zs _ HI.out (by have := HL.out; omega)).mono ?_
    rintro e w2 ⟨V, rfl, ho, hb⟩
    obtain ⟨A, c, rfl⟩ := own_slice ho
    have HO := Lib.hid ho
    have HB := Lib.hid hb
    clear ho hb
    go_wp2_with fail
    go_loopw [6, 27] (fun now i wr => ∃ k : Nat, k ≤ len1 ∧ i = .int .i64 (k : Int) ∧ now = .int .i64 (nw zs a0 k) ∧ Below w2.heap.size w2 wr) (fun _ i _ => len1 - (intOf i).toNat)
    case atStart => exact ⟨0, Nat.zero_le _, rfl, rfl, Below.refl _ _⟩
    case round =>
      obtain ⟨k, hk, rfl, rfl, hbw⟩ := hrel
      have HBW := Lib.hid hbw
      clear hbw
      by_cases hlt : k < len1
      · obtain ⟨x, rfl, hc⟩ := (HI.out.kept (HB.out.trans (HBW.out.mono HB.out.size))) k hlt
        obtain ⟨z, hz⟩ : ∃ z, zs k = z := ⟨_, rfl⟩
        obtain ⟨m, hm⟩ : ∃ m, nw zs a0 k = m := ⟨_, rfl⟩
        rw [hz] at hc
        have hm2 : nw zs a0 (k + 1) = setM m z := by show setM (nw zs a0 k) (zs k) = _; rw [hm, hz]
        have HM2 := Lib.hid hm2
        have hfg := fl_get zs a0 len1 k hlt
        rw [hm, hz] at hfg
        have HFG := Lib.hid hfg
        have hkb : (k : Int) < len1 := by omega
        have HLT := Lib.hid hlt
        have hlb := HL.out
        have hk1 : IntKind.i64.wrap ((k : Int) + 1) = (k : Int) + 1 := IntWalk.i64_in _ (by omega)
        have HK1 := Lib.hid hk1
        rw [hm]
        clear hz hm hm2 hfg hk hlt hlb hk1
        go_wp2_with fail
        refine (rset_any m z _).mono ?_
        rintro e w4 ⟨rfl, hb4⟩
        have HB4 := Lib.hid (HBW.out.trans (hb4.mono HBW.out.size))
        obtain ⟨G, rfl, d0, d1, d2⟩ := row_at HO.out HB4.out k HLT.out
        rw [HFG.out.1] at d0
        rw [HFG.out.2.1] at d1
        rw [HFG.out.2.2] at d2
        by_cases hm0 : m = 0
        · subst hm0
          rw [setM_zero] at d0 HM2
          rw [setM_zero]
          obtain ⟨S, hS⟩ : ∃ S, setS 0 z = S := ⟨_, rfl⟩
          obtain ⟨K, hK⟩ : ∃ K, askN 0 z = K := ⟨_, rfl⟩
          rw [hS] at d1
          rw [hK] at d2
          rw [hS, hK]
          have hki : (0 : Int) ≤ k := by omega
          have hk1 := HK1.out
          clear hS hK hb4 HFG
          go_wp2
          go_roundw
          case rel => exact ⟨k + 1, HLT.out, by go_num, by rw [HM2.out], HB4.out⟩
          case measure => have := HLT.out; simp [intOf]; omega
        · have tm : (m == 0) = false := by simp [hm0]
          obtain ⟨M, hM⟩ : ∃ M, setM m z = M := ⟨_, rfl⟩
          obtain ⟨S, hS⟩ : ∃ S, setS m z = S := ⟨_, rfl⟩
          obtain ⟨K, hK⟩ : ∃ K, askN m z = K := ⟨_, rfl⟩
          rw [hM] at d0 HM2
          rw [hS] at d1
          rw [hK] at d2
          rw [hM, hS, hK]
          have hki : (0 : Int) ≤ k := by omega
          have hk1 := HK1.out
          clear hS hK hb4 HFG hm0 hM
          go_wp2
          go_roundw
          case rel => exact ⟨k + 1, HLT.out, by go_num, by rw [HM2.out], HB4.out⟩
          case measure => have := HLT.out; simp [intOf]; omega
      · obtain rfl : k = len1 := by omega
        clear hk hlt
        go_wp2_with (go_at_call 8; refine (awake_any _).mono ?_; rintro e w' ⟨rfl, hbel⟩; have HBL := Lib.hid (HB.out.trans ((HBW.out.trans (hbel.mono HBW.out.size)).mono HB.out.size)); clear hbel)
        go_ret
        exact ⟨rfl, HBL.out⟩

end Go.Proofs.Ytnmcmeifbnpdaaa.modePaths
