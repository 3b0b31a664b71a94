/- What package crc's Sum and the document's return: the sum of the text; and the chapter's examples. Condition: a text is no longer than 2 to the power 61. -/
import Derived.Test.YtlfhldfclleclaaCrcC
namespace Go.Proofs.Ytlfhldfclleclaa.Crc
open Go.RowKit Go.PlainAid

theorem ones_lt : (4294967295 : Nat) < 4294967296 := by omega
theorem csum_any (s : ByteArray) (hs : s.size ≤ 2305843009213693952) (w : World) :
    Calls Try.prog 23 #[.string s] w fun e w' => e = .returned (.int .u32 (sum s.data.toList)) ∧ Below w.heap.size w w' := by
  obtain ⟨V, hV⟩ : ∃ V, V = sum s.data.toList := ⟨_, rfl⟩
  rw [← hV]
  have HV : Hid (4294967295 - rest 4294967295 s.data.toList = V) := hV.symm
  have HL := rest_lt ones_lt s.data.toList
  have HRL := Lib.hid HL
  have HS := Lib.hid hs
  clear hV HL hs
  go_enter Try.func23, Try.ntmps23
  go_wp2_with fail
  refine (new_any _).mono ?_
  rintro e w1 ⟨g, hg, rfl, hh, hb⟩
  go_wp2_with fail
  refine (write_any g 4294967295 0 s w1 ones_lt (by omega) (by have := HS.out; omega) hh).mono ?_
  rintro e w2 ⟨rfl, hh2, hb2⟩
  go_wp2_with (go_at_call 27; refine (hsum_any g _ _ w2 HRL.out hh2).mono ?_; rw [HV.out]; rintro e w' ⟨rfl, rfl⟩)
  go_ret
  exact ⟨rfl, hb.trans (hb2.mono hg)⟩

/-- What the rounds of the document's sum keep. -/
def SRel (s : ByteArray) (v i : Value) : Prop := ∃ k : Nat, k ≤ s.size ∧ i = .int .i64 k ∧ v = .int .u32 (rest 4294967295 (bys s k))
set_option maxHeartbeats 800000 in
theorem rsum_any (s : ByteArray) (hs : s.size ≤ 2305843009213693952) (w : World) :
    Calls Try.prog 24 #[.string s] w fun e w' => e = .returned (.int .u32 (sum s.data.toList)) ∧ w = w' := by
  obtain ⟨V, hV⟩ : ∃ V, V = sum s.data.toList := ⟨_, rfl⟩
  rw [← hV]
  have HV := Lib.hid hV
  clear hV
  go_enter Try.func24, Try.ntmps24
  go_wp2
  go_loop [3, 4] (fun v i => SRel s v i) (fun _ i => s.size - (intOf i).toNat)
  case atStart => exact ⟨0, Nat.zero_le _, rfl, rfl⟩
  case round =>
    obtain ⟨k, hk, rfl, rfl⟩ := hrel
    obtain ⟨R, hR⟩ : ∃ R, R = rest 4294967295 (bys s k) := ⟨_, rfl⟩
    have hRl : R < 4294967296 := by rw [hR]; exact rest_lt ones_lt _
    rw [← hR]
    by_cases hlt : k < s.size
    · have hb := get_bt s
      obtain ⟨c, hcc⟩ : ∃ c : Nat, c = s[k].toNat := ⟨_, rfl⟩
      have hcb : bt s k = (c : Int) := by rw [hcc]; exact bt_nat s k hlt
      have hc256 : c < 256 := by rw [hcc]; exact s[k].toNat_lt
      have hx0 := u32_xor_nat R c hRl (by omega)
      obtain ⟨X, hX⟩ : ∃ X, X = R ^^^ c := ⟨_, rfl⟩
      have hXl : X < 4294967296 := by rw [hX]; exact Nat.xor_lt_two_pow (n := 32) (by omega) (by omega)
      have HNext : Hid (rest 4294967295 (bys s (k + 1)) = stk 8 X) := by
        show _ = _
        rw [bys_succ s k hlt, rest_snoc, ← hR, ← hcc, hX]
      rw [← hX] at hx0
      have HXL := Lib.hid hXl
      have hcl : (c : Int) ≤ 255 := by omega
      clear hcc hc256 hR hRl hX hXl
      go_wp2_with fail
      go_loop [3, 5] (fun v i => ∃ j : Nat, j ≤ 8 ∧ i = .int .i64 j ∧ v = .int .u32 (stk j X)) (fun _ i => (8 - intOf i).toNat)
      case atStart => exact ⟨0, by omega, rfl, rfl⟩
      case round =>
        obtain ⟨j, hj, rfl, rfl⟩ := hrel
        obtain ⟨Y, hY⟩ : ∃ Y, Y = stk j X := ⟨_, rfl⟩
        have hYl : Y < 4294967296 := by rw [hY]; exact stk_lt j HXL.out
        have HS : Hid (stk (j + 1) X = st Y) := by show _ = _; rw [hY]; rfl
        rw [← hY]
        have HY := Lib.hid hY
        have HYL := Lib.hid hYl
        clear hY hYl
        by_cases hj8 : j < 8
        · have t8 : decide ((j : Int) < 8) = true := decide_eq_true (by omega)
          have HJ8 := Lib.hid hj8
          have hjb : j ≤ 9223372036854775806 := by omega
          clear hj hj8
          go_wp2_with (go_at_call 33; refine (step_any Y HYL.out _).mono ?_; rintro e w' ⟨rfl, rfl⟩)
          go_round
          case rel => exact ⟨j + 1, by have := HJ8.out; omega, by go_num, by rw [HS.out]⟩
          case measure => have := HJ8.out; simp [intOf]; omega
        · obtain rfl : j = 8 := by omega
          clear hj hj8
          go_wp2
          go_round
          case rel => exact ⟨k + 1, by omega, by go_num, by rw [HNext.out, HY.out]⟩
          case measure => simp [intOf]; omega
    · obtain rfl : k = s.size := by omega
      have HVR : Hid (((4294967295 - R : Nat) : Int) = (V : Int)) := by
        show _ = _
        rw [hR, HV.out, bys_all]; rfl
      have HRL := hRl
      clear hR
      go_wp2
      go_ret
      exact ⟨ret_int (by rw [← HVR.out]; omega), rfl⟩

theorem sum_nine : sum [49, 50, 51, 52, 53, 54, 55, 56, 57] = 3421780262 := by decide +kernel
theorem sum_none : sum [] = 0 := by decide
theorem awake_any (w : World) : Calls Try.prog 22 #[] w fun e w' => e = .returned (.bool true) ∧ Below w.heap.size w w' := by
  have h9 : Hid (∀ w : World, Calls Try.prog 23 #[.string ⟨#[49, 50, 51, 52, 53, 54, 55, 56, 57]⟩] w fun e w' => e = .returned (.int .u32 3421780262) ∧ Below w.heap.size w w') := by
    intro w; have := csum_any ⟨#[49, 50, 51, 52, 53, 54, 55, 56, 57]⟩ (by decide) w
    simp only [sum_nine] at this
    exact this
  have h0 : Hid (∀ w : World, Calls Try.prog 23 #[.string ⟨#[]⟩] w fun e w' => e = .returned (.int .u32 0) ∧ Below w.heap.size w w') := by
    intro w; have := csum_any ⟨#[]⟩ (by decide) w
    simp only [sum_none] at this
    exact this
  go_enter Try.func22, Try.ntmps22
  go_wp2_with fail
  refine (h9.out _).mono ?_
  rintro e w1 ⟨rfl, hb1⟩
  go_wp2_with fail
  refine (h0.out _).mono ?_
  rintro e w2 ⟨rfl, hb2⟩
  go_wp2
  go_ret
  exact ⟨rfl, hb1.trans (hb2.mono hb1.size)⟩
end Go.Proofs.Ytlfhldfclleclaa.Crc
