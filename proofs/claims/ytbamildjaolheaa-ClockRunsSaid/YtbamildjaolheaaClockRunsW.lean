/- The function ClockRuns returns true for every time, every list of counts and every other time. Condition: none. This text: the walk through the Go text; the row is in the text without the W at its name's end. -/
import Derived.Test.YtbamildjaolheaaArgs
import Derived.Test.YtbamildjaolheaaClkA
namespace Go.Proofs.Ytbamildjaolheaa.clockRuns
open Go.RowKit Go.PlainAid Go.Proofs.Ytbamildjaolheaa.Args
set_option linter.unusedVariables false

open Go.Proofs.Ytbamildjaolheaa.Clk
/-- What the rounds keep: the clock's block, its time, and that nothing that was there has changed. -/
def RRel (g t : Nat) (w : World) (n : Nat) (i now : Value) (wr : World) : Prop :=
  ∃ (k T : Nat), k ≤ n ∧ T ≤ 18446744073709551615 ∧ i = .int .i64 k ∧ now = .int .u64 T ∧ IsClk wr g T ∧ Below w.heap.size w wr
set_option maxRecDepth 4000 in
set_option maxHeartbeats 3200000 in
theorem walk (a0 : Int) (a1 : Option Addr) (len1 cap1 : Nat) (z1 : List Int) (a2 : Int) (w : World) (w0 : (Lit.int .u64 a0).wf = true) (w1 : IsRow .i64 w a1 len1 cap1 z1) (w2 : (Lit.int .u64 a2).wf = true) :
    Calls Try.prog 3 #[.int .u64 a0, .slice a1 len1 cap1, .int .u64 a2] w fun e w' => e = .returned (.bool true) ∧ Below w.heap.size w w' := by
  have b0 := bounds_u64 w0
  have b2 := bounds_u64 w2
  obtain ⟨t, rfl⟩ : ∃ a : Nat, a0 = a := ⟨a0.toNat, by omega⟩
  obtain ⟨s, rfl⟩ : ∃ b : Nat, a2 = b := ⟨a2.toNat, by omega⟩
  have ht : t ≤ 18446744073709551615 := by omega
  have hs : s ≤ 18446744073709551615 := by omega
  clear w0 w2 b0 b2
  by_cases hl : 60 < len1
  · have tl : decide (60 < (len1 : Int)) = true := decide_eq_true (by omega)
    clear hl
    go_enter Try.func3, Try.ntmps3
    go_wp2_with fail
    refine (cnew_any t _).mono ?_
    rintro e w1 ⟨g, hg, rfl, hc1, hb1⟩
    go_wp2_with (go_at_call 7; refine (awake_any _).mono ?_; rintro e w' ⟨rfl, hbel⟩)
    go_ret
    exact ⟨rfl, hb1.trans (hbel.mono hb1.size)⟩
  · have tl : decide (60 < (len1 : Int)) = false := decide_eq_false (by omega)
    have hl60 : len1 ≤ 60 := by omega
    clear hl
    have HZ : Hid (∀ (j : Nat) (wr : World), j < len1 → Below w.heap.size w wr → ∃ x z, a1 = some x ∧ wr.cell? (x.add j) = some (.int .i64 z) ∧ -9223372036854775808 ≤ z ∧ z ≤ 9223372036854775807) := by
      intro j wr hj hb
      rcases w1 with ⟨_, h0, _, _⟩ | ⟨x, hx, hlc, hcm, hz, hcell, hwf⟩
      · omega
      · have hjz : j < z1.length := by omega
        refine ⟨x, z1.getD j 0, hx, (hb.cell (Go.block_lt_of_cell (hcell j hjz))).trans (hcell j hjz), ?_⟩
        have hm : z1.getD j 0 ∈ z1 := by simp [List.getD, hjz]
        exact bounds_i64 (hwf _ hm)
    clear w1
    go_enter Try.func3, Try.ntmps3
    go_wp2_with fail
    refine (cnew_any t _).mono ?_
    rintro e w2 ⟨g, hg, rfl, hc2, hb2⟩
    go_wp2_with fail
    go_loopw [8, 33] (fun now i wr => RRel g t w len1 i now wr) (fun _ i _ => len1 - (intOf i).toNat)
    case atStart => exact ⟨0, t, Nat.zero_le _, ht, rfl, rfl, hc2, hb2⟩
    case round =>
      obtain ⟨k, T, hk, hT, rfl, rfl, hc, hb⟩ := hrel
      by_cases hlt : k < len1
      · obtain ⟨x, z, rfl, hcell, hz0, hz1⟩ := HZ.out k wr hlt hb
        obtain ⟨N, hN⟩ : ∃ N, went T z = N := ⟨_, rfl⟩
        obtain ⟨T2, hT2⟩ : ∃ T2, T + N = T2 := ⟨_, rfl⟩
        have hTT : T ≤ T2 := by omega
        have hT2m : T2 ≤ 18446744073709551615 := by unfold went at hN; omega
        obtain ⟨b, hb'⟩ : ∃ b : Bool, ((T2 : Int) == 18446744073709551615) = b := ⟨_, rfl⟩
        obtain ⟨L, hL⟩ : ∃ L, 18446744073709551615 - T2 = L := ⟨_, rfl⟩
        have TL : Hid (IntKind.u64.wrap (18446744073709551615 - (T2 : Int)) = (L : Int)) := by show _ = _; rw [IntKind.wrap_u64]; omega
        have HB := Lib.hid hb'
        have HL := Lib.hid hL
        clear hb' hL
        obtain ⟨D, hD⟩ : ∃ D, T2 - s = D := ⟨_, rfl⟩
        have tT : decide ((T2 : Int) < (T : Int)) = false := decide_eq_false (by omega)
        have HN := Lib.hid hN
        have HT2 := Lib.hid hT2
        have HD := Lib.hid hD
        have HTK : Hid (z = 1 → (((went T 1 : Nat) : Int) == 1) = ((N : Int) == 1)) := by intro h; subst h; rw [hN]
        have HTK2 : Hid (z = 1 → T + went T 1 = T2) := by intro h; subst h; rw [hN, hT2]
        have HNext : ∀ w2 : World, IsClk w2 g T2 → Below g wr w2 → RRel g t w len1 (.int .i64 (((k + 1 : Nat) : Int))) (.int .u64 T2) w2 := fun w2 h1 h2 => ⟨k + 1, T2, by omega, hT2m, rfl, rfl, h1, hb.trans (h2.mono hg)⟩
        have HNX := Lib.hid HNext
        have hkb : (k : Int) ≤ 60 := by omega
        have hds : s < T2 → IntKind.u64.wrap ((T2 : Int) - (s : Int)) = (D : Int) := by intro h; rw [IntKind.wrap_u64]; omega
        have hdn : ¬ s < T2 → D = 0 := by intro h; omega
        clear hN hT2 hD HNext
        by_cases hz : z = 1
        · subst hz
          have hTK := HTK.out rfl
          have hTK2 := HTK2.out rfl
          have HTKa := Lib.hid hTK
          have HTKb := Lib.hid hTK2
          clear hTK hTK2 HTK HTK2 hz0 hz1
          by_cases hgt : s < T2
          · have tD := hds hgt
            have tg : decide ((s : Int) < (T2 : Int)) = true := decide_eq_true (by omega)
            clear hds hdn
            go_wp2_with fail
            refine (rrun_at T 1 N T2 _ hT (by omega) HN.out HT2.out).mono ?_
            rintro e w' ⟨rfl, rfl⟩
            go_wp2_with fail
            refine (ctick_at g T ((N : Int) == 1) T2 _ hT HTKa.out HTKb.out hc).mono ?_
            rintro e w3 ⟨rfl, hc3, hb3, -⟩
            have HT2M := Lib.hid hT2m
            have HTM := Lib.hid hT
            have HSM := Lib.hid hs
            clear hT2m hT hs ht
            go_wp2_with fail
            have tb := HB.out
            have tL := TL.out
            refine (cnow_any g T2 _ hc3).mono ?_
            rintro e w' ⟨rfl, rfl⟩
            go_wp2_with fail
            refine (chalt_at g T2 b _ HB.out hc3).mono ?_
            rintro e w' ⟨rfl, rfl⟩
            go_wp2_with fail
            refine (cleft_at g T2 L _ HT2M.out HL.out hc3).mono ?_
            rintro e w' ⟨rfl, rfl⟩
            go_wp2_with fail
            refine (csince_at g T2 s D _ HT2M.out HSM.out HD.out hc3).mono ?_
            rintro e w' ⟨rfl, rfl⟩
            clear hgt tl hl60 HZ hcell
            go_wp2
            go_roundw
            case rel => exact HNX.out _ hc3 hb3
            case measure => simp [intOf]; omega
          · obtain rfl := hdn hgt
            have tg : decide ((s : Int) < (T2 : Int)) = false := decide_eq_false (by omega)
            clear hds hdn
            go_wp2_with fail
            refine (rrun_at T 1 N T2 _ hT (by omega) HN.out HT2.out).mono ?_
            rintro e w' ⟨rfl, rfl⟩
            go_wp2_with fail
            refine (ctick_at g T ((N : Int) == 1) T2 _ hT HTKa.out HTKb.out hc).mono ?_
            rintro e w3 ⟨rfl, hc3, hb3, -⟩
            have HT2M := Lib.hid hT2m
            have HTM := Lib.hid hT
            have HSM := Lib.hid hs
            clear hT2m hT hs ht
            go_wp2_with fail
            have tb := HB.out
            have tL := TL.out
            refine (cnow_any g T2 _ hc3).mono ?_
            rintro e w' ⟨rfl, rfl⟩
            go_wp2_with fail
            refine (chalt_at g T2 b _ HB.out hc3).mono ?_
            rintro e w' ⟨rfl, rfl⟩
            go_wp2_with fail
            refine (cleft_at g T2 L _ HT2M.out HL.out hc3).mono ?_
            rintro e w' ⟨rfl, rfl⟩
            go_wp2_with fail
            refine (csince_at g T2 s 0 _ HT2M.out HSM.out HD.out hc3).mono ?_
            rintro e w' ⟨rfl, rfl⟩
            clear hgt tl hl60 HZ hcell
            go_wp2
            go_roundw
            case rel => exact HNX.out _ hc3 hb3
            case measure => simp [intOf]; omega
        · have tz : (z == 1) = false := by simp; exact hz
          clear HTK HTK2
          by_cases hgt : s < T2
          · have tD := hds hgt
            have tg : decide ((s : Int) < (T2 : Int)) = true := decide_eq_true (by omega)
            clear hds hdn
            go_wp2_with fail
            refine (rrun_at T z N T2 _ hT (by omega) HN.out HT2.out).mono ?_
            rintro e w' ⟨rfl, rfl⟩
            go_wp2_with fail
            refine (crun_at g T z N T2 _ hT (by omega) HN.out HT2.out hc).mono ?_
            rintro e w3 ⟨rfl, hc3, hb3, -⟩
            have HT2M := Lib.hid hT2m
            have HTM := Lib.hid hT
            have HSM := Lib.hid hs
            clear hT2m hT hs ht
            go_wp2_with fail
            have tb := HB.out
            have tL := TL.out
            refine (cnow_any g T2 _ hc3).mono ?_
            rintro e w' ⟨rfl, rfl⟩
            go_wp2_with fail
            refine (chalt_at g T2 b _ HB.out hc3).mono ?_
            rintro e w' ⟨rfl, rfl⟩
            go_wp2_with fail
            refine (cleft_at g T2 L _ HT2M.out HL.out hc3).mono ?_
            rintro e w' ⟨rfl, rfl⟩
            go_wp2_with fail
            refine (csince_at g T2 s D _ HT2M.out HSM.out HD.out hc3).mono ?_
            rintro e w' ⟨rfl, rfl⟩
            clear hgt tl hl60 HZ hcell
            go_wp2
            go_roundw
            case rel => exact HNX.out _ hc3 hb3
            case measure => simp [intOf]; omega
          · obtain rfl := hdn hgt
            have tg : decide ((s : Int) < (T2 : Int)) = false := decide_eq_false (by omega)
            clear hds hdn
            go_wp2_with fail
            refine (rrun_at T z N T2 _ hT (by omega) HN.out HT2.out).mono ?_
            rintro e w' ⟨rfl, rfl⟩
            go_wp2_with fail
            refine (crun_at g T z N T2 _ hT (by omega) HN.out HT2.out hc).mono ?_
            rintro e w3 ⟨rfl, hc3, hb3, -⟩
            have HT2M := Lib.hid hT2m
            have HTM := Lib.hid hT
            have HSM := Lib.hid hs
            clear hT2m hT hs ht
            go_wp2_with fail
            have tb := HB.out
            have tL := TL.out
            refine (cnow_any g T2 _ hc3).mono ?_
            rintro e w' ⟨rfl, rfl⟩
            go_wp2_with fail
            refine (chalt_at g T2 b _ HB.out hc3).mono ?_
            rintro e w' ⟨rfl, rfl⟩
            go_wp2_with fail
            refine (cleft_at g T2 L _ HT2M.out HL.out hc3).mono ?_
            rintro e w' ⟨rfl, rfl⟩
            go_wp2_with fail
            refine (csince_at g T2 s 0 _ HT2M.out HSM.out HD.out hc3).mono ?_
            rintro e w' ⟨rfl, rfl⟩
            clear hgt tl hl60 HZ hcell
            go_wp2
            go_roundw
            case rel => exact HNX.out _ hc3 hb3
            case measure => simp [intOf]; omega
      · obtain rfl : k = len1 := by omega
        obtain ⟨N, hN⟩ : ∃ N, went T 5 = N := ⟨_, rfl⟩
        obtain ⟨T2, hT2⟩ : ∃ T2, T + N = T2 := ⟨_, rfl⟩
        have hTT : T ≤ T2 := by omega
        have tT : decide ((T : Int) ≤ (T2 : Int)) = true := decide_eq_true (by omega)
        have HN := Lib.hid hN
        have HT2 := Lib.hid hT2
        clear hN hT2 HZ
        go_wp2_with fail
        refine (ccopy_any g T _ hc).mono ?_
        rintro e w3 ⟨d, hd, rfl, hd3, hb3⟩
        have hgl : g < wr.heap.size := lt_of_block hc
        have hc3 := below_clk hb3 hgl hc
        have hgd : g ≠ d := by omega
        go_wp2_with fail
        refine (crun_at d T 5 N T2 _ hT (by omega) HN.out HT2.out hd3).mono ?_
        rintro e w4 ⟨rfl, hd4, hb4, ho4⟩
        have hc4 := ho4.clk hgd hc3
        have hbel : Below w.heap.size w w4 := hb.trans ((hb3.mono hb.size).trans (hb4.mono (Nat.le_trans hb.size hd)))
        clear hb hb3 hb4 hc hc3 hd3
        go_wp2_with (first
          | (go_at_call_of 11 (Value.pointer (some ⟨g, 0, none⟩)); refine (cnow_any g _ _ hc4).mono ?_; rintro e w' ⟨rfl, rfl⟩)
          | (go_at_call_of 11 (Value.pointer (some ⟨d, 0, none⟩)); refine (cnow_any d _ _ hd4).mono ?_; rintro e w' ⟨rfl, rfl⟩)
          | (go_at_call 7; refine (awake_any _).mono ?_; rintro e w8 ⟨rfl, hb8⟩))
        go_ret
        exact ⟨rfl, hbel.trans (hb8.mono hbel.size)⟩

end Go.Proofs.Ytbamildjaolheaa.clockRuns
