/- Plans: who is late, as the document tells it (countwheelref32's Late); what is wrong, as it tells it (Wrong; law 32's wrong). Condition: at most 1,000 needs, right ones, a frame of 1 to 4,096. -/
import Derived.Test.YtpjillclladjaaaDoorMg34
import Derived.BigQuiet
namespace Go.Proofs.YtpjillclladjaaaDoor.Pln

open Go.RowKit Go.PlainAid Go.Proofs.YtpjillclladjaaaDoor.Oct Go.Proofs.YtpjillclladjaaaDoor.Flt Go.Proofs.YtpjillclladjaaaDoor.Rdr Go.Proofs.YtpjillclladjaaaDoor.Args Go.Proofs.YtpjillclladjaaaDoor.Win Go.Proofs.YtpjillclladjaaaDoor.Nee

open Go.Proofs.YtpjillclladjaaaDoor.Act (A3 ActsAt I64 Wide row_beside row_base)

set_option linter.unusedVariables false

set_option linter.unusedSimpArgs false

def RlO (l : List A3) (fr : Nat) (w : World) (t : Value) (W : World) : Prop :=
  ∃ u T : Nat, T = u + 1 ∧ u ≤ fr ∧ t = .int .i64 (T : Int) ∧ flR l u = -1 ∧ Below w.heap.size w W
def RlI (l : List A3) (u n : Nat) (W0 : World) (i : Value) (W : World) : Prop :=
  ∃ k : Nat, k ≤ n ∧ i = .int .i64 (k : Int) ∧ (∀ j, j < k → ¬ LateP l u (runR l (u + 1)).1 j) ∧ Below W0.heap.size W0 W
theorem wat_take {W : World} {P : Option Addr} {xs : List Int} (h : WAt W P xs) (t : Nat) : WAt W P (xs.take t) := fun j hj => by
  rw [List.length_take] at hj
  obtain ⟨y, e, c⟩ := h j (by omega)
  refine ⟨y, e, ?_⟩
  rw [c]
  unfold vz
  rw [List.getElem?_take_of_lt (by omega)]
set_option maxRecDepth 8000 in
set_option maxHeartbeats 12800000 in
theorem rlate_any (g c fr : Nat) (P : Option Addr) (pc n : Nat) (l : List A3) (w : World) (ho : WAt w (some ⟨g, 0, none⟩) (runR l fr).2) (hc : fr ≤ c) (h1 : ActsAt w P l) (hl : l.length = n) (hl2 : n ≤ 1000) (hf : 1 ≤ fr ∧ fr ≤ 4096) (hp : PerOk l) (hi : IdsOk l) :
    Calls Tryd.prog 15 #[.slice (some ⟨g, 0, none⟩) fr c, .slice P n pc] w fun e w' => e = .returned (.int .i64 (flR l fr)) ∧ Below w.heap.size w w' := by
  have HACT := Lib.hid (fun W (b : Below w.heap.size w W) => h1.kept b)
  have HWW := Lib.hid (fun W (b : Below w.heap.size w W) => ho.kept b)
  have HL := Lib.hid hl
  have HL2 : Hid (n ≤ 1000) := hl2
  have HF : Hid (1 ≤ fr ∧ fr ≤ 4096 ∧ fr ≤ c) := ⟨hf.1, hf.2, hc⟩
  have HP := Lib.hid hp
  have HLK := Lib.hid (link l hp.nd hi)
  have HS0 : Hid (RlO l fr w (.int .i64 1) w) := ⟨0, 1, rfl, Nat.zero_le _, rfl, rfl, Below.refl _ _⟩
  obtain ⟨z, hz⟩ : ∃ z, flR l fr = z := ⟨_, rfl⟩
  have HZ := Lib.hid hz
  rw [hz]
  clear ho hc h1 hl hl2 hf hp hi hz
  go_enter Tryd.func15, Tryd.ntmps15
  go_wp2_with fail
  go_loopw [5] (fun t W => RlO l fr w t W) (fun t _ => fr + 1 - (intOf t).toNat)
  case atStart => exact HS0.out
  case round =>
    obtain ⟨W0, hW0⟩ : ∃ X, wr = X := ⟨_, rfl⟩
    rw [hW0] at hrel
    rw [hW0]
    clear hW0 wr HS0
    obtain ⟨u, T, hT, hu, rfl, hfl, hb⟩ := hrel
    have HT := Lib.hid hT
    have HB := Lib.hid hb
    have HFL := Lib.hid hfl
    have hff := HF.out
    clear hb hT hfl
    by_cases hlt : T ≤ fr
    · have hti : (0 : Int) ≤ T := by omega
      have htb : (T : Int) ≤ fr := by omega
      have htc : (T : Int) ≤ c := by omega
      have htc2 : T ≤ c := by omega
      have ht1 : IntKind.i64.wrap ((T : Int) + 1) = (T : Int) + 1 := IntWalk.i64_in _ (by omega)
      have HTF : Hid (T ≤ fr ∧ fr ≤ 4096 ∧ fr ≤ c ∧ T = u + 1) := ⟨hlt, hff.2.1, hff.2.2, HT.out⟩
      have HSI : Hid (RlI l u n W0 (.int .i64 0) W0) := ⟨0, Nat.zero_le _, rfl, fun j hj => by omega, Below.refl _ _⟩
      clear hu hlt hff
      go_wp2_with fail
      go_loopw [6] (fun i W => RlI l u n W0 i W) (fun i _ => n - (intOf i).toNat)
      case atStart => exact HSI.out
      case round =>
        obtain ⟨W1, hW1⟩ : ∃ X, wr = X := ⟨_, rfl⟩
        rw [hW1] at hrel
        rw [hW1]
        clear hW1 wr HSI
        obtain ⟨k, hk, rfl, hno, hb1⟩ := hrel
        have HNO := Lib.hid hno
        have HB1 := Lib.hid hb1
        have HBW := Lib.hid (HB.out.trans (hb1.mono HB.out.size))
        have hll := HL2.out
        clear hb1 hno
        by_cases hkn : k < n
        · have hkl : k < l.length := by rw [HL.out]; exact hkn
          obtain ⟨h1, h2, h3, h4⟩ := HP.out k hkl
          obtain ⟨ax, rfl, g0, g1, g2⟩ := HACT.out W1 HBW.out k _ (nd_at hkl)
          have hlk := (HLK.out u k hkl).2
          have hmn := mod_next (t := (u : Int)) h1
          have hfn := from_next u h1
          have hlp : LateP l u (runR l (u + 1)).1 k ↔ (0 < (runR l (u + 1)).1 k ∧ endZ u (nd l k).p = (u : Int) + 1) := Iff.rfl
          obtain ⟨F1, hF1⟩ : ∃ F, fromN u (nd l k).p = F := ⟨_, rfl⟩
          have hFu : F1 ≤ u := by rw [← hF1]; exact from_le _ _
          rw [hF1] at hlk hfn
          obtain ⟨x, hx⟩ : ∃ x, nd l k = x := ⟨_, rfl⟩
          rw [hx] at hlk hlp hmn hfn h1 h2 h3 h4 g0 g1 g2
          obtain ⟨s, p, a⟩ := x
          dsimp only at hlk hlp hmn hfn h1 h2 h3 h4 g0 g1 g2
          have htk : ((runR l fr).2).take T = (runR l (u + 1)).2 := by
            have := HTF.out
            have h := run_take l T (fr - T)
            rw [show T + (fr - T) = fr by omega] at h
            rw [h, this.2.2.2]
          obtain ⟨gv, hgv⟩ : ∃ g, gvn (runR l (u + 1)).2 s F1 = g := ⟨_, rfl⟩
          rw [hgv] at hlk
          have HGV : Hid (∀ W, Below W1.heap.size W1 W → Calls Tryd.prog 42 #[.slice (some ⟨g, 0, none⟩) T c, .int .i64 s, .int .i64 (F1 : Int)] W fun e w' => e = .returned (.int .i64 (gv : Nat)) ∧ w' = W) := fun W b => by
            have hw := wat_take (HWW.out W (HBW.out.trans (b.mono HBW.out.size))) T
            rw [htk] at hw
            rw [← hgv]
            have := HTF.out
            exact given_any _ c T (runR l (u + 1)).2 s F1 W hw (by rw [run_len, this.2.2.2]) (by omega) (by omega)
          have hm := Int.tmod_eq_emod_of_nonneg (a := ((T : Nat) : Int)) (b := p) (by omega)
          rw [show ((T : Nat) : Int) = (u : Int) + 1 by have := HTF.out; omega] at hm
          obtain ⟨q, hq⟩ : ∃ q, ((u : Int) + 1) % p = q := ⟨_, rfl⟩
          rw [hq] at hm hmn hfn
          rw [show (u : Int) + 1 = ((T : Nat) : Int) by have := HTF.out; omega] at hm hmn hlp hfn
          have hq0 : 0 ≤ q ∧ q ≤ 4096 := by
            have h5 := Int.emod_nonneg ((u : Int) + 1) (show p ≠ 0 by omega)
            have h6 := Int.emod_lt_of_pos ((u : Int) + 1) (show 0 < p by omega)
            omega
          have hqw : IntKind.i64.wrap q = q := IntWalk.i64_in _ (by omega)
          have hki : (0 : Int) ≤ k := by omega
          have hkb : (k : Int) < n := by omega
          have hk1 : IntKind.i64.wrap ((k : Int) + 1) = (k : Int) + 1 := IntWalk.i64_in _ (by omega)
          have hp0 : ¬ p = 0 := by omega
          have hp1 : (p == 0) = false := by simp [hp0]
          have HNX : Hid (∀ W, ¬ LateP l u (runR l (u + 1)).1 k → Below W0.heap.size W0 W → RlI l u n W0 (.int .i64 ((k : Int) + 1)) W) := fun W h1 h2 => ⟨k + 1, by omega, by go_num, fun j hj => by
            rcases Nat.lt_or_ge j k with h | h
            · exact HNO.out j h
            · obtain rfl : j = k := by omega
              exact h1, h2⟩
          have HFD : Hid (LateP l u (runR l (u + 1)).1 k → z = (k : Int)) := fun h => by
            have h5 : lateR l u = (k : Int) := lt_found l u _ hkl h HNO.out
            have h6 : flR l (u + 1) = (k : Int) := by rw [flR, HFL.out, if_neg (by omega), h5]
            have h7 := fl_stay l (u + 1) (by rw [h6]; omega) (fr - (u + 1))
            rw [show u + 1 + (fr - (u + 1)) = fr by have := HTF.out; omega, HZ.out, h6] at h7
            exact h7
          have HKN : Hid (k < n) := hkn
          have HLP := Lib.hid hlp
          have HMN := Lib.hid hmn
          have HGQ : Hid (∀ q, Calls Tryd.prog 42 #[.slice (some ⟨g, 0, none⟩) T c, .int .i64 s, .int .i64 (F1 : Int)] (W1.drewN q) fun e w' => e = .returned (.int .i64 (gv : Nat)) ∧ w' = W1.drewN q) := fun q => HGV.out _ ⟨rfl, rfl, rfl, Nat.le_refl _, fun _ _ => rfl⟩
          clear hlp hmn hF1 hx hgv htk hq hk hkl
          by_cases hqz : q = 0
          · have hqb : (q == 0) = true := by simp [hqz]
            have hF3 : (F1 : Int) = (T : Int) - p := by
              rcases hfn with ⟨_, _, h⟩ | ⟨h, _⟩
              · exact h
              · exact absurd hqz h
            have hee : endZ (u : Int) p = (T : Int) := by
              rcases HMN.out with ⟨_, h, _⟩ | ⟨h, _⟩
              · exact h
              · exact absurd hqz h
            have hsw : IntKind.i64.wrap ((T : Int) - p) = (F1 : Int) := by rw [hF3]; exact IntWalk.i64_in _ (by have := HTF.out; omega)
            by_cases hlate : (gv : Int) < a
            · have HL8 : Hid (LateP l u (runR l (u + 1)).1 k) := HLP.out.2 ⟨by rw [hlk]; omega, hee⟩
              obtain rfl : z = (k : Int) := HFD.out HL8.out
              have t8 : decide ((gv : Int) < a) = true := decide_eq_true hlate
              clear hfn hqz hee hF3 hlk HFD
              go_wp2_with fail
              go_quiet (first | (go_at_call 42; exact Calls.quiet_of_same (HGQ.out _)) | fail)
              go_wp2
              go_ret
              exact ⟨rfl, ⟨HBW.out.os, HBW.out.tape, HBW.out.output, HBW.out.size, HBW.out.block⟩⟩
            · have HL8 : Hid (¬ LateP l u (runR l (u + 1)).1 k) := fun h => by
                have h5 := (HLP.out.1 h).1
                rw [hlk] at h5
                omega
              have t8 : decide ((gv : Int) < a) = false := decide_eq_false hlate
              clear hfn hqz hee hF3 hlk HFD
              go_wp2_with fail
              go_quiet (first | (go_at_call 42; exact Calls.quiet_of_same (HGQ.out _)) | fail)
              go_wp2
              go_roundw
              case rel => exact HNX.out _ HL8.out ⟨HB1.out.os, HB1.out.tape, HB1.out.output, HB1.out.size, HB1.out.block⟩
              case measure => have := HKN.out; simp [intOf]; omega
          · have hqb : (q == 0) = false := by simp [hqz]
            have HL8 : Hid (¬ LateP l u (runR l (u + 1)).1 k) := fun h => by
              have h5 := (HLP.out.1 h).2
              rcases HMN.out with ⟨h6, _⟩ | ⟨_, _, h6, _⟩
              · exact hqz h6
              · omega
            clear hfn hqz hlk HFD
            go_wp2_with fail
            go_quiet (fail)
            go_wp2
            go_roundw
            case rel => exact HNX.out _ HL8.out ⟨HB1.out.os, HB1.out.tape, HB1.out.output, HB1.out.size, HB1.out.block⟩
            case measure => have := HKN.out; simp [intOf]; omega
        · obtain rfl : k = n := by omega
          have h5 : lateR l u = -1 := lt_none l u _ (fun j hj => HNO.out j (by rw [← HL.out]; exact hj))
          have HF6 : Hid (flR l (u + 1) = -1) := by show _ = _; rw [flR, HFL.out, if_neg (by omega), h5]
          clear h5 hk hkn
          go_wp2
          go_roundw
          case rel => exact ⟨u + 1, T + 1, by have := HTF.out; omega, by have := HTF.out; omega, by go_num, HF6.out, HBW.out⟩
          case measure => have := HTF.out; simp [intOf]; omega
    · have hu2 : u = fr := by have := HT.out; omega
      obtain rfl : z = -1 := by rw [← HZ.out, ← hu2, HFL.out]
      have hT3 : ¬ (T : Int) ≤ fr := by omega
      have HBF := Lib.hid HB.out
      clear hu2 HB
      go_wp2
      go_ret
      exact ⟨rfl, HBF.out⟩
end Go.Proofs.YtpjillclladjaaaDoor.Pln
