
/- Needs: the longest row of ticks without a partition, as the document tells it. Condition: 1 to 1,048,576 ticks. -/

import Derived.Test.YteefmdelacihfaaNeeB

import Derived.Test.YteefmdelacihfaaNeeP

namespace Go.Proofs.Yteefmdelacihfaa.Nee

open Go.RowKit Go.PlainAid Go.Proofs.Yteefmdelacihfaa.Oct Go.Proofs.Yteefmdelacihfaa.Flt Go.Proofs.Yteefmdelacihfaa.Rdr Go.Proofs.Yteefmdelacihfaa.Args Go.Proofs.Yteefmdelacihfaa.Win

set_option linter.unusedVariables false

set_option linter.unusedSimpArgs false

theorem bestD_in (z : Int) (ws : List Int) (k : Nat) (h : k ≤ ws.length) : bestD z ws k ≤ ws.length :=
  bestD_le z ws _ k fun t ht => by
    have := lead_len z (rotZ ws t)
    rw [rot_len ws t (by omega)] at this
    exact this
def RbO (z : Int) (ws : List Int) (n : Nat) (t b : Value) : Prop := ∃ k : Nat, k ≤ n ∧ t = .int .i64 (k : Int) ∧ b = .int .i64 (bestD z ws k : Nat)
def RbI (z : Int) (ws : List Int) (n k : Nat) (v : Value) : Prop := ∃ d : Nat, d ≤ n ∧ v = .int .i64 (d : Int) ∧ ∀ j, j < d → (rotZ ws k)[j]? ≠ some z
set_option maxRecDepth 8000 in
set_option maxHeartbeats 6400000 in
theorem rblack_any (z : Int) (ws : List Int) (y : Addr) (n c : Nat) (w : World) (ho : ZAt w y ws) (hn : ws.length = n) (h1 : 1 ≤ n) (h2 : n ≤ 1048576) :
    Calls Try.prog 12 #[.slice (some y) n c, .int .i64 z] w fun e w' => e = .returned (.int .i64 (bestD z ws n : Nat)) ∧ w = w' := by
  have HO := Lib.hid ho
  have HN := Lib.hid hn
  have HL : Hid (1 ≤ n ∧ n ≤ 1048576) := ⟨h1, h2⟩
  obtain ⟨r, hr⟩ : ∃ r, bestD z ws n = r := ⟨_, rfl⟩
  have HR := Lib.hid hr
  rw [hr]
  clear ho hn h1 h2 hr
  go_enter Try.func12, Try.ntmps12
  go_wp2
  go_loop [6, 5] (fun t b => RbO z ws n t b) (fun t _ => n - (intOf t).toNat)
  case atStart => exact ⟨0, Nat.zero_le _, rfl, rfl⟩
  case round =>
    obtain ⟨k, hk, rfl, rfl⟩ := hrel
    have hl := HL.out
    by_cases hlt : k < n
    · have hbi := bestD_in z ws k (by rw [HN.out]; exact hk)
      rw [HN.out] at hbi
      have hst : bestD z ws (k + 1) = max (bestD z ws k) (leadZ z (rotZ ws k)) := rfl
      obtain ⟨b, hb⟩ : ∃ b, bestD z ws k = b := ⟨_, rfl⟩
      rw [hb] at hst hbi
      rw [hb]
      have HST := Lib.hid hst
      have hkn : (k : Int) < n := by omega
      have hk1 : IntKind.i64.wrap ((k : Int) + 1) = (k : Int) + 1 := IntWalk.i64_in _ (by omega)
      clear hst hb
      go_wp2
      go_loop [7] (fun v => RbI z ws n k v) (fun v => n - (intOf v).toNat)
      case atStart => exact ⟨0, Nat.zero_le _, rfl, fun j hj => absurd hj (Nat.not_lt_zero _)⟩
      case round =>
        obtain ⟨d, hd, rfl, hno⟩ := hrel
        have hrl := rot_len ws k (by rw [HN.out]; exact hk)
        rw [HN.out] at hrl
        have hd1 : IntKind.i64.wrap ((d : Int) + 1) = (d : Int) + 1 := IntWalk.i64_in _ (by omega)
        by_cases hdn : d < n
        · have hrg := rot_get ws k d (by rw [HN.out]; exact hlt) (by rw [HN.out]; exact hdn)
          rw [HN.out] at hrg
          have hql : (k + d) % n < n := Nat.mod_lt _ (by omega)
          obtain ⟨v, hv⟩ : ∃ v, ws[(k + d) % n]? = some v := ⟨_, List.getElem?_eq_getElem (by rw [HN.out]; exact hql)⟩
          have hc := HO.out _ v hv
          rw [hv] at hrg
          have hs : IntKind.i64.wrap ((k : Int) + (d : Int)) = ((k + d : Nat) : Int) := IntWalk.i64_in _ (by omega)
          have hm : Int.tmod ((k + d : Nat) : Int) (n : Int) = (((k + d) % n : Nat) : Int) := by rw [Int.tmod_eq_emod_of_nonneg (by omega)]; rfl
          obtain ⟨s, hse⟩ : ∃ s, k + d = s := ⟨_, rfl⟩
          rw [hse] at hs hm hc hql
          obtain ⟨q, hq⟩ : ∃ q, s % n = q := ⟨_, rfl⟩
          rw [hq] at hm hc hql
          have hqw : IntKind.i64.wrap (q : Int) = (q : Int) := IntWalk.i64_in _ (by omega)
          have hq0 : (0 : Int) ≤ q := by omega
          have hqn : (q : Int) < n := by omega
          have hn0 : ¬ n = 0 := by omega
          have hdd : (d : Int) < n := by omega
          have hdec : decide ((d : Int) < n) = true := decide_eq_true hdd
          clear hse hq hv
          by_cases hvz : v = z
          · have hvb : (v == z) = false ∨ (v != z) = false := by right; simp [hvz]
            have hvb2 : (v != z) = false := by simp [hvz]
            have hvb3 : (v == z) = true := by simp [hvz]
            have hld : leadZ z (rotZ ws k) = d := lead_is z _ d (by omega) hno (.inr (by rw [hrg, hvz]))
            rw [hld] at HST
            clear hvz hld hno hrg hrl hvb
            by_cases hbd : b < d
            · have t3 : decide ((b : Int) < d) = true := decide_eq_true (by omega)
              have HM : Hid (max b d = d) := by show _ = _; omega
              go_wp2
              go_round
              case rel => exact ⟨k + 1, by omega, by go_num, by rw [HST.out, HM.out]⟩
              case measure => simp [intOf]; omega
            · have t3 : decide ((b : Int) < d) = false := decide_eq_false (by omega)
              have HM : Hid (max b d = b) := by show _ = _; omega
              go_wp2
              go_round
              case rel => exact ⟨k + 1, by omega, by go_num, by rw [HST.out, HM.out]⟩
              case measure => simp [intOf]; omega
          · have hvb2 : (v != z) = true := by simp [hvz]
            have hvb3 : (v == z) = false := by simp [hvz]
            have HNO : Hid (∀ j, j < d + 1 → (rotZ ws k)[j]? ≠ some z) := fun j hj => by
              rcases Nat.lt_or_ge j d with h | h
              · exact hno j h
              · obtain rfl : j = d := by omega
                rw [hrg]
                exact fun e => hvz (Option.some.inj e)
            clear hvz hno hrg hrl
            go_wp2
            go_round
            case rel => exact ⟨d + 1, by omega, by go_num, HNO.out⟩
            case measure => simp [intOf]; omega
        · have hld : leadZ z (rotZ ws k) = d := lead_is z _ d (by omega) hno (.inl (by omega))
          rw [hld] at HST
          have hdec : decide ((d : Int) < n) = false := decide_eq_false (by omega)
          clear hld hno hrl
          by_cases hbd : b < d
          · have t3 : decide ((b : Int) < d) = true := decide_eq_true (by omega)
            have HM : Hid (max b d = d) := by show _ = _; omega
            go_wp2
            go_round
            case rel => exact ⟨k + 1, by omega, by go_num, by rw [HST.out, HM.out]⟩
            case measure => simp [intOf]; omega
          · have t3 : decide ((b : Int) < d) = false := decide_eq_false (by omega)
            have HM : Hid (max b d = b) := by show _ = _; omega
            go_wp2
            go_round
            case rel => exact ⟨k + 1, by omega, by go_num, by rw [HST.out, HM.out]⟩
            case measure => simp [intOf]; omega
    · obtain rfl : k = n := by omega
      rw [HR.out]
      go_wp2
      go_ret
      exact ⟨rfl, rfl⟩
end Go.Proofs.Yteefmdelacihfaa.Nee
