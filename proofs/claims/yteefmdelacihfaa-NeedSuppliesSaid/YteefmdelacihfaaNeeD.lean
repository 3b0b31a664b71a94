
/- Needs: what a number has in a part of some, and the least of all parts, as the document tells it. Conditions: at most 2 to the power 40 numbers; the parts are all of one length of at least 1. -/

import Derived.Test.YteefmdelacihfaaNeeB

namespace Go.Proofs.Yteefmdelacihfaa.Nee

open Go.RowKit Go.PlainAid Go.Proofs.Yteefmdelacihfaa.Oct Go.Proofs.Yteefmdelacihfaa.Flt Go.Proofs.Yteefmdelacihfaa.Rdr Go.Proofs.Yteefmdelacihfaa.Args Go.Proofs.Yteefmdelacihfaa.Win

set_option linter.unusedVariables false

set_option linter.unusedSimpArgs false

/-- How often z stands from a place on, up to another one, among the first k. -/
def supN (z f t : Int) (zs : List Int) (k : Nat) : Nat := cntZ z (((zs.take k).take t.toNat).drop f.toNat)
theorem cntZ_app (z : Int) (a b : List Int) : cntZ z (a ++ b) = cntZ z a + cntZ z b := by unfold cntZ; exact List.countP_append
theorem sup_more (z f t : Int) (zs : List Int) (k : Nat) (v : Int) (h : zs[k]? = some v) :
    supN z f t zs (k + 1) = supN z f t zs k + (if f ≤ (k : Int) ∧ (k : Int) < t ∧ v = z then 1 else 0) := by
  obtain ⟨hl, _⟩ := List.getElem?_eq_some_iff.1 h
  have e : zs.take (k + 1) = zs.take k ++ [v] := by rw [List.take_add_one, h]; rfl
  have lk : (zs.take k).length = k := by rw [List.length_take]; omega
  unfold supN
  rw [e, List.take_append, lk, List.drop_append, List.length_take, lk, cntZ_app]
  congr 1
  by_cases h1 : f ≤ (k : Int)
  · by_cases h2 : (k : Int) < t
    · obtain ⟨s, hs⟩ : ∃ s, t.toNat - k = s + 1 := ⟨t.toNat - k - 1, by omega⟩
      rw [hs, show f.toNat - min t.toNat k = 0 by omega, List.drop_zero, List.take_succ_cons, List.take_nil]
      by_cases h3 : v = z
      · rw [if_pos ⟨h1, h2, h3⟩]; simp [cntZ, h3]
      · rw [if_neg (fun h => h3 h.2.2)]; simp [cntZ, h3]
    · rw [if_neg (fun h => h2 h.2.1), show t.toNat - k = 0 by omega]
      simp [cntZ]
  · rw [if_neg (fun h => h1 h.1)]
    rcases Nat.lt_or_ge k t.toNat with h2 | h2
    · obtain ⟨s, hs⟩ : ∃ s, f.toNat - min t.toNat k = s + 1 := ⟨f.toNat - min t.toNat k - 1, by omega⟩
      obtain ⟨s', hs'⟩ : ∃ s, t.toNat - k = s + 1 := ⟨t.toNat - k - 1, by omega⟩
      rw [hs, hs']
      simp [cntZ]
    · rw [show t.toNat - k = 0 by omega]
      simp [cntZ]
theorem sup_le (z f t : Int) (zs : List Int) (k : Nat) : supN z f t zs k ≤ k := by
  refine Nat.le_trans (cntZ_le _ _) ?_
  rw [List.length_drop, List.length_take, List.length_take]
  omega
/-- A part of some numbers. -/
theorem sup_chk (z : Int) (zs : List Int) (p k : Nat) : supN z ((k * p : Nat) : Int) ((k * p + p : Nat) : Int) zs zs.length = cntZ z (chkZ zs p k) := by
  unfold supN chkZ
  rw [List.take_length, Int.toNat_natCast, Int.toNat_natCast, List.drop_take, Nat.add_sub_cancel_left]
def RsRel (z f t : Int) (zs : List Int) (i v : Value) : Prop := ∃ k : Nat, k ≤ zs.length ∧ i = .int .i64 (k : Int) ∧ v = .int .i64 (supN z f t zs k : Nat)
set_option maxRecDepth 4000 in
set_option maxHeartbeats 3200000 in
theorem rsup_any (z f t : Int) (zs : List Int) (y : Addr) (n c : Nat) (w : World) (ho : ZAt w y zs) (hn : zs.length = n) (hl : n ≤ 1099511627776) :
    Calls Try.prog 10 #[.slice (some y) n c, .int .i64 z, .int .i64 f, .int .i64 t] w fun e w' => e = .returned (.int .i64 (supN z f t zs zs.length : Nat)) ∧ w = w' := by
  have HO := Lib.hid ho
  have HN := Lib.hid hn
  have HL : Hid (n ≤ 1099511627776) := hl
  obtain ⟨r, hr⟩ : ∃ r, supN z f t zs zs.length = r := ⟨_, rfl⟩
  have HR := Lib.hid hr
  rw [hr]
  clear ho hn hl hr
  go_enter Try.func10, Try.ntmps10
  go_wp2
  go_loop [10, 9] (fun i v => RsRel z f t zs i v) (fun i _ => n - (intOf i).toNat)
  case atStart => exact ⟨0, Nat.zero_le _, rfl, by simp [supN, cntZ]⟩
  case round =>
    obtain ⟨k, hk, rfl, rfl⟩ := hrel
    have hkn : k ≤ n := by rw [← HN.out]; exact hk
    by_cases hlt : k < n
    · obtain ⟨v, hv⟩ : ∃ v, zs[k]? = some v := ⟨_, List.getElem?_eq_getElem (by rw [HN.out]; exact hlt)⟩
      have hc := HO.out k v hv
      have hcm := sup_more z f t zs k v hv
      have hle := sup_le z f t zs k
      obtain ⟨q, hq⟩ : ∃ q, supN z f t zs k = q := ⟨_, rfl⟩
      rw [hq] at hcm hle
      rw [hq]
      have HCM := Lib.hid hcm
      have hl := HL.out
      have hki : (0 : Int) ≤ k := by omega
      have hkb : (k : Int) < n := by omega
      have hk1 : IntKind.i64.wrap ((k : Int) + 1) = (k : Int) + 1 := IntWalk.i64_in _ (by omega)
      have hq1 : IntKind.i64.wrap ((q : Int) + 1) = (q : Int) + 1 := IntWalk.i64_in _ (by omega)
      clear hv hcm hq hle hk
      by_cases h1 : f ≤ (k : Int)
      · have t1 : decide (f ≤ (k : Int)) = true := decide_eq_true h1
        by_cases h2 : (k : Int) < t
        · have t2 : decide ((k : Int) < t) = true := decide_eq_true h2
          by_cases hvz : v = z
          · have hvb : (v == z) = true := by simp [hvz]
            rw [if_pos ⟨h1, h2, hvz⟩] at HCM
            clear hvz
            go_wp2
            go_round
            case rel => exact ⟨k + 1, by rw [HN.out]; omega, by go_num, by rw [HCM.out]; simp⟩
            case measure => simp [intOf]; omega
          · have hvb : (v == z) = false := by simp [hvz]
            rw [if_neg (fun h => hvz h.2.2)] at HCM
            clear hvz
            go_wp2
            go_round
            case rel => exact ⟨k + 1, by rw [HN.out]; omega, by go_num, by rw [HCM.out]; simp⟩
            case measure => simp [intOf]; omega
        · have t2 : decide ((k : Int) < t) = false := decide_eq_false h2
          rw [if_neg (fun h => h2 h.2.1)] at HCM
          go_wp2
          go_round
          case rel => exact ⟨k + 1, by rw [HN.out]; omega, by go_num, by rw [HCM.out]; simp⟩
          case measure => simp [intOf]; omega
      · have t1 : decide (f ≤ (k : Int)) = false := decide_eq_false h1
        rw [if_neg (fun h => h1 h.1)] at HCM
        go_wp2
        go_round
        case rel => exact ⟨k + 1, by rw [HN.out]; omega, by go_num, by rw [HCM.out]; simp⟩
        case measure => simp [intOf]; omega
    · obtain rfl : k = n := by omega
      have e : supN z f t zs k = r := by rw [← HR.out, HN.out]
      rw [e]
      clear e
      go_wp2
      go_ret
      exact ⟨rfl, rfl⟩
def RlRel (z : Int) (zs : List Int) (p K : Nat) (i v : Value) : Prop := ∃ k : Nat, k ≤ K ∧ i = .int .i64 ((k * p : Nat) : Int) ∧ v = .int .i64 (minC z zs p p k : Nat)
set_option maxRecDepth 4000 in
set_option maxHeartbeats 3200000 in
theorem rleast_any (z : Int) (zs : List Int) (y : Addr) (p K cap : Nat) (w : World) (ho : ZAt w y zs) (hn : zs.length = K * p) (hp : 1 ≤ p) (hl : K * p ≤ 1099511627776) (hp2 : p ≤ 1099511627776) :
    Calls Try.prog 13 #[.slice (some y) (K * p) cap, .int .i64 z, .int .i64 (p : Int)] w fun e w' => e = .returned (.int .i64 (minC z zs p p K : Nat)) ∧ w = w' := by
  obtain ⟨T, hT⟩ : ∃ T, K * p = T := ⟨_, rfl⟩
  rw [hT] at hn hl
  rw [hT]
  have HS := Lib.hid (fun f t => rsup_any z f t zs y T cap w ho hn hl)
  have HT := Lib.hid hT
  have HL : Hid (T ≤ 1099511627776) := hl
  have HP : Hid (1 ≤ p ∧ p ≤ 1099511627776) := ⟨hp, hp2⟩
  obtain ⟨r, hr⟩ : ∃ r, minC z zs p p K = r := ⟨_, rfl⟩
  have HR := Lib.hid hr
  rw [hr]
  clear ho hn hl hr hT hp hp2
  go_enter Try.func13, Try.ntmps13
  go_wp2
  go_loop [8, 7] (fun i v => RlRel z zs p K i v) (fun i _ => T - (intOf i).toNat)
  case atStart => exact ⟨0, Nat.zero_le _, by simp, rfl⟩
  case round =>
    obtain ⟨k, hk, rfl, rfl⟩ := hrel
    by_cases hlt : k < K
    · have hip : k * p + p ≤ T := by rw [← HT.out, ← Nat.succ_mul]; exact Nat.mul_le_mul_right p hlt
      have hi1 : (k + 1) * p = k * p + p := Nat.succ_mul k p
      have hch := sup_chk z zs p k
      have hst : minC z zs p p (k + 1) = min (minC z zs p p k) (cntZ z (chkZ zs p k)) := rfl
      have HSK := Lib.hid (HS.out ((k * p : Nat) : Int) ((k * p + p : Nat) : Int))
      rw [hch] at HSK
      have hcl := chk_le z zs p k
      obtain ⟨i, hi⟩ : ∃ i, k * p = i := ⟨_, rfl⟩
      obtain ⟨cn, hcn⟩ : ∃ n, cntZ z (chkZ zs p k) = n := ⟨_, rfl⟩
      obtain ⟨m, hm⟩ : ∃ n, minC z zs p p k = n := ⟨_, rfl⟩
      rw [hi] at hip hi1 HSK
      rw [hcn] at HSK hst hcl
      rw [hm] at hst
      rw [hi, hm]
      have HI := Lib.hid hi1
      have HM := Lib.hid hst
      have hl := HL.out
      have hp := HP.out
      have t1 : (i : Int) < T := by omega
      have t2 : IntKind.i64.wrap ((i : Int) + (p : Int)) = ((i + p : Nat) : Int) := IntWalk.i64_in _ (by omega)
      clear hi hi1 hcn hm hst hch
      by_cases hc : cn < m
      · have t3 : decide ((cn : Int) < m) = true := decide_eq_true (by omega)
        rw [Nat.min_eq_right (Nat.le_of_lt hc)] at HM
        go_wp2_with fail
        refine HSK.out.mono ?_
        rintro e w2 ⟨rfl, rfl⟩
        go_wp2
        go_round
        case rel => exact ⟨k + 1, by omega, by rw [HI.out]; first | rfl | go_num | simp, by rw [HM.out]⟩
        case measure => simp [intOf]; omega
      · have t3 : decide ((cn : Int) < m) = false := decide_eq_false (by omega)
        rw [Nat.min_eq_left (by omega)] at HM
        go_wp2_with fail
        refine HSK.out.mono ?_
        rintro e w2 ⟨rfl, rfl⟩
        go_wp2
        go_round
        case rel => exact ⟨k + 1, by omega, by rw [HI.out]; first | rfl | go_num | simp, by rw [HM.out]⟩
        case measure => simp [intOf]; omega
    · obtain rfl : k = K := by omega
      rw [HT.out, HR.out]
      go_wp2
      go_ret
      exact ⟨rfl, rfl⟩
end Go.Proofs.Yteefmdelacihfaa.Nee
