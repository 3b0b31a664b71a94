
/- Needs: a partition's part of a frame, the greatest divisor, by how much needs are met (need.Share, need.Slack). Conditions: 1 to 1,048,576 ticks; at most 1,000 needs, whose numbers may be. -/

import Derived.Test.YteefmdelacihfaaNeeH

import Derived.Test.YteefmdelacihfaaWinJ

import Derived.Deep.RegionHeld3

import Derived.Deep.Onto

import Derived.BigQuiet

import Derived.OwnWalk

namespace Go.Proofs.Yteefmdelacihfaa.Nee

open Go.RowKit Go.PlainAid Go.Proofs.Yteefmdelacihfaa.Oct Go.Proofs.Yteefmdelacihfaa.Flt Go.Proofs.Yteefmdelacihfaa.Rdr Go.Proofs.Yteefmdelacihfaa.Args Go.Proofs.Yteefmdelacihfaa.Win

open Go.Proofs.Yteefmdelacihfaa.Act (A3 ActsAt I64)

set_option linter.unusedVariables false

set_option linter.unusedSimpArgs false

def DvRel (g M : Nat) (w : World) (x y : Value) (wr : World) : Prop := ∃ a b k : Nat, x = .int .i64 (a : Int) ∧ y = .int .i64 (b : Int) ∧ a ≤ M ∧ b ≤ M ∧ Nat.gcd a b = g ∧ wr = w.drewN k
set_option maxRecDepth 4000 in
set_option maxHeartbeats 1600000 in
theorem divisor_any (a b : Nat) (ha : a ≤ 1048576) (hb : b ≤ 1048576) (w : World) :
    Calls Try.prog 27 #[.int .i64 (a : Int), .int .i64 (b : Int)] w fun e w' => e = .returned (.int .i64 (Nat.gcd a b : Nat)) ∧ ∃ n, w' = w.drewN n := by
  obtain ⟨g, hg⟩ : ∃ g, Nat.gcd a b = g := ⟨_, rfl⟩
  have HS : Hid (DvRel g 1048576 w (.int .i64 (a : Int)) (.int .i64 (b : Int)) w) := ⟨a, b, 0, rfl, rfl, ha, hb, hg, rfl⟩
  rw [hg]
  clear hg
  go_enter Try.func27, Try.ntmps27
  go_wp2
  go_loopw [0, 1] (fun x y wr => DvRel g 1048576 w x y wr) (fun _ y _ => (intOf y).toNat)
  case atStart => exact HS.out
  case round =>
    obtain ⟨a, b, k, rfl, rfl, ha, hb, hg, hwr⟩ := hrel
    have HW := Lib.hid hwr
    clear HS hwr
    by_cases hb0 : b = 0
    · subst hb0
      obtain rfl : a = g := by simpa using hg
      have hz : ((0 : Nat) : Int) = 0 := rfl
      go_wp2
      go_ret
      exact ⟨rfl, k, HW.out⟩
    · have hm : Int.tmod (a : Int) (b : Int) = ((a % b : Nat) : Int) := by rw [Int.tmod_eq_emod_of_nonneg (by omega)]; rfl
      have hlt : a % b < b := Nat.mod_lt _ (by omega)
      have hgg : Nat.gcd b (a % b) = g := by rw [← hg, Nat.gcd_comm b, ← Nat.gcd_rec, Nat.gcd_comm]
      obtain ⟨q, hq⟩ : ∃ q, a % b = q := ⟨_, rfl⟩
      rw [hq] at hm hlt hgg
      have hqw : IntKind.i64.wrap (q : Int) = (q : Int) := IntWalk.i64_in _ (by omega)
      have hbn : ((b : Int) != 0) = true := by simp; omega
      have HG := Lib.hid hgg
      clear hg hgg hq
      go_wp2
      go_quiet (fail)
      go_wp2
      go_roundw
      case rel => exact ⟨b, q, k + nq, rfl, rfl, hb, by omega, HG.out, by rw [HW.out, World.drewN_drewN]⟩
      case measure => simp [intOf]; omega
def RdRel (a b : Nat) (v : Value) : Prop := ∃ d : Nat, 1 ≤ d ∧ d ≤ b ∧ v = .int .i64 (d : Int) ∧ ∀ e, d < e → e ≤ b → ¬ (e ∣ a ∧ e ∣ b)
set_option maxRecDepth 4000 in
set_option maxHeartbeats 1600000 in
theorem rdivisor_any (a b : Nat) (ha : a ≤ 1048576) (hb1 : 1 ≤ b) (hb : b ≤ 1048576) (w : World) :
    Calls Try.prog 16 #[.int .i64 (a : Int), .int .i64 (b : Int)] w fun e w' => e = .returned (.int .i64 (Nat.gcd a b : Nat)) ∧ w = w' := by
  obtain ⟨g, hg⟩ : ∃ g, Nat.gcd a b = g := ⟨_, rfl⟩
  have HGG := Lib.hid hg
  rw [hg]
  clear hg
  go_enter Try.func16, Try.ntmps16
  go_wp2
  go_loop [5] (fun v => RdRel a b v) (fun v => (intOf v).toNat)
  case atStart => exact ⟨b, hb1, Nat.le_refl _, rfl, fun e h1 h2 => absurd h2 (by omega)⟩
  case round =>
    obtain ⟨d, hd1, hdb, rfl, hno⟩ := hrel
    by_cases hd : 1 < d
    · have t1 : decide ((1 : Int) < d) = true := decide_eq_true (by omega)
      have hma : Int.tmod (a : Int) (d : Int) = ((a % d : Nat) : Int) := by rw [Int.tmod_eq_emod_of_nonneg (by omega)]; rfl
      have hmb : Int.tmod (b : Int) (d : Int) = ((b % d : Nat) : Int) := by rw [Int.tmod_eq_emod_of_nonneg (by omega)]; rfl
      have hla : a % d < d := Nat.mod_lt _ (by omega)
      have hlb : b % d < d := Nat.mod_lt _ (by omega)
      have hda : a % d = 0 ↔ d ∣ a := ⟨Nat.dvd_of_mod_eq_zero, Nat.mod_eq_zero_of_dvd⟩
      have hdb2 : b % d = 0 ↔ d ∣ b := ⟨Nat.dvd_of_mod_eq_zero, Nat.mod_eq_zero_of_dvd⟩
      obtain ⟨q, hq⟩ : ∃ q, a % d = q := ⟨_, rfl⟩
      obtain ⟨r, hr⟩ : ∃ r, b % d = r := ⟨_, rfl⟩
      rw [hq] at hma hla hda
      rw [hr] at hmb hlb hdb2
      have hqw : IntKind.i64.wrap (q : Int) = (q : Int) := IntWalk.i64_in _ (by omega)
      have hrw : IntKind.i64.wrap (r : Int) = (r : Int) := IntWalk.i64_in _ (by omega)
      have hd0 : ¬ d = 0 := by omega
      have hdw : IntKind.i64.wrap ((d : Int) - 1) = ((d - 1 : Nat) : Int) := by rw [show (d : Int) - 1 = ((d - 1 : Nat) : Int) by omega]; exact IntWalk.i64_in _ (by omega)
      have HNX : Hid (¬ (q = 0 ∧ r = 0) → ∀ e, d - 1 < e → e ≤ b → ¬ (e ∣ a ∧ e ∣ b)) := fun h e h1 h2 => by
        rcases Nat.lt_or_ge d e with h3 | h3
        · exact hno e h3 h2
        · obtain rfl : e = d := by omega
          exact fun h4 => h ⟨hda.2 h4.1, hdb2.2 h4.2⟩
      have HGD : Hid (q = 0 ∧ r = 0 → Nat.gcd a b = d) := fun h => gcd_top (by omega) ⟨hda.1 h.1, hdb2.1 h.2⟩ hno
      clear hq hr hda hdb2 hno
      by_cases hq0 : q = 0
      · by_cases hr0 : r = 0
        · have hg := HGD.out ⟨hq0, hr0⟩
          rw [HGG.out] at hg
          subst hg
          subst hq0
          subst hr0
          have hz : ((0 : Nat) : Int) = 0 := rfl
          go_wp2
          go_ret
          exact ⟨rfl, rfl⟩
        · have HN2 := Lib.hid (HNX.out (fun h => hr0 h.2))
          have tr : ((r : Int) == 0) = false := by simp; omega
          subst hq0
          have hz : ((0 : Nat) : Int) = 0 := rfl
          go_wp2
          go_round
          case rel => exact ⟨d - 1, by omega, by omega, by first | rfl | rw [hdw], HN2.out⟩
          case measure => first | (simp [intOf, hdw]; omega) | (simp [intOf]; omega)
      · have HN2 := Lib.hid (HNX.out (fun h => hq0 h.1))
        have tq : ((q : Int) == 0) = false := by simp; omega
        go_wp2
        go_round
        case rel => exact ⟨d - 1, by omega, by omega, by first | rfl | rw [hdw], HN2.out⟩
        case measure => first | (simp [intOf, hdw]; omega) | (simp [intOf]; omega)
    · have t1 : decide ((1 : Int) < d) = false := decide_eq_false (by omega)
      obtain rfl : d = 1 := by omega
      have hg := gcd_top (a := a) (b := b) (by omega) ⟨Nat.one_dvd _, Nat.one_dvd _⟩ hno
      rw [HGG.out] at hg
      subst hg
      go_wp2
      go_ret
      exact ⟨rfl, rfl⟩
set_option maxRecDepth 4000 in
set_option maxHeartbeats 1600000 in
/-- A partition's part of a frame. -/
theorem share_any (id z : Int) (P C : Option Addr) (nl pc nn cc cz : Nat) (n : Nat) (w : World) (ht : ∀ W, Below w.heap.size w W → Calls Try.prog 26 #[.agg #[.int .i64 id, .int .i64 (n : Int), .slice P nl pc, .slice C nn cc], .int .i64 z] W fun e w' => e = .returned (.int .i64 (cz : Int)) ∧ Below W.heap.size W w') (hc : cz ≤ n) (h1 : 1 ≤ n) (h2 : n ≤ 1048576) :
    Calls Try.prog 14 #[.agg #[.int .i64 id, .int .i64 (n : Int), .slice P nl pc, .slice C nn cc], .int .i64 z] w fun e w' => e = .returned (.tuple #[.int .i64 ((cz / Nat.gcd cz n : Nat) : Int), .int .i64 ((n / Nat.gcd cz n : Nat) : Int)]) ∧ Below w.heap.size w w' := by
  have hb0 : Below w.heap.size w (w.alloc (.cells #[.int .i64 id, .int .i64 (n : Int), .slice P nl pc, .slice C nn cc] 25)) := (Below.refl _ _).alloc (Nat.le_refl _) _
  have HX0 := Lib.hid (heap_alloc_new w (.cells #[.int .i64 id, .int .i64 (n : Int), .slice P nl pc, .slice C nn cc] 25))
  have HT := Lib.hid (ht _ hb0)
  have HB0 := Lib.hid hb0
  have HD := Lib.hid (fun W => divisor_any cz n (by omega) h2 W)
  have hg0 : 0 < Nat.gcd cz n := Nat.gcd_pos_of_pos_right cz (by omega)
  obtain ⟨g, hg⟩ : ∃ g, Nat.gcd cz n = g := ⟨_, rfl⟩
  rw [hg] at HD hg0 ⊢
  have hq1 : Int.tdiv (cz : Int) (g : Int) = ((cz / g : Nat) : Int) := by rw [Int.tdiv_eq_ediv_of_nonneg (by omega)]; rfl
  have hq2 : Int.tdiv (n : Int) (g : Int) = ((n / g : Nat) : Int) := by rw [Int.tdiv_eq_ediv_of_nonneg (by omega)]; rfl
  have hl1 : cz / g ≤ cz := Nat.div_le_self _ _
  have hl2 : n / g ≤ n := Nat.div_le_self _ _
  obtain ⟨u, hu⟩ : ∃ u, cz / g = u := ⟨_, rfl⟩
  obtain ⟨v, hv⟩ : ∃ v, n / g = v := ⟨_, rfl⟩
  rw [hu] at hq1 hl1 ⊢
  rw [hv] at hq2 hl2 ⊢
  have hw1 : IntKind.i64.wrap (u : Int) = (u : Int) := IntWalk.i64_in _ (by omega)
  have hw2 : IntKind.i64.wrap (v : Int) = (v : Int) := IntWalk.i64_in _ (by omega)
  have hgn : ¬ g = 0 := by omega
  have hgb : ((g : Int) == 0) = false := by simp; omega
  clear ht hb0 hc h1 h2 hg hu hv hg0
  go_enter Try.func14, Try.ntmps14
  go_wp2_with fail
  refine HT.out.mono ?_
  rintro e w2 ⟨rfl, hb2⟩
  have HB2 := Lib.hid (HB0.out.trans (hb2.mono HB0.out.size))
  have HX2 := Lib.hid ((hb2.block _ (lt_of_block HX0.out)).trans HX0.out)
  have c1 : w2.cell? ⟨w.heap.size, 1, none⟩ = some (.int .i64 (n : Int)) := by rw [cell_of_row _ _ _ _ _ _ HX2.out]; rfl
  clear hb2 HB0 HX0 HT
  go_wp2_with fail
  refine (HD.out _).mono ?_
  rintro e w3 ⟨rfl, k3, rfl⟩
  have HB3 := Lib.hid (below_drewN HB2.out k3)
  have c2 : (w2.drewN k3).cell? ⟨w.heap.size, 1, none⟩ = some (.int .i64 (n : Int)) := c1
  obtain ⟨W3, hW3⟩ : ∃ W, w2.drewN k3 = W := ⟨_, rfl⟩
  rw [hW3] at c2 HB3
  rw [hW3]
  clear c1 hW3
  go_wp2
  go_quiet (fail)
  go_wp2
  go_ret2
  exact ⟨rfl, below_drewN HB3.out _⟩
end Go.Proofs.Yteefmdelacihfaa.Nee
