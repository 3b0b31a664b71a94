
/- Needs: whether a frame may be cut into periods, how often a number stands in some, and the least of all periods. Conditions: at most 2 to the power 40 numbers. -/

import Derived.RangeFuncBox

import Derived.RangeFuncCalls

import Derived.RangeFuncLeaves

import Derived.Shelf.Abstract

import Derived.Shelf.RegionOpen

import Derived.WalkKit

import Derived.OwnWalkIn

import Derived.TacticsInMore

import Derived.LoopNIn

import Derived.LoopIn

import Derived.Sort.QuietTacIn

import Derived.Test.YteefmdelacihfaaWinAA

namespace Go.Proofs.Yteefmdelacihfaa.Nee

open Go.RowKit Go.PlainAid Go.Shelf Go.Proofs.Yteefmdelacihfaa.Oct Go.Proofs.Yteefmdelacihfaa.Flt Go.Proofs.Yteefmdelacihfaa.Rdr Go.Proofs.Yteefmdelacihfaa.Args Go.Proofs.Yteefmdelacihfaa.Win

open Go.Proofs.Yteefmdelacihfaa.Act (I64)

set_option linter.unusedVariables false

set_option linter.unusedSimpArgs false
attribute [local go_sem] Oper.semAt_some

/-- Numbers in memory, from an address on. -/
def ZAt (w : World) (y : Addr) (zs : List Int) : Prop := ∀ j v, zs[j]? = some v → w.cell? (y.add j) = some (.int .i64 v)
theorem ZAt.kept {w w' : World} {y : Addr} {zs : List Int} {n : Nat} (h : ZAt w y zs) (b : Below n w w') (hy : zs ≠ [] → y.block < n) : ZAt w' y zs := fun j v hv => by
  refine (b.cell (by rw [add_block]; exact hy (fun e => by rw [e] at hv; simp at hv))).trans (h j v hv)
theorem add_add (y : Addr) (i j : Nat) : (y.add i).add j = y.add (i + j) := by
  unfold Addr.add
  by_cases hi : i = 0
  · subst hi; simp
  · by_cases hj : j = 0
    · subst hj; simp [hi]
    · simp [hi, hj, Nat.add_assoc]
theorem ZAt.part {w : World} {y : Addr} {zs : List Int} (h : ZAt w y zs) (i n : Nat) : ZAt w (y.add i) ((zs.drop i).take n) := fun j v hv => by
  rw [add_add]
  refine h (i + j) v ?_
  rw [List.getElem?_take] at hv
  split at hv
  · rw [List.getElem?_drop] at hv; exact hv
  · cases hv
def divB (p : Int) (fr : Nat) : Bool := decide (1 ≤ p) && ((fr : Int) % p == 0)
set_option maxRecDepth 4000 in
theorem divides_any (p : Int) (fr : Nat) (hp : I64 p) (hf : fr ≤ 1048576) (w : World) :
    Calls Try.prog 20 #[.int .i64 p, .int .i64 (fr : Int)] w fun e w' => e = .returned (.bool (divB p fr)) ∧ w = w' := by
  unfold divB
  by_cases h1 : 1 ≤ p
  · obtain ⟨q, hq⟩ : ∃ q : Int, (fr : Int) % p = q := ⟨_, rfl⟩
    have ht : Int.tmod (fr : Int) p = q := by rw [← hq]; exact Int.tmod_eq_emod_of_nonneg (by omega)
    have hp0 : (p == 0) = false := by simp; omega
    have hp1 : ¬ p = 0 := by omega
    have hq0 : 0 ≤ q := by rw [← hq]; exact Int.emod_nonneg _ (by omega)
    have hq1 : q ≤ fr := by
      obtain ⟨pn, rfl⟩ : ∃ n : Nat, p = (n : Int) := ⟨p.toNat, by omega⟩
      rw [← hq, ← Int.natCast_emod]
      have := Nat.mod_le fr pn
      omega
    have hqw : IntKind.i64.wrap q = q := IntWalk.i64_in _ (by omega)
    rw [hq, decide_eq_true h1]
    clear hq hp hf hq0 hq1
    go_enter Try.func20, Try.ntmps20
    go_wp2
    go_ret
    exact ⟨by simp, rfl⟩
  · rw [decide_eq_false h1]
    have h1' : ¬ p ≥ 1 := h1
    clear hp hf
    go_enter Try.func20, Try.ntmps20
    go_wp2
    go_ret
    exact ⟨by simp, rfl⟩
def NcRel (z : Int) (zs : List Int) (i v : Value) : Prop := ∃ k : Nat, k ≤ zs.length ∧ i = .int .i64 (k : Int) ∧ v = .int .i64 (cntZ z (zs.take k) : Nat)
set_option maxRecDepth 4000 in
set_option maxHeartbeats 1600000 in
/-- How often a number stands in some. -/
theorem ncount_any (z : Int) (zs : List Int) (y : Addr) (n c : Nat) (w : World) (ho : ZAt w y zs) (hn : zs.length = n) (hl : n ≤ 1099511627776) :
    Calls Try.prog 23 #[.slice (some y) n c, .int .i64 z] w fun e w' => e = .returned (.int .i64 (cntZ z zs : Nat)) ∧ w = w' := by
  have HO := Lib.hid ho
  have HN := Lib.hid hn
  have HL : Hid (n ≤ 1099511627776) := hl
  obtain ⟨r, hr⟩ : ∃ r, cntZ z zs = r := ⟨_, rfl⟩
  have HR := Lib.hid hr
  rw [hr]
  clear ho hn hl hr
  go_enter Try.func23, Try.ntmps23
  go_wp2
  go_loop [10, 5] (fun i v => NcRel z zs i v) (fun i _ => n - (intOf i).toNat)
  case atStart => exact ⟨0, Nat.zero_le _, rfl, by simp [cntZ]⟩
  case round =>
    obtain ⟨k, hk, rfl, rfl⟩ := hrel
    have hkn : k ≤ n := by rw [← HN.out]; exact hk
    by_cases hlt : k < n
    · obtain ⟨v, hv⟩ : ∃ v, zs[k]? = some v := ⟨_, List.getElem?_eq_getElem (by rw [HN.out]; exact hlt)⟩
      have hc := HO.out k v hv
      have hcm := cntZ_more z zs k v hv
      have hle := cntZ_le z (zs.take k)
      rw [List.length_take] at hle
      obtain ⟨q, hq⟩ : ∃ q, cntZ z (zs.take k) = q := ⟨_, rfl⟩
      rw [hq] at hcm hle
      rw [hq]
      have HCM := Lib.hid hcm
      have hl := HL.out
      have hki : (0 : Int) ≤ k := by omega
      have hkb : (k : Int) < n := by omega
      have hk1 : IntKind.i64.wrap ((k : Int) + 1) = (k : Int) + 1 := IntWalk.i64_in _ (by omega)
      have hq1 : IntKind.i64.wrap ((q : Int) + 1) = (q : Int) + 1 := IntWalk.i64_in _ (by omega)
      clear hv hcm hq hle hk
      by_cases hvz : v = z
      · have hvb : (v == z) = true := by simp [hvz]
        rw [if_pos hvz] at HCM
        clear hvz
        go_wp2
        go_round
        case rel => exact ⟨k + 1, by rw [HN.out]; omega, by go_num, by rw [HCM.out]; simp⟩
        case measure => simp [intOf]; omega
      · have hvb : (v == z) = false := by simp [hvz]
        rw [if_neg hvz] at HCM
        clear hvz
        go_wp2
        go_round
        case rel => exact ⟨k + 1, by rw [HN.out]; omega, by go_num, by rw [HCM.out]; simp⟩
        case measure => simp [intOf]; omega
    · obtain rfl : k = n := by omega
      rw [List.take_of_length_le (by rw [HN.out]; exact Nat.le_refl _), HR.out]
      go_wp2
      go_ret
      exact ⟨rfl, rfl⟩
end Go.Proofs.Yteefmdelacihfaa.Nee
