
/- Words: how often a number stands in one, whether two are one, as the document tells it. Condition: at most 2 to the power 40 numbers. Windows: the first that is somebody's (slices.IndexFunc at Gaps' closure). Condition: at most 2 to the power 40 windows. -/

import Derived.Test.YteefmdelacihfaaWinV

import Derived.OwnWalk

import Derived.BigQuiet

import Derived.Test.YteefmdelacihfaaWinN

namespace Go.Proofs.Yteefmdelacihfaa.Win

open Go.RowKit Go.PlainAid Go.Proofs.Yteefmdelacihfaa.Oct Go.Proofs.Yteefmdelacihfaa.Flt Go.Proofs.Yteefmdelacihfaa.Rdr Go.Proofs.Yteefmdelacihfaa.Args

set_option linter.unusedVariables false

set_option linter.unusedSimpArgs false

def cntZ (z : Int) (l : List Int) : Nat := l.countP (· == z)
theorem cntZ_more (z : Int) (l : List Int) (k : Nat) (v : Int) (h : l[k]? = some v) : cntZ z (l.take (k + 1)) = cntZ z (l.take k) + (if v = z then 1 else 0) := by
  unfold cntZ
  rw [List.take_add_one, h]
  simp [List.countP_append, List.countP_cons]
theorem cntZ_le (z : Int) (l : List Int) : cntZ z l ≤ l.length := List.countP_le_length
def RcRel (z : Int) (zs : List Int) (i v : Value) : Prop := ∃ k : Nat, k ≤ zs.length ∧ i = .int .i64 (k : Int) ∧ v = .int .i64 (cntZ z (zs.take k) : Nat)
set_option maxRecDepth 4000 in
set_option maxHeartbeats 1600000 in
theorem rcount_any (z : Int) (zs : List Int) (g n c B : Nat) (w : World) (ho : w.ownsRow B 3 1 (.slice (some ⟨g, 0, none⟩) n c) n (zs.map (Value.int .i64))) (hn : zs.length = n) (hl : n ≤ 1099511627776) :
    Calls Try.prog 15 #[.slice (some ⟨g, 0, none⟩) n c, .int .i64 z] w fun e w' => e = .returned (.int .i64 (cntZ z zs : Nat)) ∧ w = w' := by
  have HO := Lib.hid ho
  have HN := Lib.hid hn
  have HL : Hid (n ≤ 1099511627776) := hl
  obtain ⟨r, hr⟩ : ∃ r, cntZ z zs = r := ⟨_, rfl⟩
  have HR := Lib.hid hr
  rw [hr]
  clear ho hn hl hr
  go_enter Try.func15, Try.ntmps15
  go_wp2
  go_loop [6, 5] (fun i v => RcRel z zs i v) (fun i _ => n - (intOf i).toNat)
  case atStart => exact ⟨0, Nat.zero_le _, rfl, by simp [cntZ]⟩
  case round =>
    obtain ⟨k, hk, rfl, rfl⟩ := hrel
    have hkn : k ≤ n := by rw [← HN.out]; exact hk
    by_cases hlt : k < n
    · obtain ⟨v, hv⟩ : ∃ v, zs[k]? = some v := ⟨_, List.getElem?_eq_getElem (by rw [HN.out]; exact hlt)⟩
      have hc := HO.out.cellAt k (by omega)
      rw [List.getElem?_map, hv] at hc
      simp only [Option.map_some] at hc
      have hcm := cntZ_more z zs k v hv
      have hle := cntZ_le z (zs.take k)
      rw [List.length_take] at hle
      obtain ⟨q, hq⟩ : ∃ q, cntZ z (zs.take k) = q := ⟨_, rfl⟩
      rw [hq] at hcm hle
      rw [hq]
      have HCM := Lib.hid hcm
      have hl := HL.out
      have hki : (0 : Int) ≤ k := by omega
      have hkb : (k : Int) < n := by omega
      have hk1 : IntKind.i64.wrap ((k : Int) + 1) = (k : Int) + 1 := IntWalk.i64_in _ (by omega)
      have hq1 : IntKind.i64.wrap ((q : Int) + 1) = (q : Int) + 1 := IntWalk.i64_in _ (by omega)
      clear hv hcm hq hle hk
      by_cases hvz : v = z
      · have hvb : (v == z) = true := by simp [hvz]
        rw [if_pos hvz] at HCM
        clear hvz
        go_wp2
        go_round
        case rel => exact ⟨k + 1, by rw [HN.out]; omega, by go_num, by rw [HCM.out]; simp⟩
        case measure => simp [intOf]; omega
      · have hvb : (v == z) = false := by simp [hvz]
        rw [if_neg hvz] at HCM
        clear hvz
        go_wp2
        go_round
        case rel => exact ⟨k + 1, by rw [HN.out]; omega, by go_num, by rw [HCM.out]; simp⟩
        case measure => simp [intOf]; omega
    · obtain rfl : k = n := by omega
      rw [List.take_of_length_le (by rw [HN.out]; exact Nat.le_refl _), HR.out]
      go_wp2
      go_ret
      exact ⟨rfl, rfl⟩
end Go.Proofs.Yteefmdelacihfaa.Win

namespace Go.Proofs.Yteefmdelacihfaa.Win

open Go.RowKit Go.PlainAid Go.Proofs.Yteefmdelacihfaa.Oct Go.Proofs.Yteefmdelacihfaa.Flt Go.Proofs.Yteefmdelacihfaa.Rdr Go.Proofs.Yteefmdelacihfaa.Args

open Go.Proofs.Yteefmdelacihfaa.Act (A3 actL flatA ActsAt I64 Wide row_beside row_base)

set_option linter.unusedVariables false

set_option linter.unusedSimpArgs false

/-- The place of the first that is somebody's; or -1. -/
def someI (l : List A3) : Int := match l.findIdx? (fun x => !nobody x.s) with | some k => (k : Int) | none => -1
theorem someI_at {l : List A3} {k : Nat} {x : A3} (hx : l[k]? = some x) (hs : nobody x.s = false) (hb : ∀ j y, j < k → l[j]? = some y → nobody y.s = true) : someI l = (k : Int) := by
  have hk : k < l.length := (List.getElem?_eq_some_iff.1 hx).1
  have h : l.findIdx? (fun x => !nobody x.s) = some k := by
    rw [List.findIdx?_eq_some_iff_getElem]
    refine ⟨hk, ?_, fun j hj => ?_⟩
    · have e : l[k] = x := (List.getElem?_eq_some_iff.1 hx).2
      rw [e, hs]; rfl
    · have := hb j l[j] hj (List.getElem?_eq_getElem (by omega))
      rw [this]; simp
  unfold someI
  rw [h]
theorem someI_none {l : List A3} (hb : ∀ j y, j < l.length → l[j]? = some y → nobody y.s = true) : someI l = -1 := by
  have h : l.findIdx? (fun x => !nobody x.s) = none := by
    rw [List.findIdx?_eq_none_iff]
    intro x hx
    obtain ⟨j, hj, rfl⟩ := List.mem_iff_getElem.1 hx
    rw [hb j _ hj (List.getElem?_eq_getElem hj)]; rfl
  unfold someI
  rw [h]
def IxRel (l : List A3) (w : World) (i : Value) (wr : World) : Prop := ∃ k : Nat, k ≤ l.length ∧ i = .int .i64 (k : Int) ∧ (∀ j y, j < k → l[j]? = some y → nobody y.s = true) ∧ Below w.heap.size w wr
end Go.Proofs.Yteefmdelacihfaa.Win
