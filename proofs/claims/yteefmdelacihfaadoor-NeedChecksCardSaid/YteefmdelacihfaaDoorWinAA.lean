
/- Words: how often a number stands in one, whether two are one, as the document tells it. Condition: at most 2 to the power 40 numbers. Windows: the first that is somebody's (slices.IndexFunc at Gaps' closure). Condition: at most 2 to the power 40 windows. -/

import Derived.Test.YteefmdelacihfaaDoorWinV

import Derived.OwnWalk

import Derived.BigQuiet

import Derived.Test.YteefmdelacihfaaDoorWinN

namespace Go.Proofs.YteefmdelacihfaaDoor.Win

open Go.RowKit Go.PlainAid Go.Proofs.YteefmdelacihfaaDoor.Oct Go.Proofs.YteefmdelacihfaaDoor.Flt Go.Proofs.YteefmdelacihfaaDoor.Rdr Go.Proofs.YteefmdelacihfaaDoor.Args

set_option linter.unusedVariables false

set_option linter.unusedSimpArgs false

def cntZ (z : Int) (l : List Int) : Nat := l.countP (· == z)
theorem cntZ_more (z : Int) (l : List Int) (k : Nat) (v : Int) (h : l[k]? = some v) : cntZ z (l.take (k + 1)) = cntZ z (l.take k) + (if v = z then 1 else 0) := by
  unfold cntZ
  rw [List.take_add_one, h]
  simp [List.countP_append, List.countP_cons]
theorem cntZ_le (z : Int) (l : List Int) : cntZ z l ≤ l.length := List.countP_le_length
def RcRel (z : Int) (zs : List Int) (i v : Value) : Prop := ∃ k : Nat, k ≤ zs.length ∧ i = .int .i64 (k : Int) ∧ v = .int .i64 (cntZ z (zs.take k) : Nat)
set_option maxRecDepth 4000 in
set_option maxHeartbeats 1600000 in
theorem rcount_any (z : Int) (zs : List Int) (g n c B : Nat) (w : World) (ho : w.ownsRow B 3 1 (.slice (some ⟨g, 0, none⟩) n c) n (zs.map (Value.int .i64))) (hn : zs.length = n) (hl : n ≤ 1099511627776) :
    Calls Tryd.prog 13 #[.slice (some ⟨g, 0, none⟩) n c, .int .i64 z] w fun e w' => e = .returned (.int .i64 (cntZ z zs : Nat)) ∧ w = w' := by
  have HO := Lib.hid ho
  have HN := Lib.hid hn
  have HL : Hid (n ≤ 1099511627776) := hl
  obtain ⟨r, hr⟩ : ∃ r, cntZ z zs = r := ⟨_, rfl⟩
  have HR := Lib.hid hr
  rw [hr]
  clear ho hn hl hr
  go_enter Tryd.func13, Tryd.ntmps13
  go_wp2
  go_loop [6, 5] (fun i v => RcRel z zs i v) (fun i _ => n - (intOf i).toNat)
  case atStart => exact ⟨0, Nat.zero_le _, rfl, by simp [cntZ]⟩
  case round =>
    obtain ⟨k, hk, rfl, rfl⟩ := hrel
    have hkn : k ≤ n := by rw [← HN.out]; exact hk
    by_cases hlt : k < n
    · obtain ⟨v, hv⟩ : ∃ v, zs[k]? = some v := ⟨_, List.getElem?_eq_getElem (by rw [HN.out]; exact hlt)⟩
      have hc := HO.out.cellAt k (by omega)
      rw [List.getElem?_map, hv] at hc
      simp only [Option.map_some] at hc
      have hcm := cntZ_more z zs k v hv
      have hle := cntZ_le z (zs.take k)
      rw [List.length_take] at hle
      obtain ⟨q, hq⟩ : ∃ q, cntZ z (zs.take k) = q := ⟨_, rfl⟩
      rw [hq] at hcm hle
      rw [hq]
      have HCM := Lib.hid hcm
      have hl := HL.out
      have hki : (0 : Int) ≤ k := by omega
      have hkb : (k : Int) < n := by omega
      have hk1 : IntKind.i64.wrap ((k : Int) + 1) = (k : Int) + 1 := IntWalk.i64_in _ (by omega)
      have hq1 : IntKind.i64.wrap ((q : Int) + 1) = (q : Int) + 1 := IntWalk.i64_in _ (by omega)
      clear hv hcm hq hle hk
      by_cases hvz : v = z
      · have hvb : (v == z) = true := by simp [hvz]
        rw [if_pos hvz] at HCM
        clear hvz
        go_wp2
        go_round
        case rel => exact ⟨k + 1, by rw [HN.out]; omega, by go_num, by rw [HCM.out]; simp⟩
        case measure => simp [intOf]; omega
      · have hvb : (v == z) = false := by simp [hvz]
        rw [if_neg hvz] at HCM
        clear hvz
        go_wp2
        go_round
        case rel => exact ⟨k + 1, by rw [HN.out]; omega, by go_num, by rw [HCM.out]; simp⟩
        case measure => simp [intOf]; omega
    · obtain rfl : k = n := by omega
      rw [List.take_of_length_le (by rw [HN.out]; exact Nat.le_refl _), HR.out]
      go_wp2
      go_ret
      exact ⟨rfl, rfl⟩
set_option maxRecDepth 4000 in
set_option maxHeartbeats 1600000 in
theorem sameints_any (zs : List Int) (g g' n c c' B B' : Nat) (w : World) (ho : w.ownsRow B 3 1 (.slice (some ⟨g, 0, none⟩) n c) n (zs.map (Value.int .i64))) (ho' : w.ownsRow B' 3 1 (.slice (some ⟨g', 0, none⟩) n c') n (zs.map (Value.int .i64))) (hn : zs.length = n) (hl : n ≤ 1099511627776) :
    Calls Tryd.prog 10 #[.slice (some ⟨g, 0, none⟩) n c, .slice (some ⟨g', 0, none⟩) n c'] w fun e w' => e = .returned (.bool true) ∧ Below w.heap.size w w' := by
  have HO := Lib.hid ho
  have HO' := Lib.hid ho'
  have HN := Lib.hid hn
  have HL : Hid (n ≤ 1099511627776) := hl
  clear ho ho' hn hl
  go_enter Tryd.func10, Tryd.ntmps10
  go_wp2
  go_loopw [5] (fun i wr => ∃ k : Nat, k ≤ n ∧ i = .int .i64 (k : Int) ∧ Below w.heap.size w wr) (fun i _ => n - (intOf i).toNat)
  case atStart => exact ⟨0, Nat.zero_le _, rfl, Below.refl _ _⟩
  case round =>
    obtain ⟨k, hk, rfl, hb⟩ := hrel
    have HB := Lib.hid hb
    clear hb
    by_cases hlt : k < n
    · obtain ⟨v, hv⟩ : ∃ v, zs[k]? = some v := ⟨_, List.getElem?_eq_getElem (by rw [HN.out]; exact hlt)⟩
      have hc := HO.out.cellAt k (by omega)
      have hc' := HO'.out.cellAt k (by omega)
      rw [List.getElem?_map, hv] at hc hc'
      simp only [Option.map_some] at hc hc'
      have hd := (HB.out.cell (p := ⟨g, k, none⟩) (HO.out.lt g rfl).2).trans hc
      have hd' := (HB.out.cell (p := ⟨g', k, none⟩) (HO'.out.lt g' rfl).2).trans hc'
      have hl := HL.out
      have hki : (0 : Int) ≤ k := by omega
      have hkb : (k : Int) < n := by omega
      have hk1 : IntKind.i64.wrap ((k : Int) + 1) = (k : Int) + 1 := IntWalk.i64_in _ (by omega)
      clear hv hc hc'
      go_wp2_with fail
      go_quiet (fail)
      go_wp2
      go_roundw
      case rel => exact ⟨k + 1, by omega, by go_num, ⟨HB.out.os, HB.out.tape, HB.out.output, HB.out.size, HB.out.block⟩⟩
      case measure => simp [intOf]; omega
    · obtain rfl : k = n := by omega
      go_wp2
      go_ret
      exact ⟨rfl, HB.out⟩
end Go.Proofs.YteefmdelacihfaaDoor.Win

namespace Go.Proofs.YteefmdelacihfaaDoor.Win

open Go.RowKit Go.PlainAid Go.Proofs.YteefmdelacihfaaDoor.Oct Go.Proofs.YteefmdelacihfaaDoor.Flt Go.Proofs.YteefmdelacihfaaDoor.Rdr Go.Proofs.YteefmdelacihfaaDoor.Args

open Go.Proofs.YteefmdelacihfaaDoor.Act (A3 actL flatA ActsAt I64 Wide row_beside row_base)

set_option linter.unusedVariables false

set_option linter.unusedSimpArgs false

set_option maxRecDepth 4000 in
theorem gap1_any (x : A3) (w : World) :
    Calls Tryd.prog 31 #[.agg (winC x)] w fun e w' => e = .returned (.bool (!nobody x.s)) ∧ Below w.heap.size w w' := by
  have HB0 : Hid (∀ o, Below w.heap.size w (w.alloc o)) := fun o => (Below.refl _ _).alloc (Nat.le_refl _) o
  obtain ⟨s, p, a⟩ := x
  unfold winC nobody
  dsimp only
  go_enter Tryd.func31, Tryd.ntmps31
  go_wp2
  go_ret
  exact ⟨by simp [bne], HB0.out _⟩
/-- The place of the first that is somebody's; or -1. -/
def someI (l : List A3) : Int := match l.findIdx? (fun x => !nobody x.s) with | some k => (k : Int) | none => -1
theorem someI_at {l : List A3} {k : Nat} {x : A3} (hx : l[k]? = some x) (hs : nobody x.s = false) (hb : ∀ j y, j < k → l[j]? = some y → nobody y.s = true) : someI l = (k : Int) := by
  have hk : k < l.length := (List.getElem?_eq_some_iff.1 hx).1
  have h : l.findIdx? (fun x => !nobody x.s) = some k := by
    rw [List.findIdx?_eq_some_iff_getElem]
    refine ⟨hk, ?_, fun j hj => ?_⟩
    · have e : l[k] = x := (List.getElem?_eq_some_iff.1 hx).2
      rw [e, hs]; rfl
    · have := hb j l[j] hj (List.getElem?_eq_getElem (by omega))
      rw [this]; simp
  unfold someI
  rw [h]
theorem someI_none {l : List A3} (hb : ∀ j y, j < l.length → l[j]? = some y → nobody y.s = true) : someI l = -1 := by
  have h : l.findIdx? (fun x => !nobody x.s) = none := by
    rw [List.findIdx?_eq_none_iff]
    intro x hx
    obtain ⟨j, hj, rfl⟩ := List.mem_iff_getElem.1 hx
    rw [hb j _ hj (List.getElem?_eq_getElem hj)]; rfl
  unfold someI
  rw [h]
def IxRel (l : List A3) (w : World) (i : Value) (wr : World) : Prop := ∃ k : Nat, k ≤ l.length ∧ i = .int .i64 (k : Int) ∧ (∀ j y, j < k → l[j]? = some y → nobody y.s = true) ∧ Below w.heap.size w wr
set_option maxRecDepth 8000 in
set_option maxHeartbeats 3200000 in
theorem indexf_any (P : Option Addr) (pc : Nat) (l : List A3) (w : World) (h1 : ActsAt w P l) (hl : l.length ≤ 1099511627776) :
    Calls Tryd.prog 47 #[.slice P l.length pc, .func (.func 31) #[] #[]] w fun e w' => e = .returned (.int .i64 (someI l)) ∧ Below w.heap.size w w' := by
  obtain ⟨r, hr⟩ : ∃ r, someI l = r := ⟨_, rfl⟩
  have HR := Lib.hid hr
  rw [hr]
  obtain ⟨a, ha⟩ : ∃ a, l.length = a := ⟨_, rfl⟩
  have HA := Lib.hid ha
  rw [ha] at hl
  rw [ha]
  have H1 := Lib.hid h1
  have HL : Hid (a ≤ 1099511627776) := hl
  clear hr ha h1 hl
  go_enter Tryd.func47, Tryd.ntmps47
  go_wp2
  go_loopw [8] (fun i wr => IxRel l w i wr) (fun i _ => a - (intOf i).toNat)
  case atStart => exact ⟨0, Nat.zero_le _, rfl, fun j y hj => by omega, Below.refl _ _⟩
  case round =>
    obtain ⟨k, hk, rfl, hall, hb⟩ := hrel
    have HALL := Lib.hid hall
    have HB := Lib.hid hb
    have hka : k ≤ a := by rw [← HA.out]; exact hk
    clear hk hall hb
    by_cases hlt : k < a
    · obtain ⟨x, hx⟩ : ∃ x, l[k]? = some x := ⟨_, List.getElem?_eq_getElem (by rw [HA.out]; exact hlt)⟩
      obtain ⟨ax, rfl, c1, c2, c3⟩ := (H1.out.kept HB.out) k x hx
      have HXK := Lib.hid hx
      have HG := Lib.hid (fun w => gap1_any x w)
      obtain ⟨s1, p1, a1⟩ := x
      unfold winC at HG
      dsimp only at c1 c2 c3 HG
      have hki : (0 : Int) ≤ k := by omega
      have hkb : (k : Int) < a := by omega
      have hl := HL.out
      have hk1 : IntKind.i64.wrap ((k : Int) + 1) = (k : Int) + 1 := IntWalk.i64_in _ (by omega)
      obtain ⟨b, hb⟩ : ∃ b, nobody s1 = b := ⟨_, rfl⟩
      have HNB := Lib.hid hb
      rw [hb] at HG
      clear hx hb
      go_wp2_with fail
      refine (HG.out _).mono ?_
      rintro e w6 ⟨rfl, hb6⟩
      have HB6 := Lib.hid (HB.out.trans (hb6.mono HB.out.size))
      clear hb6 c1 c2 c3
      cases b with
      | false =>
        obtain rfl : r = (k : Int) := by rw [← HR.out]; exact someI_at HXK.out HNB.out HALL.out
        go_wp2
        go_ret
        exact ⟨rfl, HB6.out⟩
      | true =>
        go_wp2
        go_roundw
        case rel => exact ⟨k + 1, by rw [HA.out]; omega, by go_num, fun j y hj hy => by
          by_cases hjk : j = k
          · subst hjk
            rw [HXK.out] at hy
            obtain rfl := Option.some.inj hy
            exact HNB.out
          · exact HALL.out j y (by omega) hy, HB6.out⟩
        case measure => simp [intOf]; omega
    · obtain rfl : k = a := by omega
      obtain rfl : r = -1 := by rw [← HR.out]; exact someI_none fun j y hj hy => HALL.out j y (by rw [← HA.out]; exact hj) hy
      go_wp2
      go_ret
      exact ⟨rfl, HB.out⟩
end Go.Proofs.YteefmdelacihfaaDoor.Win
