
/- The function ModeSets returns true for every two numbers and every text. Condition: the package-level variables hold what the program lays in them (the card ties that). This text: the walk through the Go text; the row is in the text without the W at its name's end. -/

import Derived.Test.YtnmcmeifbnpdaaaDoorArgs

import Derived.Test.YtnmcmeifbnpdaaaDoorModB

import Derived.IntWalk

namespace Go.Proofs.YtnmcmeifbnpdaaaDoor.modeSets

open Go.RowKit Go.PlainAid Go.Proofs.YtnmcmeifbnpdaaaDoor.Args

set_option linter.unusedVariables false

open Go.Proofs.YtnmcmeifbnpdaaaDoor.Mod

set_option linter.unusedSimpArgs false

theorem mdV_in {k : Nat} (h : k < 4) : mdV (k : Int) = md k := by unfold mdV; rw [if_neg (by omega), Int.toNat_natCast]
theorem mdV_out {m : Int} (h : m < 0 ∨ 3 < m) : mdV m = ⟨#[]⟩ := by unfold mdV; rw [if_pos h]
theorem md_some {k : Nat} (h : k < 4) : (md k).toList.isEmpty = false := by
  rcases (show k = 0 ∨ k = 1 ∨ k = 2 ∨ k = 3 by omega) with rfl | rfl | rfl | rfl <;> (rw [toList_data]; rfl)
set_option maxRecDepth 8000 in
set_option maxHeartbeats 6400000 in
theorem walk (a0 : Int) (a1 : Int) (a2 : ByteArray) (w : World) (w0 : (Lit.int .i64 a0).wf = true) (w1 : (Lit.int .i64 a1).wf = true) (w2 : a2.size ≤ maxLen) (hn : Go.Proofs.YtnmcmeifbnpdaaaDoor.Mod.Tab w) :
    Calls Tryd.prog 3 #[.int .i64 a0, .int .i64 a1, .string a2] w fun e w' => e = .returned (.bool true) ∧ Below w.heap.size w w' := by
  have HN := Lib.hid hn
  have hs := set_any a0 a1
  have ha := act_any a0 a1
  have hrs := rset_any a0 a1
  have hra := ract_any a0 a1
  obtain ⟨M0, hM0⟩ : ∃ M, setM a0 a1 = M := ⟨_, rfl⟩
  obtain ⟨S0, hS0⟩ : ∃ M, setS a0 a1 = M := ⟨_, rfl⟩
  obtain ⟨K0, hK0⟩ : ∃ M, askN a0 a1 = M := ⟨_, rfl⟩
  rw [hM0, hS0, hK0] at hs hrs
  obtain ⟨M1, hM1⟩ : ∃ M, (if actN a1 = 0 then actM a0 a1 else a0) = M := ⟨_, rfl⟩
  obtain ⟨S1, hS1⟩ : ∃ M, (if actN a1 = 0 then actS a0 a1 else 0) = M := ⟨_, rfl⟩
  obtain ⟨K1, hK1⟩ : ∃ M, actN a1 = M := ⟨_, rfl⟩
  rw [hM1, hS1] at hra ha
  rw [hK1] at hra ha
  have HS := Lib.hid hs
  have HA := Lib.hid ha
  have HRS := Lib.hid hrs
  have HRA := Lib.hid hra
  clear hM0 hS0 hK0 hM1 hS1 hK1 hs ha hrs hra w0 w1 hn
  by_cases hl : 30 < a2.size
  · have tl : decide (30 < (a2.size : Int)) = true := decide_eq_true (by omega)
    clear hl w2
    go_enter Tryd.func3, Tryd.ntmps3
    go_wp2_with (go_at_call 4; refine (awake_any _).mono ?_; rintro e w' ⟨rfl, hbel⟩)
    go_ret
    exact ⟨rfl, hbel⟩
  · have tl : decide (30 < (a2.size : Int)) = false := decide_eq_false (by omega)
    clear hl w2
    go_enter Tryd.func3, Tryd.ntmps3
    go_wp2_with fail
    refine (HRS.out _).mono ?_
    rintro e w2 ⟨rfl, hb2⟩
    have HB2 := Lib.hid hb2
    clear hb2
    go_wp2_with fail
    refine (HRA.out _).mono ?_
    rintro e w' ⟨rfl, rfl⟩
    go_wp2_with fail
    refine (HS.out _).mono ?_
    rintro e w3 ⟨rfl, hb3⟩
    have HB3 := Lib.hid (HB2.out.trans (hb3.mono HB2.out.size))
    clear hb3
    go_wp2_with fail
    refine (HA.out _).mono ?_
    rintro e w4 ⟨rfl, hb4⟩
    have HB4 := Lib.hid (HB3.out.trans (hb4.mono HB3.out.size))
    clear hb4 HB2 HB3 HS HA HRS HRA
    have hx := heap_alloc_new w4 (.cells mdCells 9)
    have hbx : Below w.heap.size w (w4.alloc (.cells mdCells 9)) := HB4.out.trans ((Below.refl _ _).alloc HB4.out.size _)
    obtain ⟨X, hX⟩ : ∃ X, w4.heap.size = X := ⟨_, rfl⟩
    obtain ⟨W5, hW5⟩ : ∃ W, w4.alloc (.cells mdCells 9) = W := ⟨_, rfl⟩
    rw [hW5] at hx hbx
    rw [hX] at hx
    have HW5 : Hid (w4.alloc (.cells #[.string ⟨#[105, 100, 108, 101]⟩, .string ⟨#[99, 111, 108, 100]⟩, .string ⟨#[119, 97, 114, 109]⟩, .string ⟨#[110, 111, 114, 109, 97, 108]⟩] 9) = W5) := hW5
    have HC : Hid (∀ k, k < 4 → W5.cell? ⟨X, k, none⟩ = some (.string (md k))) := fun k hk => by rw [cell_of_row _ _ _ _ _ _ hx, mdCells_at k hk]
    have HB5 := Lib.hid hbx
    have HTAB := Lib.hid (HN.out.kept hbx)
    have HXX := Lib.hid hX
    clear hx hbx hX hW5 HN
    go_upto_region 8 with fail
    rw [HW5.out, HXX.out]
    clear HW5 HXX HB4
    by_cases hneg : a0 < 0
    · have HOUT : Hid (a0 < 0 ∨ 3 < a0) := .inl hneg
      have HOUT1 : Hid (a0 < 1 ∨ 3 < a0) := .inl (by omega)
      have t0 : decide (0 ≤ a0) = false := decide_eq_false (by omega)
      have t1 : decide (1 ≤ a0) = false := decide_eq_false (by omega)
      clear hneg
      go_wp2_with fail
      go_loopw [15, 16, 70] (fun at_ is_ i wr => ∃ (k : Nat) (a : Int) (b : Bool), k ≤ 4 ∧ i = .int .i64 (k : Int) ∧ at_ = .int .i64 a ∧ is_ = .bool b ∧ Part a2 k a b ∧ wr = W5) (fun _ _ i _ => 4 - (intOf i).toNat)
      case atStart => exact ⟨0, 0, false, by omega, rfl, rfl, rfl, Part.zero _, rfl⟩
      case round =>
        obtain ⟨j, a, b, hj, rfl, rfl, rfl, hp, rfl⟩ := hrel
        have HP := Lib.hid hp
        clear hp
        by_cases hlt : j < 4
        · have hc := HC.out j hlt
          obtain ⟨Z, hZ⟩ : ∃ Z, md j = Z := ⟨_, rfl⟩
          rw [hZ] at hc
          have HZ := Lib.hid hZ
          have HL := Lib.hid hlt
          have hjb : (j : Int) < 4 := by omega
          have hji : (0 : Int) ≤ j := by omega
          have hk1 : IntKind.i64.wrap ((j : Int) + 1) = (j : Int) + 1 := IntWalk.i64_in _ (by omega)
          clear hZ hlt hj
          by_cases hh : Z = a2
          · have tb := beq_of_eq hh
            have HH := Lib.hid hh
            clear hh
            go_wp2
            go_roundw
            case rel => exact ⟨j + 1, j, true, HL.out, by go_num, rfl, rfl, Part.next_yes (HZ.out.trans HH.out), trivial⟩
            case measure => have := HL.out; simp [intOf]; omega
          · have tb := beq_of_ne hh
            have HH : Hid (Z ≠ a2) := hh
            clear hh
            go_wp2
            go_roundw
            case rel => exact ⟨j + 1, a, b, HL.out, by go_num, rfl, rfl, HP.out.next_no (by rw [HZ.out]; exact HH.out), trivial⟩
            case measure => have := HL.out; simp [intOf]; omega
        · obtain rfl : j = 4 := by omega
          clear hj hlt
          go_wp2_with fail
          refine (named_any a2 _ HTAB.out).mono ?_
          rintro e w6 ⟨a', b', hp', rfl, rfl⟩
          obtain ⟨rfl, rfl⟩ := Part.same HP.out hp'
          clear hp' HP
          go_wp2_with (first
            | (go_at_call 10; refine (name_any _ _ HTAB.out).mono ?_; rintro e w' ⟨rfl, rfl⟩; rw [mdV_out HOUT.out])
            | (go_at_call 11; refine (right_no a0 _ HOUT.out).mono ?_; rintro e w' ⟨rfl, rfl⟩)
            | (go_at_call 12; refine (runs_no a0 _ HOUT1.out).mono ?_; rintro e w' ⟨rfl, rfl⟩)
            | (go_at_call 4; refine (awake_any _).mono ?_; rintro e w7 ⟨rfl, hbel⟩; have HBL := Lib.hid (HB5.out.trans (hbel.mono HB5.out.size)); clear hbel))
          go_ret
          exact ⟨rfl, HBL.out⟩
    · by_cases hpos : 3 < a0
      · have HOUT : Hid (a0 < 0 ∨ 3 < a0) := .inr hpos
        have HOUT1 : Hid (a0 < 1 ∨ 3 < a0) := .inr hpos
        have t0 : decide (0 ≤ a0) = true := decide_eq_true (by omega)
        have t1 : decide (1 ≤ a0) = true := decide_eq_true (by omega)
        have t2 : decide (a0 ≤ 3) = false := decide_eq_false (by omega)
        clear hneg hpos
        go_wp2_with fail
        go_loopw [15, 16, 70] (fun at_ is_ i wr => ∃ (k : Nat) (a : Int) (b : Bool), k ≤ 4 ∧ i = .int .i64 (k : Int) ∧ at_ = .int .i64 a ∧ is_ = .bool b ∧ Part a2 k a b ∧ wr = W5) (fun _ _ i _ => 4 - (intOf i).toNat)
        case atStart => exact ⟨0, 0, false, by omega, rfl, rfl, rfl, Part.zero _, rfl⟩
        case round =>
          obtain ⟨j, a, b, hj, rfl, rfl, rfl, hp, rfl⟩ := hrel
          have HP := Lib.hid hp
          clear hp
          by_cases hlt : j < 4
          · have hc := HC.out j hlt
            obtain ⟨Z, hZ⟩ : ∃ Z, md j = Z := ⟨_, rfl⟩
            rw [hZ] at hc
            have HZ := Lib.hid hZ
            have HL := Lib.hid hlt
            have hjb : (j : Int) < 4 := by omega
            have hji : (0 : Int) ≤ j := by omega
            have hk1 : IntKind.i64.wrap ((j : Int) + 1) = (j : Int) + 1 := IntWalk.i64_in _ (by omega)
            clear hZ hlt hj
            by_cases hh : Z = a2
            · have tb := beq_of_eq hh
              have HH := Lib.hid hh
              clear hh
              go_wp2
              go_roundw
              case rel => exact ⟨j + 1, j, true, HL.out, by go_num, rfl, rfl, Part.next_yes (HZ.out.trans HH.out), trivial⟩
              case measure => have := HL.out; simp [intOf]; omega
            · have tb := beq_of_ne hh
              have HH : Hid (Z ≠ a2) := hh
              clear hh
              go_wp2
              go_roundw
              case rel => exact ⟨j + 1, a, b, HL.out, by go_num, rfl, rfl, HP.out.next_no (by rw [HZ.out]; exact HH.out), trivial⟩
              case measure => have := HL.out; simp [intOf]; omega
          · obtain rfl : j = 4 := by omega
            clear hj hlt
            go_wp2_with fail
            refine (named_any a2 _ HTAB.out).mono ?_
            rintro e w6 ⟨a', b', hp', rfl, rfl⟩
            obtain ⟨rfl, rfl⟩ := Part.same HP.out hp'
            clear hp' HP
            go_wp2_with (first
              | (go_at_call 10; refine (name_any _ _ HTAB.out).mono ?_; rintro e w' ⟨rfl, rfl⟩; rw [mdV_out HOUT.out])
              | (go_at_call 11; refine (right_no a0 _ HOUT.out).mono ?_; rintro e w' ⟨rfl, rfl⟩)
              | (go_at_call 12; refine (runs_no a0 _ HOUT1.out).mono ?_; rintro e w' ⟨rfl, rfl⟩)
              | (go_at_call 4; refine (awake_any _).mono ?_; rintro e w7 ⟨rfl, hbel⟩; have HBL := Lib.hid (HB5.out.trans (hbel.mono HB5.out.size)); clear hbel))
            go_ret
            exact ⟨rfl, HBL.out⟩
      · obtain ⟨k, rfl⟩ : ∃ k : Nat, a0 = k := ⟨a0.toNat, by omega⟩
        have hk4 : k < 4 := by omega
        have hck := HC.out k hk4
        have hse := md_some hk4
        have hmv := mdV_in hk4
        obtain ⟨Y, hY⟩ : ∃ Y, md k = Y := ⟨_, rfl⟩
        rw [hY] at hck hse hmv
        have HMV := Lib.hid hmv
        have hse2 : (!Y.toList.isEmpty) = true := by rw [hse]; rfl
        have HR0 : Hid (0 ≤ (k : Int)) := by show _ ≤ _; omega
        have HR3 : Hid ((k : Int) ≤ 3) := by show _ ≤ _; omega
        have t0 : decide ((0 : Int) ≤ (k : Int)) = true := decide_eq_true (by omega)
        have t2 : decide ((k : Int) ≤ 3) = true := decide_eq_true (by omega)
        have hk0 : (0 : Int) ≤ k := by omega
        have hk3 : (k : Int) < 4 := by omega
        clear hneg hpos hY hmv
        by_cases hz : k = 0
        · have HZR : Hid ((k : Int) < 1 ∨ 3 < (k : Int)) := .inl (by omega)
          have t1 : decide ((1 : Int) ≤ (k : Int)) = false := decide_eq_false (by omega)
          have t1n : decide (1 ≤ k) = false := decide_eq_false (by omega)
          clear hz hk4
          go_wp2_with fail
          go_loopw [15, 16, 70] (fun at_ is_ i wr => ∃ (k : Nat) (a : Int) (b : Bool), k ≤ 4 ∧ i = .int .i64 (k : Int) ∧ at_ = .int .i64 a ∧ is_ = .bool b ∧ Part a2 k a b ∧ wr = W5) (fun _ _ i _ => 4 - (intOf i).toNat)
          case atStart => exact ⟨0, 0, false, by omega, rfl, rfl, rfl, Part.zero _, rfl⟩
          case round =>
            obtain ⟨j, a, b, hj, rfl, rfl, rfl, hp, rfl⟩ := hrel
            have HP := Lib.hid hp
            clear hp
            by_cases hlt : j < 4
            · have hc := HC.out j hlt
              obtain ⟨Z, hZ⟩ : ∃ Z, md j = Z := ⟨_, rfl⟩
              rw [hZ] at hc
              have HZ := Lib.hid hZ
              have HL := Lib.hid hlt
              have hjb : (j : Int) < 4 := by omega
              have hji : (0 : Int) ≤ j := by omega
              have hk1 : IntKind.i64.wrap ((j : Int) + 1) = (j : Int) + 1 := IntWalk.i64_in _ (by omega)
              clear hZ hlt hj
              by_cases hh : Z = a2
              · have tb := beq_of_eq hh
                have HH := Lib.hid hh
                clear hh
                go_wp2
                go_roundw
                case rel => exact ⟨j + 1, j, true, HL.out, by go_num, rfl, rfl, Part.next_yes (HZ.out.trans HH.out), trivial⟩
                case measure => have := HL.out; simp [intOf]; omega
              · have tb := beq_of_ne hh
                have HH : Hid (Z ≠ a2) := hh
                clear hh
                go_wp2
                go_roundw
                case rel => exact ⟨j + 1, a, b, HL.out, by go_num, rfl, rfl, HP.out.next_no (by rw [HZ.out]; exact HH.out), trivial⟩
                case measure => have := HL.out; simp [intOf]; omega
            · obtain rfl : j = 4 := by omega
              clear hj hlt
              go_wp2_with fail
              refine (named_any a2 _ HTAB.out).mono ?_
              rintro e w6 ⟨a', b', hp', rfl, rfl⟩
              obtain ⟨rfl, rfl⟩ := Part.same HP.out hp'
              clear hp' HP
              go_wp2_with (first
                | (go_at_call 10; refine (name_any _ _ HTAB.out).mono ?_; rintro e w' ⟨rfl, rfl⟩; rw [HMV.out])
                | (go_at_call 11; refine (right_yes k _ HR0.out HR3.out).mono ?_; rintro e w' ⟨rfl, rfl⟩)
                | (go_at_call 12; refine (runs_no k _ HZR.out).mono ?_; rintro e w' ⟨rfl, rfl⟩)
                | (go_at_call 4; refine (awake_any _).mono ?_; rintro e w7 ⟨rfl, hbel⟩; have HBL := Lib.hid (HB5.out.trans (hbel.mono HB5.out.size)); clear hbel))
              go_ret
              exact ⟨rfl, HBL.out⟩
        · have HZR : Hid (1 ≤ (k : Int)) := by show _ ≤ _; omega
          have t1 : decide ((1 : Int) ≤ (k : Int)) = true := decide_eq_true (by omega)
          have t1n : decide (1 ≤ k) = true := decide_eq_true (by omega)
          clear hz hk4
          go_wp2_with fail
          go_loopw [15, 16, 70] (fun at_ is_ i wr => ∃ (k : Nat) (a : Int) (b : Bool), k ≤ 4 ∧ i = .int .i64 (k : Int) ∧ at_ = .int .i64 a ∧ is_ = .bool b ∧ Part a2 k a b ∧ wr = W5) (fun _ _ i _ => 4 - (intOf i).toNat)
          case atStart => exact ⟨0, 0, false, by omega, rfl, rfl, rfl, Part.zero _, rfl⟩
          case round =>
            obtain ⟨j, a, b, hj, rfl, rfl, rfl, hp, rfl⟩ := hrel
            have HP := Lib.hid hp
            clear hp
            by_cases hlt : j < 4
            · have hc := HC.out j hlt
              obtain ⟨Z, hZ⟩ : ∃ Z, md j = Z := ⟨_, rfl⟩
              rw [hZ] at hc
              have HZ := Lib.hid hZ
              have HL := Lib.hid hlt
              have hjb : (j : Int) < 4 := by omega
              have hji : (0 : Int) ≤ j := by omega
              have hk1 : IntKind.i64.wrap ((j : Int) + 1) = (j : Int) + 1 := IntWalk.i64_in _ (by omega)
              clear hZ hlt hj
              by_cases hh : Z = a2
              · have tb := beq_of_eq hh
                have HH := Lib.hid hh
                clear hh
                go_wp2
                go_roundw
                case rel => exact ⟨j + 1, j, true, HL.out, by go_num, rfl, rfl, Part.next_yes (HZ.out.trans HH.out), trivial⟩
                case measure => have := HL.out; simp [intOf]; omega
              · have tb := beq_of_ne hh
                have HH : Hid (Z ≠ a2) := hh
                clear hh
                go_wp2
                go_roundw
                case rel => exact ⟨j + 1, a, b, HL.out, by go_num, rfl, rfl, HP.out.next_no (by rw [HZ.out]; exact HH.out), trivial⟩
                case measure => have := HL.out; simp [intOf]; omega
            · obtain rfl : j = 4 := by omega
              clear hj hlt
              go_wp2_with fail
              refine (named_any a2 _ HTAB.out).mono ?_
              rintro e w6 ⟨a', b', hp', rfl, rfl⟩
              obtain ⟨rfl, rfl⟩ := Part.same HP.out hp'
              clear hp' HP
              go_wp2_with (first
                | (go_at_call 10; refine (name_any _ _ HTAB.out).mono ?_; rintro e w' ⟨rfl, rfl⟩; rw [HMV.out])
                | (go_at_call 11; refine (right_yes k _ HR0.out HR3.out).mono ?_; rintro e w' ⟨rfl, rfl⟩)
                | (go_at_call 12; refine (runs_yes k _ HZR.out HR3.out).mono ?_; rintro e w' ⟨rfl, rfl⟩)
                | (go_at_call 4; refine (awake_any _).mono ?_; rintro e w7 ⟨rfl, hbel⟩; have HBL := Lib.hid (HB5.out.trans (hbel.mono HB5.out.size)); clear hbel))
              go_ret
              exact ⟨rfl, HBL.out⟩

end Go.Proofs.YtnmcmeifbnpdaaaDoor.modeSets
