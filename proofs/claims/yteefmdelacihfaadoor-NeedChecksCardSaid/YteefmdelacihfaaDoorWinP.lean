
/- Windows: whose a tick is. Condition: at most 1,000 windows of plain numbers, a frame of 0 to 1,048,576. -/

import Derived.Test.YteefmdelacihfaaDoorWinG

import Derived.OwnWalk

namespace Go.Proofs.YteefmdelacihfaaDoor.Win

open Go.RowKit Go.PlainAid Go.Proofs.YteefmdelacihfaaDoor.Oct Go.Proofs.YteefmdelacihfaaDoor.Flt Go.Proofs.YteefmdelacihfaaDoor.Rdr Go.Proofs.YteefmdelacihfaaDoor.Args

open Go.Proofs.YteefmdelacihfaaDoor.Act (A3 actL flatA ActsAt I64 Wide row_beside row_base)

set_option linter.unusedVariables false

set_option linter.unusedSimpArgs false

def OnRel (xs : Array Value) (fr t r : Int) (l : List A3) (w : World) (i : Value) (wr : World) : Prop :=
  ∃ k : Nat, k ≤ l.length ∧ i = .int .i64 (k : Int) ∧ ownT fr (l.drop k) t = r ∧ wr.heap[w.heap.size]? = some (.cells xs 25 (0, 0)) ∧ Below w.heap.size w wr
set_option maxRecDepth 8000 in
set_option maxHeartbeats 3200000 in
theorem owner_any (id fr t : Int) (P : Option Addr) (pc : Nat) (l : List A3) (C : Option Addr) (nn cc : Nat) (w : World) (h1 : ActsAt w P l) (hnum : ∀ x ∈ l, Num x) (hf : 0 ≤ fr ∧ fr ≤ 1048576) (hl : l.length ≤ 1000) :
    Calls Tryd.prog 8 #[.agg #[.int .i64 id, .int .i64 fr, .slice P l.length pc, .slice C nn cc], .int .i64 t] w fun e w' => e = .returned (.int .i64 (ownT fr l t)) ∧ Below w.heap.size w w' := by
  obtain ⟨r, hr⟩ : ∃ r, ownT fr l t = r := ⟨_, rfl⟩
  have HR := Lib.hid hr
  rw [hr]
  obtain ⟨a, ha⟩ : ∃ a, l.length = a := ⟨_, rfl⟩
  have HA := Lib.hid ha
  rw [ha] at hl
  rw [ha]
  have H1 := Lib.hid h1
  have HNUM := Lib.hid hnum
  have HF := Lib.hid hf
  have HL : Hid (a ≤ 1000) := hl
  have hb0 : Below w.heap.size w (w.alloc (.cells #[.int .i64 id, .int .i64 fr, .slice P a pc, .slice C nn cc] 25)) := (Below.refl _ _).alloc (Nat.le_refl _) _
  have HB0 := Lib.hid hb0
  have HX0 := Lib.hid (heap_alloc_new w (.cells #[.int .i64 id, .int .i64 fr, .slice P a pc, .slice C nn cc] 25))
  clear hr ha h1 hnum hf hl hb0
  go_enter Tryd.func8, Tryd.ntmps8
  go_wp2
  go_loopw [12] (fun i wr => OnRel #[.int .i64 id, .int .i64 fr, .slice P a pc, .slice C nn cc] fr t r l w i wr) (fun i _ => a - (intOf i).toNat)
  case atStart => exact ⟨0, Nat.zero_le _, rfl, HR.out, HX0.out, HB0.out⟩
  case round =>
    obtain ⟨k, hk, rfl, hown, hbx, hb⟩ := hrel
    have HOWN := Lib.hid hown
    have HBX := Lib.hid hbx
    have HB := Lib.hid hb
    have hka : k ≤ a := by rw [← HA.out]; exact hk
    clear hk hown hbx hb HB0 HX0
    by_cases hlt : k < a
    · obtain ⟨x, hx⟩ : ∃ x, l[k]? = some x := ⟨_, List.getElem?_eq_getElem (by rw [HA.out]; exact hlt)⟩
      obtain ⟨ax, rfl, c1, c2, c3⟩ := (H1.out.kept HB.out) k x hx
      have HNX := Lib.hid (HNUM.out x (List.mem_of_getElem? hx))
      have hdr : l.drop k = x :: l.drop (k + 1) := by
        rw [List.drop_eq_getElem_cons (by rw [HA.out]; exact hlt)]
        congr 1
        rw [List.getElem?_eq_getElem (by rw [HA.out]; exact hlt)] at hx
        exact Option.some.inj hx
      have hst := HOWN.out
      rw [hdr, ownT] at hst
      have hb5 : Below wr.heap.size wr (wr.alloc (.cells (winC x) 50)) := (Below.refl _ _).alloc (Nat.le_refl _) _
      have HB5 := Lib.hid (HB.out.trans (hb5.mono HB.out.size))
      have HBX5 := Lib.hid ((hb5.block _ (lt_of_block HBX.out)).trans HBX.out)
      have HX5 := Lib.hid (heap_alloc_new wr (.cells (winC x) 50))
      have y1 := cell_of_row _ _ 1 _ _ _ HBX5.out
      simp only [List.getElem?_toArray, List.getElem?_cons_zero, List.getElem?_cons_succ] at y1
      have HPART := Lib.hid (fun w => part_any x fr HNX.out HF.out w)
      have hhas : hasB fr x t = (decide (fW fr x ≤ t) && decide (t < tW fr x)) := rfl
      obtain ⟨f1, hf1⟩ : ∃ v, fW fr x = v := ⟨_, rfl⟩
      obtain ⟨t1, ht1⟩ : ∃ v, tW fr x = v := ⟨_, rfl⟩
      rw [hf1, ht1] at HPART hhas
      obtain ⟨s1, p1, a1⟩ := x
      unfold winC at y1 HB5 HBX5 HPART HX5
      dsimp only at c1 c2 c3 y1 HB5 HBX5 HPART HX5 hst
      rw [hhas] at hst
      have HST := Lib.hid hst
      have hki : (0 : Int) ≤ k := by omega
      have hkb : (k : Int) < a := by omega
      have hal := HL.out
      clear hx hdr hst hhas hb5 hf1 ht1
      go_wp2_with fail
      refine (HPART.out _).mono ?_
      rintro e w6 ⟨rfl, hb6⟩
      have HB6 := Lib.hid (HB5.out.trans (hb6.mono HB5.out.size))
      have HBX6 := Lib.hid ((hb6.block _ (lt_of_block HBX5.out)).trans HBX5.out)
      have x0 := cell_of_row _ _ 0 _ _ _ ((hb6.block _ (lt_of_block HX5.out)).trans HX5.out)
      simp only [List.getElem?_toArray, List.getElem?_cons_zero, List.getElem?_cons_succ] at x0
      clear hb6 HBX5 HB5 HPART y1 c1 c2 c3 HBX HB HX5
      cases d1 : decide (f1 ≤ t) with
      | false =>
        have hst : ownT fr (l.drop (k + 1)) t = r := by have h := HST.out; rw [d1] at h; simpa using h
        have HST2 := Lib.hid hst
        clear hst HST
        go_wp2
        go_roundw
        case rel => exact ⟨k + 1, by rw [HA.out]; omega, by go_num, HST2.out, HBX6.out, HB6.out⟩
        case measure => simp [intOf]; omega
      | true =>
        cases d2 : decide (t < t1) with
        | false =>
          have hst : ownT fr (l.drop (k + 1)) t = r := by have h := HST.out; rw [d1, d2] at h; simpa using h
          have HST2 := Lib.hid hst
          clear hst HST
          go_wp2
          go_roundw
          case rel => exact ⟨k + 1, by rw [HA.out]; omega, by go_num, HST2.out, HBX6.out, HB6.out⟩
          case measure => simp [intOf]; omega
        | true =>
          have hst : s1 = r := by have h := HST.out; rw [d1, d2] at h; simpa using h
          subst hst
          go_wp2
          go_ret
          exact ⟨rfl, HB6.out⟩
    · obtain rfl : k = a := by omega
      have hrr : r = -1 := by
        have h := HOWN.out
        rw [List.drop_eq_nil_of_le (by rw [HA.out]; exact Nat.le_refl _)] at h
        rw [← h]; rfl
      subst hrr
      have HBF := Lib.hid HB.out
      clear HB
      go_wp2
      go_ret
      exact ⟨rfl, HBF.out⟩
end Go.Proofs.YteefmdelacihfaaDoor.Win
