
/- A strip as bytes: package strip's Bytes. Condition: at most 268,435,455 rows; the names lie where the program lays them. -/

import Derived.Test.YtilkicbokfgjlaaDoorStpT

namespace Go.Proofs.YtilkicbokfgjlaaDoor.Stp

open Go.RowKit Go.PlainAid Go.Proofs.YtilkicbokfgjlaaDoor.Cel Go.Proofs.YtilkicbokfgjlaaDoor.Oct Go.Proofs.YtilkicbokfgjlaaDoor.Flt Go.Proofs.YtilkicbokfgjlaaDoor.Bld

set_option linter.unusedVariables false

set_option linter.unusedSimpArgs false

def l8 (xs : List Int) : List UInt8 := xs.map fun v => UInt8.ofNat v.toNat
theorem l8_str (xs : List Int) : (⟨(l8 xs).toArray⟩ : ByteArray) = strOfNums xs := rfl
theorem l8_cells (xs : List Int) (h : ∀ x ∈ xs, 0 ≤ x ∧ x ≤ 255) : xs.map (Value.int .u8) = Lib.byteCells (l8 xs) := by
  unfold Lib.byteCells l8
  rw [List.map_map]
  apply List.map_congr_left
  intro x hx
  have := h x hx
  simp
  omega
theorem l8_ne {xs : List Int} (h : xs ≠ []) : l8 xs ≠ [] := by
  unfold l8
  simpa using h
def u8v (xs : List Int) : List Value := xs.map (.int .u8)
theorem u8v_app (a b : List Int) : u8v (a ++ b) = u8v a ++ u8v b := by simp [u8v]
theorem u8v_len (a : List Int) : (u8v a).length = a.length := by simp [u8v]
theorem u8v_one (a : List Int) : ∀ v ∈ u8v a, v.oneCell' = true := by
  intro v hv
  obtain ⟨x, _, rfl⟩ := List.mem_map.1 hv
  rfl
/-- The first row that can't be written. -/
def BadAt (X : List RW) (k : Nat) : Prop := (∀ (i : Nat) (x : RW), i < k → X[i]? = some x → idB x = true) ∧ ∃ x, X[k]? = some x ∧ idB x = false
theorem bad_ways (X : List RW) : (∀ x ∈ X, idB x = true) ∨ ∃ k, BadAt X k := by
  have h : ∀ n, (∃ k, BadAt X k) ∨ ∀ (i : Nat) (x : RW), i < n → X[i]? = some x → idB x = true := by
    intro n
    induction n with
    | zero => exact .inr fun i x hi => by omega
    | succ n ih =>
      rcases ih with h | h
      · exact .inl h
      · cases hx : X[n]? with
        | none =>
          refine .inr fun i x hi hxx => ?_
          rcases (show i < n ∨ i = n by omega) with e | rfl
          · exact h i x e hxx
          · rw [hx] at hxx; cases hxx
        | some x =>
          cases hb : idB x with
          | false => exact .inl ⟨n, h, x, hx, hb⟩
          | true =>
            refine .inr fun i y hi hxx => ?_
            rcases (show i < n ∨ i = n by omega) with e | rfl
            · exact h i y e hxx
            · rw [hx] at hxx; obtain rfl := Option.some.inj hxx; exact hb
  rcases h X.length with h | h
  · exact .inr h
  · refine .inl fun x hx => ?_
    obtain ⟨i, hi, rfl⟩ := List.mem_iff_getElem.1 hx
    exact h i _ hi (List.getElem?_eq_getElem hi)
def BytPost (X : List RW) (w : World) (e : Ending) (w' : World) : Prop :=
  ((∀ x ∈ X, idB x = true) ∧ e = .returned (.tuple #[.string (strOfNums (bytesX X)), .nilIface]) ∧ Below w.heap.size w w') ∨
  (∃ k y, BadAt X k ∧ e = .returned (.tuple #[.string ⟨#[]⟩, y]) ∧ IsFault w' y [(false, (k : Int))] 18 ∧ Below w.heap.size w w')
def ByRel (X : List RW) (w : World) (B0 : Nat) (V : Value) (i : Value) (wr : World) : Prop :=
  ∃ k : Nat, k ≤ X.length ∧ i = .int .i64 (k : Int) ∧ (∀ (j : Nat) (x : RW), j < k → X[j]? = some x → idB x = true) ∧ IsB w.heap.size w.heap.size (u8v (bytesX (X.take k))) wr ∧ (k = 0 → wr.heap[w.heap.size]? = some (.cells #[.pointer none, .slice none 0 0] 58 (0, 0))) ∧ Below w.heap.size w wr ∧ wr.ownsRow B0 50 2 V X.length (flatR X)
section

variable {w : World} {B g : Nat} {X : List RW}

theorem row_in {w : World} {B n c : Nat} {A : Option Addr} {xs : List Int} (h : w.ownsRow B 5 1 (.slice A n c) n (u8v xs)) : IsBytes w A n xs := by
  have hl : xs.length = n * 1 := by rw [← u8v_len]; exact h.1
  refine ⟨by omega, fun h0 => ?_⟩
  rcases h.2 with ⟨h1, h2⟩ | ⟨g, cap, cur, h1, _⟩
  · omega
  · injection h1 with h2 h3 h4
    subst h2
    refine ⟨_, rfl, fun j v hj => ?_⟩
    have e : (Addr.mk g 0 none).add j = ⟨g, j, none⟩ := by cases j <;> simp [Addr.add]
    rw [e, h.cellAt j (by have := (List.getElem?_eq_some_iff.1 hj).1; simp at this; omega)]
    exact hj
theorem put2_any (cn : Nat) (hc : cn ≤ 1073741824) (v n1 cap1 B : Nat) (w2 : World) (how : w2.ownsRow B 5 1 (.slice (some ⟨B, 0, none⟩) n1 cap1) n1 ((([] : List Int) ++ low v 1).map (Value.int .u8))) :
    Calls Tryd.prog 20 #[.slice (some ⟨B, 0, none⟩) n1 cap1, .int .u64 (cn : Int), .int .i64 4] w2 fun e w' => ∃ n2 cap2 : Nat, e = .returned (.tuple #[.slice (some ⟨w2.heap.size, 0, none⟩) n2 cap2, .bool true]) ∧ w'.ownsRow w2.heap.size 5 1 (.slice (some ⟨w2.heap.size, 0, none⟩) n2 cap2) n2 (u8v (low v 1 ++ low cn 4)) ∧ Below w2.heap.size w2 w' := by
  have hn : n1 = 1 := by
    have h := how.1
    simp [low_length] at h
    omega
  have hp := put_any (some ⟨B, 0, none⟩) n1 cap1 (low v 1) cn 4 w2 (row_in how) (by omega) (by omega)
  rw [fitB_4, decide_eq_true (show cn < 4294967296 by omega)] at hp
  exact hp
set_option maxRecDepth 8000 in
set_option maxHeartbeats 6400000 in
theorem sbytes_any (hn : Names w) (h : IsSt w B g X) (ho : OkX X) (hI : ∀ x ∈ X, -9223372036854775808 ≤ x.i ∧ x.i ≤ 9223372036854775807) (hl : X.length ≤ 268435455) :
    Calls Tryd.prog 8 #[.pointer (some ⟨g, 0, none⟩)] w (BytPost X w) := by
  have hb0 := below_al w (.cells #[.pointer none, .slice none 0 0] 58)
  have hfr := fresh_any w
  have hx0 := heap_alloc_new w (.cells #[.pointer none, .slice none 0 0] 58)
  have hro := rows_any (h.keep hb0) ho
  obtain ⟨W0, hW0⟩ : ∃ W, w.alloc (.cells #[.pointer none, .slice none 0 0] 58) = W := ⟨_, rfl⟩
  rw [hW0] at hb0 hfr hx0 hro
  unfold RowsPost at hro
  have HW0 := Lib.hid hW0
  have HB0 := Lib.hid hb0
  have HFR := Lib.hid hfr
  have HX0 := Lib.hid hx0
  have HNM := Lib.hid hn
  have HO := Lib.hid ho
  have HI := Lib.hid hI
  obtain ⟨N, hN⟩ : ∃ N, X.length = N := ⟨_, rfl⟩
  have HN := Lib.hid hN
  rw [hN] at hl hro
  have HRO := Lib.hid hro
  have HL : Hid (N ≤ 268435455) := hl
  clear hn h ho hI hl hb0 hfr hx0 hro hW0 hN
  go_enter Tryd.func8, Tryd.ntmps8
  go_wp2_with (go_at_call 16; rw [HW0.out]; refine HRO.out.mono ?_; rintro e w1 ⟨A, c, rfl, how, hb⟩; have HOW := Lib.hid how; have HB1 := Lib.hid (HB0.out.trans (hb.mono HB0.out.size)); have HF1 := Lib.hid (isb_keep HFR.out hb); have HX1 := Lib.hid ((hb.block _ (lt_of_block HX0.out)).trans HX0.out); clear how hb)
  have HS1 : Hid (w.heap.size ≤ w1.heap.size) := HB1.out.size
  go_loopw [12] (fun i wr => ByRel X w W0.heap.size (.slice A N c) i wr) (fun i _ => N - (intOf i).toNat)
  case atStart => exact ⟨0, Nat.zero_le _, rfl, fun j x hj => by omega, by rw [List.take_zero]; exact HF1.out, fun _ => HX1.out, HB1.out, by rw [HN.out]; exact HOW.out⟩
  case round =>
    obtain ⟨k, hk, rfl, hid, hib, hfr, hb, how⟩ := hrel
    rw [HN.out] at hk how
    have HIB := Lib.hid hib
    have HID := Lib.hid hid
    have HFR2 : Hid (k = 0 → wr.heap[w.heap.size]? = some (.cells #[.pointer none, .slice none 0 0] 58 (0, 0))) := hfr
    have HB := Lib.hid hb
    have HOWN := Lib.hid how
    clear hid hib hfr hb HF1 HX1 HB1 HOW
    by_cases hlt : k < N
    rotate_left
    · obtain rfl : k = N := by omega
      have hf : X.take k = X := List.take_of_length_le (by rw [HN.out]; exact Nat.le_refl _)
      rw [hf] at HIB
      have hall : ∀ x ∈ X, idB x = true := fun x hx => by
        obtain ⟨i, hi, rfl⟩ := List.mem_iff_getElem.1 hx
        exact HID.out i _ (by rw [← HN.out]; exact hi) (List.getElem?_eq_getElem hi)
      have HALL := Lib.hid hall
      by_cases h0 : k = 0
      · have hx0 : X = [] := List.eq_nil_of_length_eq_zero (by rw [HN.out]; exact h0)
        have HST := Lib.hid (string_nil _ _ (HFR2.out h0))
        have HE : Hid (strOfNums (bytesX X) = ⟨#[]⟩) := by show _ = _; rw [hx0]; rfl
        clear hf hall hx0 hk hlt h0 how
        go_wp2_with (go_at_call 24; refine HST.out.mono ?_; rintro e w5 ⟨rfl, hb5⟩; have HB5 := Lib.hid (HB.out.trans (hb5.mono HB.out.size)); clear hb5)
        go_ret2
        exact .inl ⟨HALL.out, by rw [HE.out]; rfl, HB5.out⟩
      · have hne : bytesX X ≠ [] := by
          intro e
          have h1 := bytes_len X
          rw [e, HN.out] at h1
          simp at h1
          omega
        have hst := string_any w.heap.size w.heap.size (l8 (bytesX X)) wr (by rw [← l8_cells _ (bytes_range X)]; exact HIB.out) (l8_ne hne)
        rw [l8_str] at hst
        have HST := Lib.hid hst
        clear hf hall hk hlt h0 hne hst how
        go_wp2_with (go_at_call 24; refine HST.out.mono ?_; rintro e w5 ⟨rfl, hb5⟩; have HB5 := Lib.hid (HB.out.trans hb5); clear hb5)
        go_ret2
        exact .inl ⟨HALL.out, rfl, HB5.out⟩
    obtain ⟨x, hx⟩ : ∃ x, X[k]? = some x := ⟨_, List.getElem?_eq_getElem (by rw [HN.out]; exact hlt)⟩
    obtain ⟨ax, rfl, c1, c2⟩ := (own_rat how) k x hx
    have hxm := List.mem_of_getElem? hx
    obtain ⟨v, hu, hv1, hv2, hv3⟩ := u64_id x.i (HI.out x hxm)
    obtain ⟨z, hz⟩ : ∃ z, IntKind.i64.wrap (x.i + 1) = z := ⟨_, rfl⟩
    rw [hz] at hu
    have HKX := Lib.hid hx
    have h0 : (0 : Int) ≤ k := by omega
    have h1 : (k : Int) < N := by omega
    have hk1 : IntKind.i64.wrap ((k : Int) + 1) = (k : Int) + 1 := IntWalk.i64_in _ (by have := HL.out; omega)
    have HKL : Hid (k < N) := hlt
    have hbx := below_al wr (.cells #[.int .i64 x.i, .int .i64 x.c] 50)
    have hxx := heap_alloc_new wr (.cells #[.int .i64 x.i, .int .i64 x.c] 50)
    obtain ⟨Wb, hWb⟩ : ∃ W, wr.alloc (.cells #[.int .i64 x.i, .int .i64 x.c] 50) = W := ⟨_, rfl⟩
    rw [hWb] at hbx hxx
    have HWB := Lib.hid hWb
    have HXX := Lib.hid hxx
    have HBB := Lib.hid (HB.out.trans (hbx.mono HB.out.size))
    have HIBB := Lib.hid (isb_keep HIB.out hbx)
    have HOWB := Lib.hid (own_keep HOWN.out hbx)
    have hp1 := put_any none 0 0 [] v 1 Wb ⟨rfl, fun h => by omega⟩ (by omega) hv1
    rw [fitB_1] at hp1
    cases hid : idB x with
    | false =>
      have hni : ¬ (-1 ≤ x.i ∧ x.i ≤ 254) := fun h => by rw [(idB_iff x).2 h] at hid; cases hid
      have hv4 := hv3 hni
      rw [decide_eq_false (show ¬ v < 256 by omega)] at hp1
      unfold PutPost at hp1
      have HP1 := Lib.hid hp1
      have HBAD : Hid (BadAt X k) := ⟨fun i y hi hy => HID.out i y hi hy, x, HKX.out, hid⟩
      have HNW := Lib.hid (fun (W : World) (b : Below w.heap.size w W) => new_yes 18 (by omega) (by omega) W (HNM.out.kept b))
      have HAT := Lib.hid (fun (W : World) => Go.Proofs.YtilkicbokfgjlaaDoor.Flt.at_any (k : Int) (.iface 88 (.int .i64 (18 : Nat))) [] ((18 : Nat) : Int) W rfl)
      clear hp1 hbx hxx hWb hx hxm hv1 hv2 hv3 hni hv4 hid hk hlt how HIB HIBB HOWN HOWB HFR2
      go_wp2_with (first
        | (go_at_call 20; rw [HWB.out]; refine HP1.out.mono ?_; rintro e w2 ⟨n1, cap1, rfl, how1, hb1⟩; have HB2 := Lib.hid (HBB.out.trans (hb1.mono HBB.out.size)); clear how1 hb1)
        | (go_at_call 22; refine (HNW.out _ HB2.out).mono ?_; rintro e w3 ⟨rfl, rfl⟩)
        | (go_at_call 21; refine (HAT.out _).mono ?_; rintro e w4 ⟨y, rfl, hf4, hb4⟩; have HF4 := Lib.hid hf4; have HB4 := Lib.hid (HB2.out.trans (hb4.mono HB2.out.size)); clear hf4 hb4))
      go_ret2
      exact .inr ⟨k, y, HBAD.out, rfl, HF4.out, HB4.out⟩
    | true =>
      obtain ⟨hv4, hv5⟩ := hv2 ((idB_iff x).1 hid)
      rw [decide_eq_true hv5] at hp1
      have hp1' : Calls Tryd.prog 20 #[.slice none 0 0, .int .u64 (v : Int), .int .i64 1] Wb (PutPost Wb [] true (low v 1)) := hp1
      unfold PutPost at hp1'
      have HP1 := Lib.hid hp1'
      have hc1 := HO.out.pos x hxm
      have hc2 : x.c ≤ 1073741824 := by
        have h1 := sum_take_succ hx
        have h2 := sum_take_le HO.out.pos (k + 1)
        have h3 := sum_take_mono HO.out.pos k
        have h4 := HO.out.sum
        omega
      have HIDN : Hid (∀ (j : Nat) (y : RW), j < k + 1 → X[j]? = some y → idB y = true) := fun j y hj hy => by
        rcases (show j < k ∨ j = k by omega) with h | rfl
        · exact HID.out j y h hy
        · rw [HKX.out] at hy; obtain rfl := Option.some.inj hy; exact hid
      have HBT : Hid (u8v (bytesX (X.take (k + 1))) = u8v (bytesX (X.take k)) ++ u8v (low v 1 ++ low x.c.toNat 4)) := by
        show _ = _
        rw [take_snoc hx, bytes_snoc, u8v_app, hv4]
        rfl
      have HLT : Hid (w.heap.size < wr.heap.size) := by
        rcases HIB.out with ⟨_, v0, h9, _⟩ | ⟨_, v0, h9, _⟩
        · exact lt_of_block h9
        · exact lt_of_block h9
      have HSB : Hid (wr.heap.size < Wb.heap.size) := lt_of_block hxx
      have hbl : (u8v (bytesX (X.take k))).length = 5 * k := by rw [u8v_len, bytes_len, List.length_take, Nat.min_eq_left (by rw [HN.out]; omega)]
      have HBL := Lib.hid hbl
      obtain ⟨xi, xcI⟩ := x
      dsimp only at hc1 hc2 HBT hu hz hxx HXX HWB c1 c2
      obtain ⟨cn, rfl⟩ : ∃ n : Nat, xcI = n := ⟨xcI.toNat, by omega⟩
      rw [Int.toNat_natCast] at HBT
      have hwc : IntKind.u64.wrap (cn : Int) = (cn : Int) := by rw [IntKind.wrap_u64]; omega
      have HCN : Hid (cn ≤ 1073741824) := by show _ ≤ _; omega
      have HP2 := Lib.hid (put2_any cn (by omega))
      clear hp1 hp1' hbx hWb hx hxm hv1 hv2 hv3 hv4 hv5 hid hk hlt how HIB HOWN HFR2 hc1 hc2 hbl hxx
      go_wp2_with (first
        | (go_at_call 20; rw [HWB.out]; refine HP1.out.mono ?_; rintro e w2 ⟨n1, cap1, rfl, how1, hb1⟩; clear HP1; have HB2 := Lib.hid (HBB.out.trans (hb1.mono HBB.out.size)); have HI2 := Lib.hid (isb_keep HIBB.out hb1); have HO2 := Lib.hid (own_keep HOWB.out hb1); have hbox := (hb1.block _ (lt_of_block HXX.out)).trans HXX.out; have e1 := cell_of_row _ _ 1 _ _ _ hbox; simp only [List.getElem?_toArray, List.getElem?_cons_zero, List.getElem?_cons_succ] at e1; have HPW := Lib.hid (HP2.out v n1 cap1 Wb.heap.size w2 how1); have HS2 : Hid (Wb.heap.size ≤ w2.heap.size) := hb1.size; clear how1 hb1 hbox)
        | (go_at_call 20; refine HPW.out.mono ?_; rintro e w3 ⟨n2, cap2, rfl, how2, hb2⟩; have HB3 := Lib.hid (HB2.out.trans (hb2.mono HB2.out.size)); have HI3 := Lib.hid (isb_keep HI2.out hb2); have HO3 := Lib.hid (own_keep HO2.out hb2); have hn2 : (u8v (low v 1 ++ low cn 4)).length = n2 := how2.1.trans (Nat.mul_one _); have h5 : n2 = 5 := (by rw [← hn2, u8v_len, List.length_append, low_length, low_length]); have HWR := Lib.hid (writeb_any w.heap.size w.heap.size (u8v (bytesX (X.take k))) ⟨w2.heap.size, 0, none⟩ n2 cap2 (u8v (low v 1 ++ low cn 4)) w3 HI3.out (how2.cells (g := w2.heap.size) rfl) (by have := HLT.out; have := HSB.out; have := HS2.out; show w2.heap.size ≠ w.heap.size; omega) hn2 (u8v_one _) (by rw [HBL.out, h5]; have := HKL.out; have := HL.out; omega) HB3.out.size); clear how2 hb2 hn2 h5)
        | (go_at_call 23; refine HWR.out.mono ?_; rintro e w4 ⟨rfl, hu4, hb4, hk4⟩; have HU4 := Lib.hid hu4; have HB4 := Lib.hid (HB3.out.trans hb4); have HO4 := Lib.hid (hk4.own HO3.out (by decide)); clear hu4 hb4 hk4))
      go_roundw
      case rel => exact ⟨k + 1, by rw [HN.out]; exact HKL.out, by go_num, HIDN.out, by rw [HBT.out]; exact .inr HU4.out, fun h => by omega, HB4.out, by rw [HN.out]; exact HO4.out⟩
      case measure => have := HKL.out; simp [intOf]; omega
end

end Go.Proofs.YtilkicbokfgjlaaDoor.Stp
