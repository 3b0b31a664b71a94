
/- The function StripBytes returns true for every two slices of numbers. Condition: the package-level variables hold what the program lays in them (the card ties that). This text: the walk through the Go text; the row is in the text without the W at its name's end. -/

import Derived.Test.YtilkicbokfgjlaaDoorArgs

import Derived.Test.YtilkicbokfgjlaaDoorStpS

import Derived.Test.YtilkicbokfgjlaaDoorStpV

import Derived.Test.YtilkicbokfgjlaaDoorStpL

import Derived.Test.YtilkicbokfgjlaaDoorFltL

import Derived.Deep.RegionHeld3

namespace Go.Proofs.YtilkicbokfgjlaaDoor.stripBytes

open Go.RowKit Go.PlainAid Go.Proofs.YtilkicbokfgjlaaDoor.Args

set_option linter.unusedVariables false

open Go.Proofs.YtilkicbokfgjlaaDoor.Stp Go.Proofs.YtilkicbokfgjlaaDoor.Cel Go.Proofs.YtilkicbokfgjlaaDoor.Flt Go.Proofs.YtilkicbokfgjlaaDoor.Oct

set_option linter.unusedSimpArgs false

theorem ints_of {w : World} {a : Option Addr} {len cap : Nat} {zs : List Int} (h : IsRow .i64 w a len cap zs) : ∃ l : List Int, l.length = len ∧ NAt w a l ∧ (∀ x ∈ l, -9223372036854775808 ≤ x ∧ x ≤ 9223372036854775807) := by
  rcases h with ⟨rfl, rfl, rfl, rfl⟩ | ⟨x, rfl, h1, h2, h3, h4, h5⟩
  · exact ⟨[], rfl, fun i x hx => by simp at hx, by simp⟩
  · refine ⟨zs.take len, by rw [List.length_take]; omega, fun i v hv => ⟨x, rfl, ?_⟩, fun v hv => bounds_i64 (h5 v (List.mem_of_mem_take hv))⟩
    have hil := (List.getElem?_eq_some_iff.1 hv).1
    rw [List.length_take] at hil
    rw [h4 i (by omega)]
    rw [List.getElem?_take, if_pos (by omega)] at hv
    simp [hv]
theorem of_ids (l : List Int) : ∀ x ∈ ofX l, x.i ∈ l := by
  refine snoc_ind (P := fun l => ∀ x ∈ ofX l, x.i ∈ l) (by intro x hx; simp [ofX] at hx) ?_ l
  intro l i ih x hx
  rw [of_snoc] at hx
  unfold addX at hx
  split at hx
  · rcases snoc_cases (ofX l) with e | ⟨Y, y, e⟩
    · rw [e, join_nil _ _ (by omega)] at hx
      simp at hx; subst hx; simp
    · rw [e, join_snoc _ _ _ _ (by omega)] at hx
      have hy : y.i ∈ l := ih y (by rw [e]; simp)
      split at hx
      · simp at hx
        rcases hx with hx | rfl
        · exact List.mem_append_left _ (ih x (by rw [e]; simp [hx]))
        · exact List.mem_append_left _ hy
      · simp at hx
        rcases hx with hx | rfl | rfl
        · exact List.mem_append_left _ (ih x (by rw [e]; simp [hx]))
        · exact List.mem_append_left _ hy
        · simp
  · exact List.mem_append_left _ (ih x hx)
def XlRel (l : List Int) (w : World) (i x : Value) (wr : World) : Prop :=
  ∃ (k n : Nat) (A : Option Addr) (c : Nat), k ≤ l.length ∧ i = .int .i64 (k : Int) ∧ x = .slice A n c ∧ (ofX (l.take k)).length = n ∧ RX wr A (ofX (l.take k)) ∧ (A = none → c = 0) ∧ Below w.heap.size w wr
theorem of_inj {l m : List Int} (hl : l.length ≤ 300) (hm : m.length ≤ 300) : decide (ofX l = ofX m) = decide (l = m) := by
  rw [Bool.eq_iff_iff]
  simp only [decide_eq_true_eq]
  exact ⟨fun e => by rw [← of_word l (by omega), ← of_word m (by omega), e], fun e => by rw [e]⟩
set_option maxRecDepth 8000 in
set_option maxHeartbeats 6400000 in
theorem walk (a0 : Option Addr) (len0 cap0 : Nat) (z0 : List Int) (a1 : Option Addr) (len1 cap1 : Nat) (z1 : List Int) (w : World) (w0 : IsRow .i64 w a0 len0 cap0 z0) (w1 : IsRow .i64 w a1 len1 cap1 z1) (hn : Go.Proofs.YtilkicbokfgjlaaDoor.Flt.Names w) :
    Calls Tryd.prog 3 #[.slice a0 len0 cap0, .slice a1 len1 cap1] w fun e w' => e = .returned (.bool true) ∧ Below w.heap.size w w' := by
  obtain ⟨l, hll, hna, hwl⟩ := ints_of w0
  obtain ⟨m, hml, hma, hwm⟩ := ints_of w1
  clear w0 w1
  by_cases hb0 : 300 < len0
  · have t1 : decide ((300 : Int) < (len0 : Int)) = true := decide_eq_true (by omega)
    clear hn hb0 hna hwl hma hwm hll hml
    go_enter Tryd.func3, Tryd.ntmps3
    go_wp2_with (go_at_call 5; refine (awake27 _).mono ?_; rintro e w9 ⟨rfl, hb9⟩)
    go_ret
    exact ⟨rfl, hb9⟩
  have t1 : decide ((300 : Int) < (len0 : Int)) = false := decide_eq_false (by omega)
  by_cases hb1 : 300 < len1
  · have t2 : decide ((300 : Int) < (len1 : Int)) = true := decide_eq_true (by omega)
    clear hn hb0 hb1 hna hwl hma hwm hll hml
    go_enter Tryd.func3, Tryd.ntmps3
    go_wp2_with (go_at_call 5; refine (awake27 _).mono ?_; rintro e w9 ⟨rfl, hb9⟩)
    go_ret
    exact ⟨rfl, hb9⟩
  have t2 : decide ((300 : Int) < (len1 : Int)) = false := decide_eq_false (by omega)
  have HOF := Lib.hid (of_any a0 cap0 len0 l w hna hll (by omega))
  have HOM := Lib.hid (fun (W : World) (b : Below w.heap.size w W) => of_any a1 cap1 len1 m W (hma.kept b) hml (by omega))
  have HNM := Lib.hid hn
  have HLL := Lib.hid hll
  have HML := Lib.hid hml
  have HNA := Lib.hid hna
  have HMA := Lib.hid hma
  have HWL := Lib.hid hwl
  have HL0 : Hid (len0 ≤ 300) := by show _ ≤ _; omega
  have HL1 : Hid (len1 ≤ 300) := by show _ ≤ _; omega
  clear hn hb0 hb1 hna hwl hma hwm hll hml
  go_enter Tryd.func3, Tryd.ntmps3
  go_wp2_with fail
  refine HOF.out.mono ?_
  rintro e w1 ⟨rfl, hs1, hz1, hb1⟩
  have HS1 := Lib.hid hs1
  have HB1 := Lib.hid hb1
  have HM1 := Lib.hid (HOM.out _ hb1)
  clear hs1 hz1 hb1 HOF HOM
  go_wp2_with fail
  refine HM1.out.mono ?_
  rintro e w2 ⟨rfl, hs2, hz2, hb2⟩
  have HS2 := Lib.hid hs2
  have HSK := Lib.hid (HS1.out.keep hb2)
  have HB2 := Lib.hid (HB1.out.trans (hb2.mono HB1.out.size))
  clear hs2 hz2 hb2 HM1 HS1
  go_wp2_with fail
  go_loopw [37, 7] (fun i x wr => XlRel l w2 i x wr) (fun i _ _ => len0 - (intOf i).toNat)
  case atStart => exact ⟨0, 0, none, 0, Nat.zero_le _, rfl, rfl, rfl, RX.nil _, fun _ => rfl, Below.refl _ _⟩
  case round =>
    obtain ⟨k, n, A, c, hk, rfl, rfl, hn, hrx, hnc, hb⟩ := hrel
    rw [HLL.out] at hk
    have HRX := Lib.hid hrx
    have HBR := Lib.hid hb
    have HNN := Lib.hid hn
    have HNC : Hid (A = none → c = 0) := hnc
    clear hn hrx hnc hb
    by_cases hlt : k < len0
    · obtain ⟨x, hx⟩ : ∃ x, l[k]? = some x := ⟨_, List.getElem?_eq_getElem (by rw [HLL.out]; exact hlt)⟩
      obtain ⟨ax, rfl, c1⟩ := (HNA.out.kept (HB2.out.trans (HBR.out.mono HB2.out.size))) k x hx
      have HTK : Hid (ofX (l.take (k + 1)) = addX (ofX (l.take k)) x 1) := by show _ = _; rw [List.take_add_one, hx]; exact of_snoc _ _
      have HRA := Lib.hid (radd_any HRX.out (of_ok _) HNC.out x 1 n HNN.out)
      obtain ⟨XX, hXX⟩ : ∃ X, ofX (l.take k) = X := ⟨_, rfl⟩
      rw [hXX] at HTK HRA
      have h0 : (0 : Int) ≤ k := by omega
      have h1 : (k : Int) < len0 := by omega
      have hk1 : IntKind.i64.wrap ((k : Int) + 1) = (k : Int) + 1 := IntWalk.i64_in _ (by have := HL0.out; omega)
      have HKL : Hid (k < len0) := hlt
      clear hx hXX hk hlt
      go_wp2_with (go_at_call 7; refine HRA.out.mono ?_; rintro e W2 ⟨A5, n5, c5, rfl, hn5, hx5, hb5, hnc5⟩; have HN5 := Lib.hid hn5; have HX5 := Lib.hid hx5; have HB5 := Lib.hid (HBR.out.trans (hb5.mono HBR.out.size)); have HC5 : Hid (A5 = none → c5 = 0) := hnc5; clear hn5 hx5 hb5 hnc5)
      go_roundw
      case rel => exact ⟨k + 1, n5, A5, c5, by rw [HLL.out]; exact HKL.out, by go_num, rfl, by rw [HTK.out]; exact HN5.out, by rw [HTK.out]; exact HX5.out, HC5.out, HB5.out⟩
      case measure => have := HKL.out; simp [intOf]; omega
    · obtain rfl : k = len0 := by omega
      have hf : l.take k = l := List.take_of_length_le (by rw [HLL.out]; exact Nat.le_refl _)
      rw [hf] at HRX HNN
      have HOX := Lib.hid (of_ok l)
      have hlen : n ≤ 300 := by
        have h1 := sum_ge_len (of_ok l).pos
        rw [of_sum l (by rw [HLL.out]; have := HL0.out; omega), HNN.out, HLL.out] at h1
        have := HL0.out
        omega
      have HNL : Hid (n ≤ 300) := hlen
      have HIX : Hid (∀ x ∈ ofX l, -9223372036854775808 ≤ x.i ∧ x.i ≤ 9223372036854775807) := fun x hx => HWL.out _ (of_ids l x hx)
      have hinj := of_inj (l := l) (m := m) (by rw [HLL.out]; exact HL0.out) (by rw [HML.out]; exact HL1.out)
      have HOY := Lib.hid (of_ok m)
      obtain ⟨X, hX⟩ : ∃ X, ofX l = X := ⟨_, rfl⟩
      rw [hX] at HRX HNN HOX HSK HIX hinj
      obtain ⟨Y, hY⟩ : ∃ Y, ofX m = Y := ⟨_, rfl⟩
      rw [hY] at HS2 HOY hinj
      have HINJ := Lib.hid hinj
      have HSX := Lib.hid (HSK.out.keep HBR.out)
      have HSY := Lib.hid (HS2.out.keep HBR.out)
      have HBX := Lib.hid (HB2.out.trans (HBR.out.mono HB2.out.size))
      have HBY := Lib.hid (sbytes_any (HNM.out.kept HBX.out) HSX.out HOX.out HIX.out (by rw [HNN.out]; omega))
      obtain ⟨W1, rfl⟩ : ∃ W1, W1 = wr := ⟨_, rfl⟩
      have HRB := Lib.hid (fun (W : World) (b : Below W1.heap.size W1 W) => rbytes_any (c := c) (HRX.out.keep b) HOX.out n HNN.out (by omega))
      clear hf hX hY hk hlt hlen hinj HSK HS2
      go_wp2_with fail
      refine HBY.out.mono ?_
      rintro e w4 (⟨hall, rfl, hb4⟩ | ⟨kb, y, hbad, rfl, hf4, hb4⟩)
      · have HALL := Lib.hid hall
        have hends := back_ends X hall HOX.out
        rw [HNN.out] at hends
        have hsz : (strOfNums (bytesX X)).size = 5 * n := by rw [strOfNums_size, bytes_len, HNN.out]
        have HB4 := Lib.hid hb4
        have HS4 := Lib.hid (HSX.out.keep hb4)
        have HT4 := Lib.hid (HSY.out.keep hb4)
        have HBX4 := Lib.hid (HBX.out.trans (hb4.mono HBX.out.size))
        obtain ⟨T, hT⟩ : ∃ T, strOfNums (bytesX X) = T := ⟨_, rfl⟩
        rw [hT] at hends hsz
        have HEN := Lib.hid hends
        have HSZ := Lib.hid hsz
        have HRB4 := Lib.hid (HRB.out _ hb4)
        have HTT := Lib.hid hT
        rw [hT]
        clear hall hends hsz hb4 hT HSX HSY
        go_wp2_with fail
        refine HRB4.out.mono ?_
        rintro e w5 (⟨_, rfl, hb5⟩ | ⟨kb, hbad, _⟩)
        rotate_left
        · obtain ⟨_, x, hx, hf⟩ := hbad
          rw [HALL.out x (List.mem_of_getElem? hx)] at hf
          cases hf
        rw [HTT.out]
        have HB5 := Lib.hid (HBX4.out.trans (hb5.mono HBX4.out.size))
        have HS5 := Lib.hid (HS4.out.keep hb5)
        have HT5 := Lib.hid (HT4.out.keep hb5)
        have hgt := sget_any (w := w5) (HNM.out.kept HB5.out) HEN.out.1 (by have := HSZ.out; have := HNL.out; omega)
        unfold GetPost at hgt
        rw [HEN.out.2] at hgt
        have HGT := Lib.hid hgt
        clear hb5 hgt
        go_wp2_with fail
        refine HGT.out.mono ?_
        rintro e w6 (⟨_, rfl, hs6, hz6, hb6⟩ | ⟨hlt6, _⟩)
        rotate_left
        · exact absurd hlt6 (by have := HSZ.out; omega)
        have HB6 := Lib.hid (HB5.out.trans (hb6.mono HB5.out.size))
        have HS6 := Lib.hid (HS5.out.keep hb6)
        have HT6 := Lib.hid (HT5.out.keep hb6)
        have hsame1 := same_any hs6 HS6.out HOX.out HOX.out
        rw [decide_eq_true (show X = X from rfl)] at hsame1
        have HM1 := Lib.hid hsame1
        have HM2 := Lib.hid (fun (q : Nat) => same_any (HS6.out.keep (below_n w6 q)) (HT6.out.keep (below_n w6 q)) HOX.out HOY.out)
        rw [HINJ.out] at HM2
        have HM3 := Lib.hid (fun (W : World) (b : Below w.heap.size w W) => same10_any a0 a1 cap0 cap1 k len1 l m W (HNA.out.kept b) (HMA.out.kept b) HLL.out HML.out (by have := HL0.out; omega) (by have := HL1.out; omega))
        obtain ⟨bb, hbb⟩ : ∃ b, decide (l = m) = b := ⟨_, rfl⟩
        rw [hbb] at HM2 HM3
        have tb : (bb == bb) = true := by simp
        clear hs6 hz6 hb6 hsame1 hbb
        go_wp2_with (first
          | (go_at_call 12; refine HM1.out.mono ?_; rintro e w7 ⟨rfl, q, rfl⟩; have HM2q := Lib.hid (HM2.out q); have HB7 := Lib.hid (HB6.out.trans ((below_n w6 q).mono HB6.out.size)); obtain ⟨W7, hW7⟩ : ∃ W, w6.drewN q = W := ⟨_, rfl⟩; rw [hW7] at HM2q HB7; rw [hW7]; clear hW7 HM1 HM2)
          | (go_at_call 12; refine HM2q.out.mono ?_; rintro e w8 ⟨rfl, q2, rfl⟩; have HB8 := Lib.hid (HB7.out.trans ((below_n W7 q2).mono HB7.out.size)); obtain ⟨W8, hW8⟩ : ∃ W, W7.drewN q2 = W := ⟨_, rfl⟩; rw [hW8] at HB8; rw [hW8]; clear hW8; have HM3q := Lib.hid (HM3.out _ HB8.out))
          | (go_at_call 13; refine HM3q.out.mono ?_; rintro e w9 ⟨rfl, hb9⟩; have HB9 := Lib.hid (HB8.out.trans (hb9.mono HB8.out.size)); clear hb9)
          | (go_at_call 5; refine (awake27 _).mono ?_; rintro e w10 ⟨rfl, hb10⟩; have HBZ := Lib.hid (HB9.out.trans (hb10.mono HB9.out.size)); clear hb10))
        go_ret
        exact ⟨rfl, HBZ.out⟩
      · have HBAD := Lib.hid hbad
        have HF4 := Lib.hid hf4
        have HBX4 := Lib.hid (HBX.out.trans (hb4.mono HBX.out.size))
        have HRB4 := Lib.hid (HRB.out _ hb4)
        clear hbad hf4 hb4 HSX HSY
        go_wp2_with fail
        refine HRB4.out.mono ?_
        rintro e w5 (⟨hall, _⟩ | ⟨kb2, hbad2, rfl, hb5⟩)
        · obtain ⟨_, x, hx, hf⟩ := HBAD.out
          rw [hall x (List.mem_of_getElem? hx)] at hf
          cases hf
        obtain rfl := bad_uniq HBAD.out hbad2
        have HB5 := Lib.hid (HBX4.out.trans (hb5.mono HBX4.out.size))
        have HOFF : Hid (Calls Tryd.prog 10 #[y] w5 fun e w' => e = .returned (.agg #[.int .i64 18, .int .i64 0, .int .i64 (kb : Int)]) ∧ Below w5.heap.size w5 w') := Go.Proofs.YtilkicbokfgjlaaDoor.Flt.of_any y [(false, (kb : Int))] 18 w5 (HF4.out.kept hb5) (by show 1 ≤ 1000000; omega)
        have heq : ∀ wx : World, (Op.equalIn 10000 37 (.agg #[.int .i64 18, .int .i64 0, .int .i64 (kb : Int)]) (.agg #[.int .i64 18, .int .i64 0, .int .i64 (kb : Int)])).run Tryd.prog wx = .ok true wx := fun wx => eq_flt 18 0 kb wx
        have tk : decide ((0 : Int) ≤ (kb : Int)) = true := decide_eq_true (by omega)
        clear hb5 hbad2
        go_wp2_with (first
          | (go_at_call 10; refine HOFF.out.mono ?_; rintro e w6 ⟨rfl, hb6⟩; have HB6 := Lib.hid (HB5.out.trans (hb6.mono HB5.out.size)); clear hb6)
          | (go_at_call 5; refine (awake27 _).mono ?_; rintro e w10 ⟨rfl, hb10⟩; have HBZ := Lib.hid (HB6.out.trans (hb10.mono HB6.out.size)); clear hb10))
        go_ret
        exact ⟨rfl, HBZ.out⟩

end Go.Proofs.YtilkicbokfgjlaaDoor.stripBytes
