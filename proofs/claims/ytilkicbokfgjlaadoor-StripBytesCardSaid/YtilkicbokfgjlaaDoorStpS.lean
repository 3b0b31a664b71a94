
/- A strip out of bytes: the document's Get. Condition: at most 1,099,511,627,776 bytes. -/

import Derived.Test.YtilkicbokfgjlaaDoorStpR

namespace Go.Proofs.YtilkicbokfgjlaaDoor.Stp

open Go.RowKit Go.PlainAid Go.Proofs.YtilkicbokfgjlaaDoor.Cel Go.Proofs.YtilkicbokfgjlaaDoor.Oct Go.Proofs.YtilkicbokfgjlaaDoor.Flt

set_option linter.unusedVariables false

set_option linter.unusedSimpArgs false

def RGetPost (s : ByteArray) (j : Nat) (w : World) (e : Ending) (w' : World) : Prop :=
  (s.size ≤ 5 * j ∧ ∃ A N c, e = .returned (.tuple #[.slice A N c, .int .i64 0, .int .i64 0]) ∧ (gS s j).length = N ∧ RX w' A (gS s j) ∧ Below w.heap.size w w') ∨
  (5 * j < s.size ∧ e = .returned (.tuple #[.slice none 0 0, .int .i64 ((5 * j : Nat) : Int), .int .i64 (gK s (5 * j) (gS s j))]) ∧ Below w.heap.size w w')
def RGeRel (s : ByteArray) (j : Nat) (w : World) (v i : Value) (wr : World) : Prop :=
  ∃ (k n : Nat) (A : Option Addr) (c : Nat), k ≤ j ∧ i = .int .i64 ((5 * k : Nat) : Int) ∧ v = .slice A n c ∧ (gS s k).length = n ∧ RX wr A (gS s k) ∧ (A = none → c = 0) ∧ Below w.heap.size w wr
theorem gK_ways (s : ByteArray) (p : Nat) (X : List RW) (hp : p + 5 ≤ s.size) :
    (gN s p = 0 ∧ gK s p X = 6) ∨ (gN s p ≠ 0 ∧ lastI X = some (gI s p) ∧ gK s p X = 6) ∨ (gN s p ≠ 0 ∧ lastI X ≠ some (gI s p) ∧ okX X (gN s p : Int) = true ∧ gK s p X = 0) ∨ (gN s p ≠ 0 ∧ lastI X ≠ some (gI s p) ∧ okX X (gN s p : Int) = false ∧ gK s p X = 8) := by
  unfold gK
  rw [if_neg (by omega)]
  by_cases h0 : gN s p = 0
  · exact .inl ⟨h0, if_pos (.inl h0)⟩
  · by_cases h1 : lastI X = some (gI s p)
    · exact .inr (.inl ⟨h0, h1, if_pos (.inr h1)⟩)
    · rw [if_neg (by rintro (e | e); exact h0 e; exact h1 e)]
      cases h2 : okX X (gN s p : Int) with
      | true => exact .inr (.inr (.inl ⟨h0, h1, rfl, if_pos rfl⟩))
      | false => exact .inr (.inr (.inr ⟨h0, h1, rfl, if_neg (by simp)⟩))
section

variable {w : World} {s : ByteArray} {j : Nat}

set_option maxRecDepth 4000 in
set_option maxHeartbeats 6400000 in
theorem rsget_any (he : Ends s j) (hs : s.size ≤ 1099511627776) : Calls Tryd.prog 14 #[.string s] w (RGetPost s j w) := by
  have HE := Lib.hid he
  have HS : Hid (s.size ≤ 1099511627776) := hs
  have HX0 : Hid (RX (w.alloc (.cells #[] 54)) (some ⟨w.heap.size, 0, none⟩) []) := ⟨fun i x h => by simp at h, fun a ha => by obtain rfl := Option.some.inj ha; exact ⟨_, _, heap_alloc_new w _⟩⟩
  have HB0 := Lib.hid (below_al w (.cells #[] 54))
  have HGB := Lib.hid (get_bt s)
  clear he hs
  go_enter Tryd.func14, Tryd.ntmps14
  go_wp2_with fail
  go_loopw [5, 6] (fun v i wr => RGeRel s j w v i wr) (fun _ i _ => s.size + 5 - (intOf i).toNat)
  case atStart => exact ⟨0, 0, _, 0, Nat.zero_le _, rfl, rfl, rfl, HX0.out, fun e => (by cases e), HB0.out⟩
  case round =>
    obtain ⟨k, n, A, c, hk, rfl, rfl, hn, hrx, hnc, hb⟩ := hrel
    have HRX := Lib.hid hrx
    have HBR := Lib.hid hb
    have HNN := Lib.hid hn
    have HNC : Hid (A = none → c = 0) := hnc
    clear hrx hb hn hnc HX0 HB0
    have hss := HS.out
    by_cases hlt : 5 * k < s.size
    rotate_left
    · have hkj : k = j := by
        rcases Nat.lt_or_ge k j with h | h
        · exact absurd (HE.out.1 k h).1 hlt
        · omega
      subst hkj
      have tl : decide (((5 * k : Nat) : Int) < (s.size : Int)) = false := decide_eq_false (by omega)
      have HLE : Hid (s.size ≤ 5 * k) := by show _ ≤ _; omega
      obtain ⟨pp, hpp⟩ : ∃ p, 5 * k = p := ⟨_, rfl⟩
      rw [hpp] at tl ⊢
      have tn : decide (pp < s.size) = false := decide_eq_false (by omega)
      clear hlt hk hpp hss
      go_wp2
      go_ret3
      exact .inl ⟨HLE.out, A, n, c, rfl, HNN.out, HRX.out, HBR.out⟩
    have HLT : Hid (5 * k < s.size) := hlt
    have hw5 : IntKind.i64.wrap (((5 * k : Nat) : Int) + 5) = ((5 * (k + 1) : Nat) : Int) := by rw [show ((5 * k : Nat) : Int) + 5 = ((5 * (k + 1) : Nat) : Int) by omega]; exact IntWalk.i64_in _ (by omega)
    have hw1 : IntKind.i64.wrap (((5 * k : Nat) : Int) + 1) = ((5 * k : Nat) : Int) + 1 := IntWalk.i64_in _ (by omega)
    have hne : gK s (5 * k) (gS s k) ≠ 0 → k = j := fun hz => by
      rcases Nat.lt_or_ge k j with h | h
      · exact absurd (HE.out.1 k h).2 hz
      · omega
    have HNE := Lib.hid hne
    have hbI := gI_le s (5 * k)
    have hnI := gN_le s (5 * k)
    have hbt : bt s (5 * k) = gI s (5 * k) + 1 := by
      have h1 := bt_nonneg s (5 * k)
      unfold gI
      show _ = ((256 * 0 + (bt s (5 * k + 0)).toNat : Nat) : Int) - 1 + 1
      rw [Nat.add_zero]
      omega
    have hg4 := fun wx => rget_any s (((5 * k : Nat) : Int) + 1) 4 (by omega) (by unfold maxLen; omega) wx
    by_cases h5 : s.size < 5 * k + 5
    · have hk2 : gK s (5 * k) (gS s k) = 2 := by unfold gK; rw [if_pos h5]
      obtain rfl := hne (by omega)
      have HK2 := Lib.hid hk2
      obtain ⟨pp, hpp⟩ : ∃ p, 5 * k = p := ⟨_, rfl⟩
      have HPP := Lib.hid hpp
      have hw6 : IntKind.i64.wrap ((pp : Int) + 5) = (pp : Int) + 5 := IntWalk.i64_in _ (by omega)
      rw [hpp]
      have tn : decide (pp < s.size) = true := decide_eq_true (by omega)
      have tl : decide ((pp : Int) < (s.size : Int)) = true := decide_eq_true (by omega)
      have t5 : decide ((s.size : Int) < (pp : Int) + 5) = true := decide_eq_true (by omega)
      clear hw5 hw1 hne hbI hnI hbt hg4 h5 hk2 hk hlt hpp hss
      go_wp2
      go_ret3
      exact .inr ⟨HLT.out, by (rw [HK2.out, HPP.out]; try rfl), HBR.out⟩
    rw [getB4, decide_eq_true (show 5 * k + 5 ≤ s.size by omega), getV4 s _ (by omega)] at hg4
    have hways := gK_ways s (5 * k) (gS s k) (by omega)
    have HAD := Lib.hid (radd_any (c := c) HRX.out (gS_ok s k) HNC.out (gI s (5 * k)) (gN s (5 * k) : Int) n HNN.out)
    have hsx : gS s (k + 1) = addX (gS s k) (gI s (5 * k)) (gN s (5 * k) : Int) := rfl
    have HSX := Lib.hid hsx
    obtain ⟨X, hX⟩ : ∃ X, gS s k = X := ⟨_, rfl⟩
    have HX := Lib.hid hX
    have HOX := Lib.hid (gS_ok s k)
    rw [hX] at hways HAD HSX HRX HNN HNE HOX
    obtain ⟨m, hm⟩ : ∃ m, gN s (5 * k) = m := ⟨_, rfl⟩
    rw [hm] at hways HAD HSX hg4 hnI
    obtain ⟨i, hi⟩ : ∃ i, gI s (5 * k) = i := ⟨_, rfl⟩
    rw [hi] at hways HAD HSX hbI hbt
    obtain ⟨pp, hpp⟩ : ∃ p, 5 * k = p := ⟨_, rfl⟩
    have HPP := Lib.hid hpp
    rw [hpp] at hways hg4 hbt hw5 hw1 HNE ⊢
    have hw6 : IntKind.i64.wrap ((pp : Int) + 5) = (pp : Int) + 5 := IntWalk.i64_in _ (by omega)
    have hw7 : (pp : Int) + 5 = ((5 * (k + 1) : Nat) : Int) := by omega
    have HW7 := Lib.hid hw7
    have tn : decide (pp < s.size) = true := decide_eq_true (by omega)
    have tl : decide ((pp : Int) < (s.size : Int)) = true := decide_eq_true (by omega)
    have t5 : decide ((s.size : Int) < (pp : Int) + 5) = false := decide_eq_false (by omega)
    have hpn : pp < s.size := by omega
    have hwz : IntKind.i64.wrap (i + 1) = i + 1 := IntWalk.i64_in _ (by omega)
    have hwi : IntKind.i64.wrap (i + 1 - 1) = i := by rw [show i + 1 - 1 = i by omega]; exact IntWalk.i64_in _ (by omega)
    have hwi2 : IntKind.i64.wrap i = i := IntWalk.i64_in _ (by omega)
    have hwm : IntKind.i64.wrap (m : Int) = (m : Int) := IntWalk.i64_in _ (by omega)
    have hgb := HGB.out
    have HKJ0 : Hid (k ≤ j) := hk
    have HG4 := Lib.hid hg4
    have hN1 : n ≤ 1073741824 := by rw [← HNN.out]; exact HOX.out.len
    clear hne hsx hX hm hi hpp hg4 hlt hk hss h5 hw5 hw7
    rcases hways with ⟨h0, hkv⟩ | ⟨h0, hl, hkv⟩ | ⟨h0, hl, hok, hkv⟩ | ⟨h0, hl, hok, hkv⟩
    · have tm : ((m : Int) == 0) = true := by simp [h0]
      obtain rfl := HNE.out (by rw [hkv]; decide)
      have HK := Lib.hid hkv
      clear hkv h0 hbI hnI hN1 HAD
      go_wp2_with (go_at_call 29; refine (HG4.out _).mono ?_; rintro e w1 ⟨rfl, hww⟩; have hwv := hww; clear hww; subst hwv; clear HG4)
      go_ret3
      exact .inr ⟨HLT.out, by (rw [HX.out, HPP.out, HK.out]; try rfl), HBR.out⟩
    · have tm : ((m : Int) == 0) = false := by simp; omega
      rcases snoc_cases X with hXY | ⟨Y, y, hXY⟩
      · rw [hXY, last_nil] at hl; cases hl
      · rw [hXY, last_snoc] at hl
        have hyi : y.i = i := Option.some.inj hl
        obtain ⟨mm, hmm⟩ : ∃ q, Y.length = q := ⟨_, rfl⟩
        have hnm : n = mm + 1 := by rw [← HNN.out, hXY, List.length_append, hmm]; rfl
        have hkk : X[mm]? = some y := by rw [hXY, ← hmm, List.getElem?_append_right (Nat.le_refl _)]; simp
        obtain ⟨ax, rfl, c1, -⟩ := HRX.out.rat mm y hkk
        rw [hyi] at c1
        have ty : (i == i) = true := by simp
        
        have t0 : decide ((0 : Int) < (n : Int)) = true := decide_eq_true (by omega)
        have t0n : decide (0 < n) = true := decide_eq_true (by omega)
        have hwn : IntKind.i64.wrap ((n : Int) - 1) = (mm : Int) := by rw [show (n : Int) - 1 = (mm : Int) by omega]; exact IntWalk.i64_in _ (by omega)
        have g0 : (0 : Int) ≤ mm := by omega
        have g1 : (mm : Int) < n := by omega
        obtain rfl := HNE.out (by rw [hkv]; decide)
        have HK := Lib.hid hkv
        clear hkv h0 hbI hnI hN1 HAD hl hXY hyi hmm hkk hnm
        go_wp2_with (go_at_call 29; refine (HG4.out _).mono ?_; rintro e w1 ⟨rfl, hww⟩; have hwv := hww; clear hww; subst hwv; clear HG4)
        go_ret3
        exact .inr ⟨HLT.out, by (rw [HX.out, HPP.out, HK.out]; try rfl), HBR.out⟩
    · have tm : ((m : Int) == 0) = false := by simp; omega
      have hkj : k < j := by
        rcases Nat.lt_or_ge k j with h | h
        · exact h
        · exfalso
          have e : k = j := by have := HKJ0.out; omega
          subst e
          rcases HE.out.2 with h2 | h2
          · have := HLT.out; omega
          · rw [HX.out, HPP.out] at h2; exact h2 hkv
      have HKJ : Hid (k < j) := hkj
      clear hkj
      rcases snoc_cases X with hXY | ⟨Y, y, hXY⟩
      · have hn0 : n = 0 := by rw [← HNN.out, hXY]; rfl
        have t0 : decide ((0 : Int) < (n : Int)) = false := decide_eq_false (by omega)
        have t0n : decide (0 < n) = false := decide_eq_false (by omega)
        have hA2 := HAD.out
        unfold RAddPost at hA2
        rw [hok] at hA2
        have HA2 := Lib.hid hA2
        clear hA2 hkv h0 hbI hnI hN1 hok hl HAD hXY hn0
        go_wp2_with (first | (go_at_call 29; refine (HG4.out _).mono ?_; rintro e w1 ⟨rfl, hww⟩; have hwv := hww; clear hww; subst hwv; clear HG4) | (go_at_call 7; refine HA2.out.mono ?_; rintro e w2 ⟨A5, n5, c5, rfl, hn5, hx5, hb5, hnc5⟩; have HN5 := Lib.hid hn5; have HX5 := Lib.hid hx5; have HB5 := Lib.hid (HBR.out.trans (hb5.mono HBR.out.size)); have HC5 : Hid (A5 = none → c5 = 0) := hnc5; clear hn5 hx5 hb5 hnc5))
        go_roundw
        case rel => exact ⟨k + 1, n5, A5, c5, HKJ.out, by first | rfl | (rw [HW7.out]) | (rw [hw6, HW7.out]), rfl, by rw [HSX.out]; exact HN5.out, by rw [HSX.out]; exact HX5.out, HC5.out, HB5.out⟩
        case measure => have := HLT.out; have := HPP.out; simp [intOf]; omega
      · rw [hXY, last_snoc] at hl
        have hyi : ¬ y.i = i := fun e => hl (by rw [e])
        obtain ⟨mm, hmm⟩ : ∃ q, Y.length = q := ⟨_, rfl⟩
        have hnm : n = mm + 1 := by rw [← HNN.out, hXY, List.length_append, hmm]; rfl
        have hkk : X[mm]? = some y := by rw [hXY, ← hmm, List.getElem?_append_right (Nat.le_refl _)]; simp
        obtain ⟨ax, rfl, c1, -⟩ := HRX.out.rat mm y hkk
        obtain ⟨yi, hyie⟩ : ∃ v, y.i = v := ⟨_, rfl⟩
        rw [hyie] at c1 hyi
        have ty : (yi == i) = false := by simp [hyi]
        have t0 : decide ((0 : Int) < (n : Int)) = true := decide_eq_true (by omega)
        have t0n : decide (0 < n) = true := decide_eq_true (by omega)
        have hwn : IntKind.i64.wrap ((n : Int) - 1) = (mm : Int) := by rw [show (n : Int) - 1 = (mm : Int) by omega]; exact IntWalk.i64_in _ (by omega)
        have g0 : (0 : Int) ≤ mm := by omega
        have g1 : (mm : Int) < n := by omega
        have hA2 := HAD.out
        unfold RAddPost at hA2
        rw [hok] at hA2
        have HA2 := Lib.hid hA2
        clear hA2 hkv h0 hbI hnI hN1 hok hl HAD hXY hyi hmm hkk hnm hyie
        go_wp2_with (first | (go_at_call 29; refine (HG4.out _).mono ?_; rintro e w1 ⟨rfl, hww⟩; have hwv := hww; clear hww; subst hwv; clear HG4) | (go_at_call 7; refine HA2.out.mono ?_; rintro e w2 ⟨A5, n5, c5, rfl, hn5, hx5, hb5, hnc5⟩; have HN5 := Lib.hid hn5; have HX5 := Lib.hid hx5; have HB5 := Lib.hid (HBR.out.trans (hb5.mono HBR.out.size)); have HC5 : Hid (A5 = none → c5 = 0) := hnc5; clear hn5 hx5 hb5 hnc5))
        go_roundw
        case rel => exact ⟨k + 1, n5, A5, c5, HKJ.out, by first | rfl | (rw [HW7.out]) | (rw [hw6, HW7.out]), rfl, by rw [HSX.out]; exact HN5.out, by rw [HSX.out]; exact HX5.out, HC5.out, HB5.out⟩
        case measure => have := HLT.out; have := HPP.out; simp [intOf]; omega
    · have tm : ((m : Int) == 0) = false := by simp; omega
      rcases snoc_cases X with hXY | ⟨Y, y, hXY⟩
      · have hn0 : n = 0 := by rw [← HNN.out, hXY]; rfl
        have t0 : decide ((0 : Int) < (n : Int)) = false := decide_eq_false (by omega)
        have t0n : decide (0 < n) = false := decide_eq_false (by omega)
        have hA2 := HAD.out
        unfold RAddPost at hA2
        rw [hok] at hA2
        have HA2 := Lib.hid hA2
        obtain rfl := HNE.out (by rw [hkv]; decide)
        have HK := Lib.hid hkv
        clear hA2 hkv h0 hbI hnI hN1 hok hl HAD hXY hn0
        go_wp2_with (first | (go_at_call 29; refine (HG4.out _).mono ?_; rintro e w1 ⟨rfl, hww⟩; have hwv := hww; clear hww; subst hwv; clear HG4) | (go_at_call 7; refine HA2.out.mono ?_; rintro e w2 ⟨A5, n5, c5, rfl, hn5, hx5, hb5, hnc5⟩; have HN5 := Lib.hid hn5; have HX5 := Lib.hid hx5; have HB5 := Lib.hid (HBR.out.trans (hb5.mono HBR.out.size)); have HC5 : Hid (A5 = none → c5 = 0) := hnc5; clear hn5 hx5 hb5 hnc5))
        go_ret3
        exact .inr ⟨HLT.out, by (rw [HX.out, HPP.out, HK.out]; try rfl), HB5.out⟩
      · rw [hXY, last_snoc] at hl
        have hyi : ¬ y.i = i := fun e => hl (by rw [e])
        obtain ⟨mm, hmm⟩ : ∃ q, Y.length = q := ⟨_, rfl⟩
        have hnm : n = mm + 1 := by rw [← HNN.out, hXY, List.length_append, hmm]; rfl
        have hkk : X[mm]? = some y := by rw [hXY, ← hmm, List.getElem?_append_right (Nat.le_refl _)]; simp
        obtain ⟨ax, rfl, c1, -⟩ := HRX.out.rat mm y hkk
        obtain ⟨yi, hyie⟩ : ∃ v, y.i = v := ⟨_, rfl⟩
        rw [hyie] at c1 hyi
        have ty : (yi == i) = false := by simp [hyi]
        have t0 : decide ((0 : Int) < (n : Int)) = true := decide_eq_true (by omega)
        have t0n : decide (0 < n) = true := decide_eq_true (by omega)
        have hwn : IntKind.i64.wrap ((n : Int) - 1) = (mm : Int) := by rw [show (n : Int) - 1 = (mm : Int) by omega]; exact IntWalk.i64_in _ (by omega)
        have g0 : (0 : Int) ≤ mm := by omega
        have g1 : (mm : Int) < n := by omega
        have hA2 := HAD.out
        unfold RAddPost at hA2
        rw [hok] at hA2
        have HA2 := Lib.hid hA2
        obtain rfl := HNE.out (by rw [hkv]; decide)
        have HK := Lib.hid hkv
        clear hA2 hkv h0 hbI hnI hN1 hok hl HAD hXY hyi hmm hkk hnm hyie
        go_wp2_with (first | (go_at_call 29; refine (HG4.out _).mono ?_; rintro e w1 ⟨rfl, hww⟩; have hwv := hww; clear hww; subst hwv; clear HG4) | (go_at_call 7; refine HA2.out.mono ?_; rintro e w2 ⟨A5, n5, c5, rfl, hn5, hx5, hb5, hnc5⟩; have HN5 := Lib.hid hn5; have HX5 := Lib.hid hx5; have HB5 := Lib.hid (HBR.out.trans (hb5.mono HBR.out.size)); have HC5 : Hid (A5 = none → c5 = 0) := hnc5; clear hn5 hx5 hb5 hnc5))
        go_ret3
        exact .inr ⟨HLT.out, by (rw [HX.out, HPP.out, HK.out]; try rfl), HB5.out⟩
end

end Go.Proofs.YtilkicbokfgjlaaDoor.Stp
