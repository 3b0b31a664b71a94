
/- A strip out of bytes: package strip's read and Get, and the document's. Condition: at most 1,099,511,627,776 bytes; of what is wrong, that the names lie where the program lays them. -/

import Derived.Test.YtilkicbokfgjlaaDoorStpP

import Derived.Test.YtilkicbokfgjlaaDoorStpK

import Derived.Test.YtilkicbokfgjlaaDoorOctA

import Derived.Test.YtilkicbokfgjlaaDoorFltO

import Derived.Test.YtilkicbokfgjlaaDoorFltB

import Derived.Test.YtilkicbokfgjlaaDoorFltK

namespace Go.Proofs.YtilkicbokfgjlaaDoor.Stp

open Go.RowKit Go.PlainAid Go.Proofs.YtilkicbokfgjlaaDoor.Cel Go.Proofs.YtilkicbokfgjlaaDoor.Oct Go.Proofs.YtilkicbokfgjlaaDoor.Flt

set_option linter.unusedVariables false

set_option linter.unusedSimpArgs false

theorem at_last (X : List RW) (h : ∀ x ∈ X, 1 ≤ x.c) : atX X (sumR X - 1) = lastI X := by
  rcases snoc_cases X with rfl | ⟨Y, y, rfl⟩
  · rfl
  · have hy := h y (by simp)
    have hY : ∀ x ∈ Y, 1 ≤ x.c := fun x hx => h x (by simp [hx])
    have h0 := sum_nonneg hY
    rw [last_snoc, sumR_snoc]
    unfold atX
    rw [if_pos (by omega), own_drop (Y ++ [y]) Y.length _ h (by rw [List.take_left]; omega), List.take_left, List.drop_left, ownX, if_pos (by omega)]
theorem getB4 (s : ByteArray) (p : Nat) : getB s ((p : Int) + 1) 4 = decide (p + 5 ≤ s.size) := by
  unfold getB
  rw [Bool.eq_iff_iff]
  simp [sizeB]
  omega
theorem getB1 (s : ByteArray) (p : Nat) (h : p < s.size) : getB s (p : Int) 1 = true := by
  unfold getB
  simp [sizeB]
  omega
theorem getV4 (s : ByteArray) (p : Nat) (h : p + 5 ≤ s.size) : getV s ((p : Int) + 1) 4 = gN s p := by
  unfold getV gN
  rw [getB4, decide_eq_true h, if_pos rfl, show ((p : Int) + 1).toNat = p + 1 by omega]
  rfl
theorem getV1 (s : ByteArray) (p : Nat) (h : p < s.size) : (getV s (p : Int) 1 : Int) = gI s p + 1 := by
  unfold getV gI
  rw [getB1 s p h, if_pos rfl, Int.toNat_natCast]
  show (getN s p 1 : Int) = _
  omega
theorem gN_le (s : ByteArray) (p : Nat) : gN s p ≤ 4294967295 := by
  have := getN_lt s (p + 1) 4
  have h4 : (256 : Nat) ^ 4 = 4294967296 := (by decide)
  unfold gN
  omega
theorem gI_le (s : ByteArray) (p : Nat) : -1 ≤ gI s p ∧ gI s p ≤ 254 := by
  have := getN_lt s p 1
  unfold gI
  omega
def ReadPost (s : ByteArray) (p : Nat) (w : World) (B g : Nat) (X : List RW) (e : Ending) (w' : World) : Prop := e = .returned (.int .i64 (gK s p X)) ∧ (gK s p X = 0 → IsSt w' B g (gX s p X)) ∧ Chg B w w'
section

variable {w : World} {B g : Nat} {X : List RW} {s : ByteArray} {p : Nat}

set_option maxRecDepth 4000 in
set_option maxHeartbeats 1600000 in
theorem read_any (h : IsSt w B g X) (ho : OkX X) (hp : p < s.size) (hs : s.size ≤ 1099511627776) :
    Calls Tryd.prog 27 #[.pointer (some ⟨g, 0, none⟩), .string s, .int .i64 (p : Int)] w (ReadPost s p w B g X) := by
  have hw1 : IntKind.i64.wrap ((p : Int) + 1) = (p : Int) + 1 := IntWalk.i64_in _ (by omega)
  have hg4 := fun wx => get_any s ((p : Int) + 1) 4 (by omega) (by unfold maxLen; omega) wx
  rw [getB4] at hg4
  by_cases h5 : p + 5 ≤ s.size
  rotate_left
  · rw [decide_eq_false h5] at hg4
    have hk : gK s p X = 2 := by unfold gK; rw [if_pos (by omega)]
    unfold ReadPost
    rw [hk]
    obtain ⟨v, hv⟩ : ∃ v, (getV s ((p : Int) + 1) 4 : Int) = v := ⟨_, rfl⟩
    rw [hv] at hg4
    have HG := Lib.hid hg4
    clear hg4 hv h ho hk h5 hp hs
    go_enter Tryd.func27, Tryd.ntmps27
    go_wp2_with (go_at_call 37; refine (HG.out _).mono ?_; rintro e w1 ⟨rfl, rfl⟩)
    go_ret
    exact ⟨rfl, fun e => (by cases e), Chg.refl _ _⟩
  rw [decide_eq_true h5, getV4 s p h5] at hg4
  have hg1 := fun wx => get_any s (p : Int) 1 (by omega) (by unfold maxLen; omega) wx
  rw [getB1 s p hp, getV1 s p hp] at hg1
  have hn1 := gN_le s p
  have hi1 := gI_le s p
  have hat := at_last X ho.pos
  have s0 := ho.sum0
  have s1 := ho.sum
  have hkk : gK s p X = if gN s p = 0 ∨ lastI X = some (gI s p) then 6 else if okX X (gN s p : Int) then 0 else 8 := by
    unfold gK; rw [if_neg (by omega)]
  have HL := Lib.hid (fun (W : World) (b : Below w.heap.size w W) => (fun (hh : IsSt W B g X) => (by
    obtain ⟨A, c, h2⟩ := hh
    exact len_any W B g A c X h2 ho : Calls Tryd.prog 30 #[.pointer (some ⟨g, 0, none⟩)] W fun e w' => e = .returned (.int .i64 (sumR X)) ∧ ∃ n, w' = W.drewN n)) (h.keep b))
  have HA := Lib.hid (fun (W : World) (b : Below w.heap.size w W) => at_any (h.keep b) ho (sumR X - 1))
  have HAD := Lib.hid (fun (W : World) (b : Below w.heap.size w W) => add_any (h.keep b) ho (gI s p) (gN s p : Int) (by omega))
  rw [hat] at HA
  have hwl : IntKind.i64.wrap (sumR X - 1) = sumR X - 1 := IntWalk.i64_in _ (by omega)
  have hxx : gX s p X = addX X (gI s p) (gN s p : Int) := rfl
  unfold ReadPost
  rw [hxx, hkk]
  obtain ⟨sv, hsv⟩ : ∃ v, sumR X = v := ⟨_, rfl⟩
  rw [hsv] at HL HA hwl
  obtain ⟨n, hn⟩ : ∃ n, gN s p = n := ⟨_, rfl⟩
  rw [hn] at hg4 hn1 HAD ⊢
  obtain ⟨i, hi⟩ : ∃ i, gI s p = i := ⟨_, rfl⟩
  rw [hi] at hg1 hi1 HAD ⊢
  have hwc : IntKind.i64.wrap (i + 1) = i + 1 := IntWalk.i64_in _ (by omega)
  have hwi : IntKind.i64.wrap (i + 1 - 1) = i := by rw [show i + 1 - 1 = i by omega]; exact IntWalk.i64_in _ (by omega)
  have hwn : IntKind.i64.wrap (n : Int) = (n : Int) := IntWalk.i64_in _ (by omega)
  obtain ⟨z, hz⟩ : ∃ z, i + 1 = z := ⟨_, rfl⟩
  rw [hz] at hwc hwi hg1
  have HG4 := Lib.hid hg4
  have HG1 := Lib.hid hg1
  have HB0 : Hid (Below w.heap.size w w) := Below.refl _ _
  clear hg4 hg1 hkk hat s0 s1 hsv hxx hi hz h5 hp hs hi1 h
  -- ways
  cases hls : lastI X with
  | none =>
    rw [hls] at HA
    by_cases hn0 : n = 0
    · have HA2 : Hid (∀ W, Below w.heap.size w W → Calls Tryd.prog 38 #[.pointer (some ⟨g, 0, none⟩), .int .i64 (sv - 1)] W fun e w' => e = .returned (.tuple #[.int .i64 (-1), .bool false]) ∧ Below W.heap.size W w') := HA.out
      subst hn0
      rw [if_pos (.inl rfl)]
      have tn : (((0 : Nat) : Int) == 0) = true := rfl
      clear HA ho hn1
      go_enter Tryd.func27, Tryd.ntmps27
      go_wp2_with (first | (go_at_call 37; refine (HG4.out _).mono ?_; rintro e w1 ⟨rfl, rfl⟩; clear HG4) | (go_at_call 37; refine (HG1.out _).mono ?_; rintro e w1 ⟨rfl, rfl⟩; clear HG1) | (go_at_call 30; refine (HL.out _ HB0.out).mono ?_; rintro e w1 ⟨rfl, q, rfl⟩; have HB1 := Lib.hid (below_n w q); clear HL) | (go_at_call 38; refine (HA2.out _ HB1.out).mono ?_; rintro e w2 ⟨rfl, hb2⟩; have HB2 := Lib.hid (HB1.out.trans (hb2.mono HB1.out.size)); clear hb2 HA2))
      go_ret
      exact ⟨rfl, fun e => (by cases e), Chg.of HB2.out⟩
    cases hok : okX X (n : Int) with
    | true =>
      have HA2 : Hid (∀ W, Below w.heap.size w W → Calls Tryd.prog 38 #[.pointer (some ⟨g, 0, none⟩), .int .i64 (sv - 1)] W fun e w' => e = .returned (.tuple #[.int .i64 (-1), .bool false]) ∧ Below W.heap.size W w') := HA.out
      have tn : ((n : Int) == 0) = false := by simp; omega
      rw [if_neg (by rintro (e | e); exact hn0 e; cases e)]
      unfold AddPost at HAD
      rw [hok] at HAD
      rw [if_pos rfl]
      clear HA ho hn1 hn0
      go_enter Tryd.func27, Tryd.ntmps27
      go_wp2_with (first | (go_at_call 37; refine (HG4.out _).mono ?_; rintro e w1 ⟨rfl, rfl⟩; clear HG4) | (go_at_call 37; refine (HG1.out _).mono ?_; rintro e w1 ⟨rfl, rfl⟩; clear HG1) | (go_at_call 30; refine (HL.out _ HB0.out).mono ?_; rintro e w1 ⟨rfl, q, rfl⟩; have HB1 := Lib.hid (below_n w q); clear HL) | (go_at_call 38; refine (HA2.out _ HB1.out).mono ?_; rintro e w2 ⟨rfl, hb2⟩; have HB2 := Lib.hid (HB1.out.trans (hb2.mono HB1.out.size)); clear hb2 HA2) | (go_at_call 18; refine (HAD.out _ HB2.out).mono ?_; rintro e w3 ⟨rfl, hs3, hc3⟩; have HS3 := Lib.hid hs3; have HC3 := Lib.hid ((Chg.of HB2.out).trans hc3); clear hs3 hc3))
      go_ret
      exact ⟨rfl, fun _ => HS3.out, HC3.out⟩
    | false =>
      have HA2 : Hid (∀ W, Below w.heap.size w W → Calls Tryd.prog 38 #[.pointer (some ⟨g, 0, none⟩), .int .i64 (sv - 1)] W fun e w' => e = .returned (.tuple #[.int .i64 (-1), .bool false]) ∧ Below W.heap.size W w') := HA.out
      have tn : ((n : Int) == 0) = false := by simp; omega
      rw [if_neg (by rintro (e | e); exact hn0 e; cases e)]
      unfold AddPost at HAD
      rw [hok] at HAD
      rw [if_neg (by simp)]
      clear HA ho hn1 hn0
      go_enter Tryd.func27, Tryd.ntmps27
      go_wp2_with (first | (go_at_call 37; refine (HG4.out _).mono ?_; rintro e w1 ⟨rfl, rfl⟩; clear HG4) | (go_at_call 37; refine (HG1.out _).mono ?_; rintro e w1 ⟨rfl, rfl⟩; clear HG1) | (go_at_call 30; refine (HL.out _ HB0.out).mono ?_; rintro e w1 ⟨rfl, q, rfl⟩; have HB1 := Lib.hid (below_n w q); clear HL) | (go_at_call 38; refine (HA2.out _ HB1.out).mono ?_; rintro e w2 ⟨rfl, hb2⟩; have HB2 := Lib.hid (HB1.out.trans (hb2.mono HB1.out.size)); clear hb2 HA2) | (go_at_call 18; refine (HAD.out _ HB2.out).mono ?_; rintro e w3 ⟨rfl, hs3, hc3⟩; have HS3 := Lib.hid hs3; have HC3 := Lib.hid ((Chg.of HB2.out).trans hc3); clear hs3 hc3))
      go_ret
      exact ⟨rfl, fun e => (by cases e), HC3.out⟩
  | some y =>
    rw [hls] at HA
    by_cases hn0 : n = 0
    · have HA2 : Hid (∀ W, Below w.heap.size w W → Calls Tryd.prog 38 #[.pointer (some ⟨g, 0, none⟩), .int .i64 (sv - 1)] W fun e w' => e = .returned (.tuple #[.int .i64 y, .bool true]) ∧ Below W.heap.size W w') := HA.out
      subst hn0
      rw [if_pos (.inl rfl)]
      have tn : (((0 : Nat) : Int) == 0) = true := rfl
      clear HA ho hn1
      go_enter Tryd.func27, Tryd.ntmps27
      go_wp2_with (first | (go_at_call 37; refine (HG4.out _).mono ?_; rintro e w1 ⟨rfl, rfl⟩; clear HG4) | (go_at_call 37; refine (HG1.out _).mono ?_; rintro e w1 ⟨rfl, rfl⟩; clear HG1) | (go_at_call 30; refine (HL.out _ HB0.out).mono ?_; rintro e w1 ⟨rfl, q, rfl⟩; have HB1 := Lib.hid (below_n w q); clear HL) | (go_at_call 38; refine (HA2.out _ HB1.out).mono ?_; rintro e w2 ⟨rfl, hb2⟩; have HB2 := Lib.hid (HB1.out.trans (hb2.mono HB1.out.size)); clear hb2 HA2))
      go_ret
      exact ⟨rfl, fun e => (by cases e), Chg.of HB2.out⟩
    by_cases hy : y = i
    · have HA2 : Hid (∀ W, Below w.heap.size w W → Calls Tryd.prog 38 #[.pointer (some ⟨g, 0, none⟩), .int .i64 (sv - 1)] W fun e w' => e = .returned (.tuple #[.int .i64 y, .bool true]) ∧ Below W.heap.size W w') := HA.out
      have tn : ((n : Int) == 0) = false := by simp; omega
      rw [if_pos (.inr (by rw [hy]))]
      have ty : (i == y) = true := by simp [hy]
      clear HA ho hn1 hn0
      go_enter Tryd.func27, Tryd.ntmps27
      go_wp2_with (first | (go_at_call 37; refine (HG4.out _).mono ?_; rintro e w1 ⟨rfl, rfl⟩; clear HG4) | (go_at_call 37; refine (HG1.out _).mono ?_; rintro e w1 ⟨rfl, rfl⟩; clear HG1) | (go_at_call 30; refine (HL.out _ HB0.out).mono ?_; rintro e w1 ⟨rfl, q, rfl⟩; have HB1 := Lib.hid (below_n w q); clear HL) | (go_at_call 38; refine (HA2.out _ HB1.out).mono ?_; rintro e w2 ⟨rfl, hb2⟩; have HB2 := Lib.hid (HB1.out.trans (hb2.mono HB1.out.size)); clear hb2 HA2))
      go_ret
      exact ⟨rfl, fun e => (by cases e), Chg.of HB2.out⟩
    cases hok : okX X (n : Int) with
    | true =>
      have HA2 : Hid (∀ W, Below w.heap.size w W → Calls Tryd.prog 38 #[.pointer (some ⟨g, 0, none⟩), .int .i64 (sv - 1)] W fun e w' => e = .returned (.tuple #[.int .i64 y, .bool true]) ∧ Below W.heap.size W w') := HA.out
      have tn : ((n : Int) == 0) = false := by simp; omega
      rw [if_neg (by rintro (e | e); exact hn0 e; exact hy (Option.some.inj e))]
      have ty : (i == y) = false := by simp; exact fun e => hy e.symm
      unfold AddPost at HAD
      rw [hok] at HAD
      rw [if_pos rfl]
      clear HA ho hn1 hn0 hy
      go_enter Tryd.func27, Tryd.ntmps27
      go_wp2_with (first | (go_at_call 37; refine (HG4.out _).mono ?_; rintro e w1 ⟨rfl, rfl⟩; clear HG4) | (go_at_call 37; refine (HG1.out _).mono ?_; rintro e w1 ⟨rfl, rfl⟩; clear HG1) | (go_at_call 30; refine (HL.out _ HB0.out).mono ?_; rintro e w1 ⟨rfl, q, rfl⟩; have HB1 := Lib.hid (below_n w q); clear HL) | (go_at_call 38; refine (HA2.out _ HB1.out).mono ?_; rintro e w2 ⟨rfl, hb2⟩; have HB2 := Lib.hid (HB1.out.trans (hb2.mono HB1.out.size)); clear hb2 HA2) | (go_at_call 18; refine (HAD.out _ HB2.out).mono ?_; rintro e w3 ⟨rfl, hs3, hc3⟩; have HS3 := Lib.hid hs3; have HC3 := Lib.hid ((Chg.of HB2.out).trans hc3); clear hs3 hc3))
      go_ret
      exact ⟨rfl, fun _ => HS3.out, HC3.out⟩
    | false =>
      have HA2 : Hid (∀ W, Below w.heap.size w W → Calls Tryd.prog 38 #[.pointer (some ⟨g, 0, none⟩), .int .i64 (sv - 1)] W fun e w' => e = .returned (.tuple #[.int .i64 y, .bool true]) ∧ Below W.heap.size W w') := HA.out
      have tn : ((n : Int) == 0) = false := by simp; omega
      rw [if_neg (by rintro (e | e); exact hn0 e; exact hy (Option.some.inj e))]
      have ty : (i == y) = false := by simp; exact fun e => hy e.symm
      unfold AddPost at HAD
      rw [hok] at HAD
      rw [if_neg (by simp)]
      clear HA ho hn1 hn0 hy
      go_enter Tryd.func27, Tryd.ntmps27
      go_wp2_with (first | (go_at_call 37; refine (HG4.out _).mono ?_; rintro e w1 ⟨rfl, rfl⟩; clear HG4) | (go_at_call 37; refine (HG1.out _).mono ?_; rintro e w1 ⟨rfl, rfl⟩; clear HG1) | (go_at_call 30; refine (HL.out _ HB0.out).mono ?_; rintro e w1 ⟨rfl, q, rfl⟩; have HB1 := Lib.hid (below_n w q); clear HL) | (go_at_call 38; refine (HA2.out _ HB1.out).mono ?_; rintro e w2 ⟨rfl, hb2⟩; have HB2 := Lib.hid (HB1.out.trans (hb2.mono HB1.out.size)); clear hb2 HA2) | (go_at_call 18; refine (HAD.out _ HB2.out).mono ?_; rintro e w3 ⟨rfl, hs3, hc3⟩; have HS3 := Lib.hid hs3; have HC3 := Lib.hid ((Chg.of HB2.out).trans hc3); clear hs3 hc3))
      go_ret
      exact ⟨rfl, fun e => (by cases e), HC3.out⟩
end

end Go.Proofs.YtilkicbokfgjlaaDoor.Stp
