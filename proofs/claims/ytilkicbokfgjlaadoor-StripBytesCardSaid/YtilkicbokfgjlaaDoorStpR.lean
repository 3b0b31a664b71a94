
/- A strip out of bytes: package strip's Get, and the document's. Condition: at most 1,099,511,627,776 bytes; the names lie where the program lays them. -/

import Derived.Test.YtilkicbokfgjlaaDoorStpQ

namespace Go.Proofs.YtilkicbokfgjlaaDoor.Stp

open Go.RowKit Go.PlainAid Go.Proofs.YtilkicbokfgjlaaDoor.Cel Go.Proofs.YtilkicbokfgjlaaDoor.Oct Go.Proofs.YtilkicbokfgjlaaDoor.Flt

set_option linter.unusedVariables false

set_option linter.unusedSimpArgs false

theorem gK_bad {s : ByteArray} {p : Nat} {X : List RW} (h : gK s p X ≠ 0) : gK s p X = 2 ∨ gK s p X = 6 ∨ gK s p X = 8 := by
  unfold gK at h ⊢
  split
  · exact .inl rfl
  · rename_i h1
    rw [if_neg h1] at h
    split
    · exact .inr (.inl rfl)
    · rename_i h2
      rw [if_neg h2] at h
      split
      · rename_i h3; rw [if_pos h3] at h; exact absurd rfl h
      · exact .inr (.inr rfl)
def GetPost (s : ByteArray) (j : Nat) (w : World) (e : Ending) (w' : World) : Prop :=
  (s.size ≤ 5 * j ∧ e = .returned (.tuple #[.pointer (some ⟨w.heap.size, 0, none⟩), .nilIface]) ∧ IsSt w' w.heap.size w.heap.size (gS s j) ∧ w.heap.size < w'.heap.size ∧ Below w.heap.size w w') ∨
  (5 * j < s.size ∧ ∃ x, e = .returned (.tuple #[.pointer none, x]) ∧ IsFault w' x [(false, ((5 * j : Nat) : Int))] (gK s (5 * j) (gS s j)) ∧ Below w.heap.size w w')
def GeRel (s : ByteArray) (j : Nat) (w : World) (i : Value) (wr : World) : Prop :=
  ∃ k : Nat, k ≤ j ∧ i = .int .i64 ((5 * k : Nat) : Int) ∧ IsSt wr w.heap.size w.heap.size (gS s k) ∧ w.heap.size < wr.heap.size ∧ Below w.heap.size w wr
section

variable {w : World} {s : ByteArray} {j : Nat}

set_option maxRecDepth 4000 in
set_option maxHeartbeats 1600000 in
theorem sget_any (hn : Names w) (he : Ends s j) (hs : s.size ≤ 1099511627776) : Calls Tryd.prog 11 #[.string s] w (GetPost s j w) := by
  have HN := Lib.hid (new_any w)
  have HE := Lib.hid he
  have HS : Hid (s.size ≤ 1099511627776) := hs
  have HNM := Lib.hid hn
  clear hn he hs
  go_enter Tryd.func11, Tryd.ntmps11
  go_wp2_with (go_at_call 17; refine HN.out.mono ?_; rintro e w1 ⟨rfl, hs, hz, hb⟩; have HS1 := Lib.hid hs; have HZ : Hid (w.heap.size < w1.heap.size) := hz; have HB := Lib.hid hb; clear hs hz hb)
  go_loopw [5] (fun i wr => GeRel s j w i wr) (fun i _ => s.size + 5 - (intOf i).toNat)
  case atStart => exact ⟨0, Nat.zero_le _, rfl, HS1.out, HZ.out, HB.out⟩
  case round =>
    obtain ⟨k, hk, rfl, hst, hz, hb⟩ := hrel
    have HST := Lib.hid hst
    have HZR : Hid (w.heap.size < wr.heap.size) := hz
    have HBR := Lib.hid hb
    clear hst hz hb HS1 HZ HB
    have hss := HS.out
    by_cases hlt : 5 * k < s.size
    · have tl : decide (((5 * k : Nat) : Int) < (s.size : Int)) = true := decide_eq_true (by omega)
      have hw5 : IntKind.i64.wrap (((5 * k : Nat) : Int) + 5) = ((5 * (k + 1) : Nat) : Int) := by rw [show ((5 * k : Nat) : Int) + 5 = ((5 * (k + 1) : Nat) : Int) by omega]; exact IntWalk.i64_in _ (by omega)
      have hrd := read_any (p := 5 * k) HST.out (gS_ok s k) hlt HS.out
      have HLT : Hid (5 * k < s.size) := hlt
      by_cases hz : gK s (5 * k) (gS s k) = 0
      · have hkj : k < j := by
          rcases Nat.lt_or_ge k j with h | h
          · exact h
          · exfalso
            have hkj : k = j := by omega
            subst hkj
            rcases HE.out.2 with h2 | h2
            · omega
            · exact h2 hz
        have HKJ : Hid (k < j) := hkj
        have hrd2 : Calls Tryd.prog 27 #[.pointer (some ⟨w.heap.size, 0, none⟩), .string s, .int .i64 ((5 * k : Nat) : Int)] wr fun e w' => e = .returned (.int .i64 0) ∧ IsSt w' w.heap.size w.heap.size (gS s (k + 1)) ∧ Chg w.heap.size wr w' := by
          refine hrd.mono ?_
          rintro e w' ⟨rfl, h1, h2⟩
          exact ⟨by rw [hz], h1 hz, h2⟩
        have HRD := Lib.hid hrd2
        obtain ⟨pp, hpp⟩ : ∃ p, 5 * k = p := ⟨_, rfl⟩
        rw [hpp] at HRD hw5 tl ⊢
        have hpl : (pp : Int) < (s.size : Int) := by omega
        have HPP := Lib.hid hpp
        clear hrd hrd2 hz hkj hlt hk hpp hss
        go_wp2_with (go_at_call 27; refine HRD.out.mono ?_; rintro e w2 ⟨rfl, hs2, hc2⟩; have HS2 := Lib.hid hs2; have HC2 := Lib.hid hc2; clear hs2 hc2)
        go_roundw
        case rel => exact ⟨k + 1, HKJ.out, by first | rfl | (rw [hw5]), HS2.out, Nat.lt_of_lt_of_le HZR.out HC2.out.size, HC2.out.below HBR.out HBR.out.size⟩
        case measure => have := HLT.out; have := HPP.out; simp [intOf]; omega
      · have hkj : k = j := by
          rcases Nat.lt_or_ge k j with h | h
          · exact absurd (HE.out.1 k h).2 hz
          · omega
        subst hkj
        have hbad := gK_bad hz
        obtain ⟨q, hq⟩ : ∃ q : Nat, gK s (5 * k) (gS s k) = (q : Int) ∧ 1 ≤ q ∧ q ≤ 18 := by
          rcases hbad with e | e | e
          · exact ⟨2, e, by omega⟩
          · exact ⟨6, e, by omega⟩
          · exact ⟨8, e, by omega⟩
        have hrd2 : Calls Tryd.prog 27 #[.pointer (some ⟨w.heap.size, 0, none⟩), .string s, .int .i64 ((5 * k : Nat) : Int)] wr fun e w' => e = .returned (.int .i64 (q : Int)) ∧ Chg w.heap.size wr w' := by
          refine hrd.mono ?_
          rintro e w' ⟨rfl, h1, h2⟩
          exact ⟨by rw [hq.1], h2⟩
        have HRD := Lib.hid hrd2
        have HNW := Lib.hid (fun (W : World) (b : Below w.heap.size w W) => new_yes q hq.2.1 hq.2.2 W (HNM.out.kept b))
        have HAT := Lib.hid (fun (W : World) => Go.Proofs.YtilkicbokfgjlaaDoor.Flt.at_any ((5 * k : Nat) : Int) (.iface 88 (.int .i64 (q : Int))) [] (q : Int) W rfl)
        have HQ := Lib.hid hq.1
        have tq : ((q : Int) != 0) = true := by simp; omega
        obtain ⟨pp, hpp⟩ : ∃ p, 5 * k = p := ⟨_, rfl⟩
        have HPP := Lib.hid hpp
        rw [hpp] at HRD tl HAT ⊢
        have hpl : (pp : Int) < (s.size : Int) := by omega
        clear hrd hrd2 hz hlt hk hpp hss hbad hq hw5
        go_wp2_with (first
          | (go_at_call 27; refine HRD.out.mono ?_; rintro e w2 ⟨rfl, hc2⟩; have HB2 := Lib.hid (hc2.below HBR.out HBR.out.size); clear hc2)
          | (go_at_call 22; refine (HNW.out _ HB2.out).mono ?_; rintro e w3 ⟨rfl, rfl⟩)
          | (go_at_call 21; refine (HAT.out _).mono ?_; rintro e w4 ⟨y, rfl, hf4, hb4⟩; have HF4 := Lib.hid hf4; have HB4 := Lib.hid (HB2.out.trans (hb4.mono HB2.out.size)); clear hf4 hb4))
        go_ret2
        exact .inr ⟨HLT.out, y, rfl, by rw [HPP.out, ← HPP.out, HQ.out, HPP.out]; exact HF4.out, HB4.out⟩
    · have hkj : k = j := by
        rcases Nat.lt_or_ge k j with h | h
        · exact absurd (HE.out.1 k h).1 hlt
        · omega
      subst hkj
      have tl : decide (((5 * k : Nat) : Int) < (s.size : Int)) = false := decide_eq_false (by omega)
      have HLE : Hid (s.size ≤ 5 * k) := by show _ ≤ _; omega
      obtain ⟨pp, hpp⟩ : ∃ p, 5 * k = p := ⟨_, rfl⟩
      rw [hpp] at tl ⊢
      have HPP := Lib.hid hpp
      have tn : decide (pp < s.size) = false := decide_eq_false (by omega)
      clear hlt hk hpp hss
      go_wp2
      go_ret2
      exact .inl ⟨HLE.out, rfl, HST.out, HZR.out, HBR.out⟩
end

end Go.Proofs.YtilkicbokfgjlaaDoor.Stp
