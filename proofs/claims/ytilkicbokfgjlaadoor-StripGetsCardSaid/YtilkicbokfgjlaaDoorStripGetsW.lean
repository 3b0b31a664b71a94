
/- The function StripGets returns true for every text. Condition: the package-level variables hold what the program lays in them (the card ties that). This text: the walk through the Go text; the row is in the text without the W at its name's end. -/

import Derived.Test.YtilkicbokfgjlaaDoorArgs

import Derived.Test.YtilkicbokfgjlaaDoorStpS

import Derived.Test.YtilkicbokfgjlaaDoorStpU

import Derived.Test.YtilkicbokfgjlaaDoorStpL

import Derived.Test.YtilkicbokfgjlaaDoorFltL

import Derived.Deep.RegionHeld3

namespace Go.Proofs.YtilkicbokfgjlaaDoor.stripGets

open Go.RowKit Go.PlainAid Go.Proofs.YtilkicbokfgjlaaDoor.Args

set_option linter.unusedVariables false

open Go.Proofs.YtilkicbokfgjlaaDoor.Stp Go.Proofs.YtilkicbokfgjlaaDoor.Cel Go.Proofs.YtilkicbokfgjlaaDoor.Flt Go.Proofs.YtilkicbokfgjlaaDoor.Oct

set_option linter.unusedSimpArgs false

theorem sbytes_good {w : World} {B g : Nat} {X : List RW} {s : ByteArray} (hn : Names w) (h : IsSt w B g X) (ho : OkX X) (hid : ∀ x ∈ X, idB x = true) (hl : X.length ≤ 268435455) (hs : strOfNums (bytesX X) = s) :
    Calls Tryd.prog 8 #[.pointer (some ⟨g, 0, none⟩)] w fun e w' => e = .returned (.tuple #[.string s, .nilIface]) ∧ Below w.heap.size w w' := by
  refine (sbytes_any hn h ho (fun x hx => by have := (idB_iff x).1 (hid x hx); omega) hl).mono ?_
  rintro e w5 (⟨_, rfl, hb5⟩ | ⟨k, y, ⟨_, x, hx, hf⟩, _⟩)
  · exact ⟨by rw [hs], hb5⟩
  · rw [hid x (List.mem_of_getElem? hx)] at hf; cases hf
set_option maxRecDepth 8000 in
set_option maxHeartbeats 6400000 in
theorem walk (a0 : ByteArray) (w : World) (w0 : a0.size ≤ maxLen) (hn : Go.Proofs.YtilkicbokfgjlaaDoor.Flt.Names w) :
    Calls Tryd.prog 4 #[.string a0] w fun e w' => e = .returned (.bool true) ∧ Below w.heap.size w w' := by
  by_cases hbig : 300 < a0.size
  · have t1 : decide ((300 : Int) < (a0.size : Int)) = true := decide_eq_true (by omega)
    clear w0 hn hbig
    go_enter Tryd.func4, Tryd.ntmps4
    go_wp2_with (go_at_call 5; refine (awake27 _).mono ?_; rintro e w9 ⟨rfl, hb9⟩)
    go_ret
    exact ⟨rfl, hb9⟩
  have t1 : decide ((300 : Int) < (a0.size : Int)) = false := decide_eq_false (by omega)
  obtain ⟨j, hj⟩ := ends_ex a0
  have HG := Lib.hid (sget_any hn hj (by omega))
  have HR := Lib.hid (fun (W : World) => rsget_any (w := W) hj (by omega))
  have HNM := Lib.hid hn
  unfold GetPost at HG
  unfold RGetPost at HR
  have HOX := Lib.hid (gS_ok a0 j)
  by_cases he : a0.size ≤ 5 * j
  · have hbk := gS_back a0 j hj he
    have HBK := Lib.hid hbk.1
    have HID := Lib.hid hbk.2
    have hlen : (gS a0 j).length ≤ 300 := by
      rw [gS_len a0 j hj.1]
      have := (gS_bytes a0 j hj.1).2.2
      omega
    have HLE : Hid (a0.size ≤ 5 * j) := he
    obtain ⟨X, hX⟩ : ∃ X, gS a0 j = X := ⟨_, rfl⟩
    rw [hX] at HG HR HOX HBK HID hlen
    obtain ⟨N, hN⟩ : ∃ N, X.length = N := ⟨_, rfl⟩
    have HN := Lib.hid hN
    rw [hN] at hlen
    have HL : Hid (N ≤ 300) := hlen
    clear w0 hn hj he hbk hlen hX hN hbig
    go_enter Tryd.func4, Tryd.ntmps4
    go_wp2_with fail
    refine HG.out.mono ?_
    rintro e w1 (⟨_, rfl, hs1, hz1, hb1⟩ | ⟨hlt, _⟩)
    rotate_left
    · exact absurd hlt (by have := HLE.out; omega)
    have HS1 := Lib.hid hs1
    have HB1 := Lib.hid hb1
    clear hs1 hz1 hb1
    go_wp2_with fail
    refine (HR.out w1).mono ?_
    rintro e w2 (⟨_, A, N2, c, rfl, hn2, hx2, hb2⟩ | ⟨hlt, _⟩)
    rotate_left
    · exact absurd hlt (by have := HLE.out; omega)
    obtain rfl : N = N2 := HN.out.symm.trans hn2
    have HX2 := Lib.hid hx2
    have HB2 := Lib.hid (HB1.out.trans (hb2.mono HB1.out.size))
    have HS2 := Lib.hid (HS1.out.keep hb2)
    have HRO := Lib.hid (rows_any HS2.out HOX.out)
    clear hn2 hx2 hb2
    go_wp2_with (first
      | (go_at_call 16; refine HRO.out.mono ?_; rintro e w3 ⟨A3, c3, rfl, how3, hb3⟩; rw [HN.out]; have HA3 := Lib.hid (own_rat how3); have HB3 := Lib.hid (HB2.out.trans (hb3.mono HB2.out.size)); have HS3 := Lib.hid (HS2.out.keep hb3); have HX3 := Lib.hid (HX2.out.keep hb3); clear how3 hb3)
      | (go_at_call 15; refine (lsame_any A3 A c3 c N X _ HA3.out HX3.out.rat HN.out (by have := HL.out; omega)).mono ?_; rintro e w4 ⟨rfl, hb4⟩; have HB4 := Lib.hid (HB3.out.trans (hb4.mono HB3.out.size)); have HS4 := Lib.hid (HS3.out.keep hb4); have HBY := Lib.hid (sbytes_good (HNM.out.kept HB4.out) HS4.out HOX.out HID.out (by rw [HN.out]; have := HL.out; omega) HBK.out); clear hb4)
      | (go_at_call 8; refine HBY.out.mono ?_; rintro e w5 ⟨rfl, hb5⟩; have HB5 := Lib.hid (HB4.out.trans (hb5.mono HB4.out.size)); clear hb5)
      | (go_at_call 5; refine (awake27 _).mono ?_; rintro e w9 ⟨rfl, hb9⟩; have HBZ := Lib.hid (HB5.out.trans (hb9.mono HB5.out.size)); clear hb9))
    go_ret
    exact ⟨rfl, HBZ.out⟩
  · have hlt : 5 * j < a0.size := by omega
    have hbad : gK a0 (5 * j) (gS a0 j) ≠ 0 := by
      rcases hj.2 with h | h
      · omega
      · exact h
    obtain ⟨kk, hkk⟩ : ∃ k, gK a0 (5 * j) (gS a0 j) = k := ⟨_, rfl⟩
    rw [hkk] at HG HR hbad
    have tk : (kk != 0) = true := by simp [hbad]
    have HLT : Hid (5 * j < a0.size) := hlt
    obtain ⟨pp, hpp⟩ : ∃ p, 5 * j = p := ⟨_, rfl⟩
    rw [hpp] at HG HR HLT
    have heq : ∀ wx : World, (Op.equalIn 10000 37 (.agg #[.int .i64 kk, .int .i64 0, .int .i64 (pp : Int)]) (.agg #[.int .i64 kk, .int .i64 0, .int .i64 (pp : Int)])).run Tryd.prog wx = .ok true wx := fun wx => eq_flt kk 0 pp wx
    clear w0 hn hj he hbig hbad hlt hpp hkk HOX
    go_enter Tryd.func4, Tryd.ntmps4
    go_wp2_with fail
    refine HG.out.mono ?_
    rintro e w1 (⟨hle, _⟩ | ⟨_, x, rfl, hf1, hb1⟩)
    · exact absurd hle (by have := HLT.out; omega)
    have HF1 := Lib.hid hf1
    have HB1 := Lib.hid hb1
    clear hf1 hb1
    go_wp2_with fail
    refine (HR.out w1).mono ?_
    rintro e w2 (⟨hle, _⟩ | ⟨_, rfl, hb2⟩)
    · exact absurd hle (by have := HLT.out; omega)
    have HB2 := Lib.hid (HB1.out.trans (hb2.mono HB1.out.size))
    have HOF : Hid (Calls Tryd.prog 10 #[x] w2 fun e w' => e = .returned (.agg #[.int .i64 kk, .int .i64 0, .int .i64 (pp : Int)]) ∧ Below w2.heap.size w2 w') := Go.Proofs.YtilkicbokfgjlaaDoor.Flt.of_any x [(false, (pp : Int))] kk w2 (HF1.out.kept hb2) (by show 1 ≤ 1000000; omega)
    clear hb2
    go_wp2_with (first
      | (go_at_call 10; refine HOF.out.mono ?_; rintro e w5 ⟨rfl, hb5⟩; have HB5 := Lib.hid (HB2.out.trans (hb5.mono HB2.out.size)); clear hb5)
      | (go_at_call 5; refine (awake27 _).mono ?_; rintro e w9 ⟨rfl, hb9⟩; have HBZ := Lib.hid (HB5.out.trans (hb9.mono HB5.out.size)); clear hb9))
    go_ret
    exact ⟨rfl, HBZ.out⟩

end Go.Proofs.YtilkicbokfgjlaaDoor.stripGets
