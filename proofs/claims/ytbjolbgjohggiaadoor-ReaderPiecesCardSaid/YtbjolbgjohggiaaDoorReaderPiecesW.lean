
/- The function ReaderPieces returns true for every text, every list of counts and every section. Condition: the package-level variables hold what the program lays in them (the card ties that). This text: the walk through the Go text; the row is in the text without the W at its name's end. -/

import Derived.Test.YtbjolbgjohggiaaDoorArgs

import Derived.Test.YtbjolbgjohggiaaDoorRdrF

namespace Go.Proofs.YtbjolbgjohggiaaDoor.readerPieces

open Go.RowKit Go.PlainAid Go.Proofs.YtbjolbgjohggiaaDoor.Args

set_option linter.unusedVariables false

open Go.Proofs.YtbjolbgjohggiaaDoor.Flt Go.Proofs.YtbjolbgjohggiaaDoor.Rdr

/-- What the rounds keep: the reader's block, its place, and that nothing that was there has changed. -/
def PRel (s : ByteArray) (sec : Int) (g : Nat) (w : World) (n : Nat) (now i : Value) (wr : World) : Prop :=
  ∃ (k p : Nat), k ≤ n ∧ p ≤ s.size ∧ i = .int .i64 k ∧ now = .int .i64 p ∧ IsRdr wr g ⟨s, p, sec, 0, 0, 0⟩ ∧ Names wr ∧ Below w.heap.size w wr
theorem txt_in (s : ByteArray) (p m : Nat) (sec z : Int) (hm : z.toNat = m) (h : p + m ≤ s.size) : txtS ⟨s, p, sec, 0, 0, 0⟩ z = ⟨s, p + m, sec, 0, 0, 0⟩ ∧ txtV ⟨s, p, sec, 0, 0, 0⟩ z = s.extract p (p + m) := by
  unfold txtS txtV
  simp only []
  rw [hm, if_pos trivial, if_pos h, if_pos ⟨trivial, h⟩]
  exact ⟨rfl, rfl⟩
theorem txt_out (s : ByteArray) (p m : Nat) (sec z : Int) (hm : z.toNat = m) (h : ¬ p + m ≤ s.size) : txtS ⟨s, p, sec, 0, 0, 0⟩ z = ⟨s, p, sec, 2, sec, p⟩ ∧ txtV ⟨s, p, sec, 0, 0, 0⟩ z = ⟨#[]⟩ := by
  unfold txtS txtV
  simp only []
  rw [hm, if_pos trivial, if_neg h, if_neg (fun hh => h hh.2)]
  exact ⟨rfl, rfl⟩
set_option maxRecDepth 4000 in
set_option maxHeartbeats 1600000 in
theorem walk (a0 : ByteArray) (a1 : Option Addr) (len1 cap1 : Nat) (z1 : List Int) (a2 : Int) (w : World) (w0 : a0.size ≤ maxLen) (w1 : IsRow .i64 w a1 len1 cap1 z1) (w2 : (Lit.int .i64 a2).wf = true) (hn : Go.Proofs.YtbjolbgjohggiaaDoor.Flt.Names w) :
    Calls Tryd.prog 5 #[.string a0, .slice a1 len1 cap1, .int .i64 a2] w fun e w' => e = .returned (.bool true) ∧ Below w.heap.size w w' := by
  have HN := Lib.hid hn
  clear hn
  have b2 := bounds_i64 w2
  by_cases hl : 300 < (a0.size : Int) ∨ 60 < (len1 : Int)
  · have hor : (decide (300 < (a0.size : Int)) = true) ∨ (decide (300 < (a0.size : Int)) = false ∧ decide (60 < (len1 : Int)) = true) := by
      by_cases h3 : 300 < (a0.size : Int)
      · exact .inl (decide_eq_true h3)
      · exact .inr ⟨decide_eq_false h3, decide_eq_true (by omega)⟩
    clear hl w0 w1 w2 b2
    rcases hor with t | ⟨t, t'⟩
    all_goals
      go_enter Tryd.func5, Tryd.ntmps5
      go_wp2_with fail
      refine (new_any a0 _).mono ?_
      rintro e w3 ⟨g, hg, rfl, hr3, hb3⟩
      have HB3 := Lib.hid hb3
      have HN3 := Lib.hid (HN.out.kept hb3)
      clear hr3 hb3
      go_wp2_with (go_at_call 10; refine (Go.Proofs.YtbjolbgjohggiaaDoor.Rdr.awake_any _ HN3.out).mono ?_; rintro e w' ⟨rfl, hb⟩)
      go_ret
      exact ⟨rfl, HB3.out.trans (hb.mono HB3.out.size)⟩
  · have t : decide (300 < (a0.size : Int)) = false := decide_eq_false (by omega)
    have t' : decide (60 < (len1 : Int)) = false := decide_eq_false (by omega)
    have hl60 : len1 ≤ 60 := by omega
    have hl300 : (a0.size : Int) ≤ 300 := by omega
    have HO : Hid (∀ p, p ≤ a0.size → ∀ k fs fa, Ok ⟨a0, p, a2, k, fs, fa⟩) := fun p hp _ _ _ => ⟨hp, by show a0.size ≤ _; omega⟩
    have HZ : Hid (∀ (j : Nat) (wr : World), j < len1 → Below w.heap.size w wr → ∃ x z, a1 = some x ∧ wr.cell? (x.add j) = some (.int .i64 z) ∧ -9223372036854775808 ≤ z ∧ z ≤ 9223372036854775807) := by
      intro j wr hj hb
      rcases w1 with ⟨_, h0, _, _⟩ | ⟨x, hx, hlc, hcm, hz, hcell, hwf⟩
      · omega
      · have hjz : j < z1.length := by omega
        refine ⟨x, z1.getD j 0, hx, (hb.cell (Go.block_lt_of_cell (hcell j hjz))).trans (hcell j hjz), ?_⟩
        have hm : z1.getD j 0 ∈ z1 := by simp [List.getD, hjz]
        exact bounds_i64 (hwf _ hm)
    clear w0 w1 w2 hl b2
    go_enter Tryd.func5, Tryd.ntmps5
    go_wp2_with fail
    refine (new_any a0 _).mono ?_
    rintro e w3 ⟨g, hg, rfl, hr3, hb3⟩
    have HB3 := Lib.hid hb3
    have HR3 := Lib.hid hr3
    have HN3 := Lib.hid (HN.out.kept hb3)
    clear hr3 hb3
    go_wp2_with fail
    refine (enter_any g _ a2 _ HR3.out).mono ?_
    rintro e w4 ⟨rfl, hr4, hj4⟩
    have hb4 := HB3.out.trans (hj4.below hg HR3.out.lt)
    have hn4 := Rdr.Names.just HN3.out HR3.out hj4
    have hr4' : IsRdr w4 g ⟨a0, 0, a2, 0, 0, 0⟩ := hr4
    clear hr4 hj4
    go_wp2_with fail
    go_loopw [8, 37] (fun now i wr => PRel a0 a2 g w len1 now i wr) (fun _ i _ => len1 - (intOf i).toNat)
    case atStart => exact ⟨0, 0, Nat.zero_le _, Nat.zero_le _, rfl, rfl, hr4', hn4, hb4⟩
    case round =>
      clear hb4 hn4 hr4'
      obtain ⟨k, p, hk, hp, rfl, rfl, hr, hnr, hb⟩ := hrel
      have HR := Lib.hid hr
      have HNR := Lib.hid hnr
      have HB := Lib.hid hb
      clear hr hnr hb
      by_cases hlt : k < len1
      · obtain ⟨x, z, rfl, hcell, hz0, hz1⟩ := HZ.out k wr hlt HB.out
        obtain ⟨m, hm⟩ : ∃ m, z.toNat = m := ⟨_, rfl⟩
        have hmx : max z 0 = (m : Int) := by omega
        have hm63 : (m : Int) ≤ 9223372036854775807 := by omega
        have HX : Hid (Calls Tryd.prog 17 #[.pointer (some ⟨g, 0, none⟩), .int .i64 z] wr (SPost g (txtS ⟨a0, p, a2, 0, 0, 0⟩ z) (txtV ⟨a0, p, a2, 0, 0, 0⟩ z) wr)) := txt_any g _ z wr HNR.out HR.out (HO.out p hp 0 0 0)
        by_cases hin : p + m ≤ a0.size
        · rw [(txt_in a0 p m a2 z hm hin).1, (txt_in a0 p m a2 z hm hin).2] at HX
          obtain ⟨X, hX⟩ : ∃ X, a0.extract p (p + m) = X := ⟨_, rfl⟩
          rw [hX] at HX
          have hle : (p : Int) + (m : Int) ≤ (a0.size : Int) := by omega
          have hsl : ∀ w : World, (Instr.slice 9 (.string a0) (some (.int .i64 p)) (some (.int .i64 ((p : Int) + (m : Int)))) none).run Tryd.prog w = .ok (.string X) w := by
            intro w; rw [run_slice_string w 9 a0 .i64 .i64 _ _ Tryd.underlying9 (by omega) (by omega) hle, ← hX]; congr 3 <;> omega
          have tgt : decide ((a0.size : Int) - (p : Int) < (m : Int)) = false := decide_eq_false (by omega)
          have hxx : (X.toList != X.toList) = false := by simp
          have hxx2 : (X.toList == X.toList) = true := by simp
          have HPM : Hid (p + m ≤ a0.size) := hin
          have HKL : Hid (k < len1) := hlt
          have hkb : (k : Int) ≤ 60 := by omega
          have hpb : (p : Int) ≤ 300 := by omega
          have hmb : (m : Int) ≤ 300 := by omega
          have HPP := Lib.hid hp
          clear hm hX hin hm63 hz0 hz1 hk hp
          go_wp2_with (first
            | (go_at_call 17; refine (HX.out).mono ?_; rintro e w5 ⟨rfl, hr5, hj5⟩; have HR5 := Lib.hid hr5; have HB5 := Lib.hid (HB.out.trans (hj5.below hg HR.out.lt)); have HN5 := Lib.hid (Rdr.Names.just HNR.out HR.out hj5); clear hr5 hj5)
            | (go_at_call 15; refine (err_ok g _ _ HR5.out rfl).mono ?_; rintro e w' ⟨rfl, rfl⟩))
          go_roundw
          case rel => exact ⟨k + 1, p + m, HKL.out, HPM.out, by go_num, by go_num, HR5.out, HN5.out, HB5.out⟩
          case measure => have := HKL.out; simp [intOf]; omega
        · rw [(txt_out a0 p m a2 z hm hin).1, (txt_out a0 p m a2 z hm hin).2] at HX
          have tgt : decide ((a0.size : Int) - (p : Int) < (m : Int)) = true := decide_eq_true (by omega)
          have heq : ∀ wx : World, (Op.equalIn 10000 28 (.agg #[.int .i64 2, .int .i64 a2, .int .i64 p]) (.agg #[.int .i64 2, .int .i64 a2, .int .i64 p])).run Tryd.prog wx = .ok true wx := eq_flt 2 a2 p
          have hpb : (p : Int) ≤ (a0.size : Int) := by omega
          have HOO := Lib.hid (HO.out p hp 2 a2 p)
          have HT0 : Hid (∀ w, Names w → IsRdr w g ⟨a0, p, a2, 2, a2, p⟩ → Calls Tryd.prog 17 #[.pointer (some ⟨g, 0, none⟩), .int .i64 0] w (SPost g ⟨a0, p, a2, 2, a2, p⟩ ⟨#[]⟩ w)) := fun w hn hr => txt_any g _ 0 w hn hr HOO.out
          have HU0 : Hid (∀ w, Names w → IsRdr w g ⟨a0, p, a2, 2, a2, p⟩ → Calls Tryd.prog 18 #[.pointer (some ⟨g, 0, none⟩)] w (IPost .i64 g ⟨a0, p, a2, 2, a2, p⟩ 0 w)) := fun w hn hr => u8_any g _ w hn hr HOO.out
          have hkb : (k : Int) ≤ 60 := by omega
          clear hm hin hz0 hz1 hk hp
          go_wp2_with fail
          refine (HX.out).mono ?_
          rintro e w5 ⟨rfl, hr5, hj5⟩
          have HR5 := Lib.hid hr5
          have HB5 := Lib.hid (HB.out.trans (hj5.below hg HR.out.lt))
          have HN5 := Lib.hid (Rdr.Names.just HNR.out HR.out hj5)
          clear hr5 hj5
          go_wp2_with (first
            | (go_at_call 12; refine (fault_any g _ _ HR5.out).mono ?_; rintro e w6 ⟨rfl, hb6⟩; (try simp only [fltV]); have HR6 := Lib.hid (HR5.out.kept hb6); have HB6 := Lib.hid (HB5.out.trans (hb6.mono HB5.out.size)); have HN6 := Lib.hid (HN5.out.kept hb6); clear hb6)
            | (go_at_call 17; refine (HT0.out _ HN6.out HR6.out).mono ?_; rintro e w7 ⟨rfl, hr7, hj7⟩; have HR7 := Lib.hid hr7; have HB7 := Lib.hid (HB6.out.trans (hj7.below hg HR6.out.lt)); have HN7 := Lib.hid (Rdr.Names.just HN6.out HR6.out hj7); clear hr7 hj7)
            | (go_at_call 18; refine (HU0.out _ HN7.out HR7.out).mono ?_; rintro e w8 ⟨rfl, hr8, hj8⟩; have HR8 := Lib.hid hr8; have HB8 := Lib.hid (HB7.out.trans (hj8.below hg HR7.out.lt)); have HN8 := Lib.hid (Rdr.Names.just HN7.out HR7.out hj8); clear hr8 hj8)
            | (go_at_call 13; refine (place_any g _ _ HR8.out).mono ?_; rintro e w' ⟨rfl, rfl⟩)
            | (go_at_call 10; refine (Go.Proofs.YtbjolbgjohggiaaDoor.Rdr.awake_any _ HN8.out).mono ?_; rintro e w9 ⟨rfl, hb9⟩; have HB9 := Lib.hid (HB8.out.trans (hb9.mono HB8.out.size)); clear hb9))
          go_ret
          exact ⟨rfl, HB9.out⟩
      · obtain rfl : k = len1 := by omega
        have hpb : (p : Int) ≤ (a0.size : Int) := by omega
        have HOO := Lib.hid (HO.out p hp 0 0 0)
        clear hk hlt hp
        go_wp2_with (first
          | (go_at_call 13; refine (place_any g _ _ HR.out).mono ?_; rintro e w' ⟨rfl, rfl⟩)
          | (go_at_call 14; refine (left_int g _ _ HR.out HOO.out).mono ?_; rintro e w' ⟨rfl, nl, rfl⟩)
          | (go_at_call 10; refine (Go.Proofs.YtbjolbgjohggiaaDoor.Rdr.awake_any _ (names_drewN HNR.out nl)).mono ?_; rintro e w9 ⟨rfl, hb9⟩; have HB9 : Hid (Below w.heap.size w w9) := HB.out.trans ((⟨hb9.os, hb9.tape, hb9.output, hb9.size, hb9.block⟩ : Below wr.heap.size wr w9).mono HB.out.size); clear hb9))
        go_ret
        exact ⟨rfl, HB9.out⟩

end Go.Proofs.YtbjolbgjohggiaaDoor.readerPieces
