/- The function PlanMakes returns true for every two numbers and every slice of needs. Condition: the package-level variables hold what the program lays in them (the card ties that). This text: the walk through the Go text; the row is in the text without the W at its name's end. -/
import Derived.Test.YtpjillclladjaaaDoorMg01
import Derived.Test.YtpjillclladjaaaDoorMg48
import Derived.BigQuiet
import Derived.Deep.RegionHeld3
namespace Go.Proofs.YtpjillclladjaaaDoor.planMakes

open Go.RowKit Go.PlainAid Go.Proofs.YtpjillclladjaaaDoor.Args

set_option linter.unusedVariables false

open Go.Proofs.YtpjillclladjaaaDoor.Flt Go.Proofs.YtpjillclladjaaaDoor.Rdr Go.Proofs.YtpjillclladjaaaDoor.Oct Go.Proofs.YtpjillclladjaaaDoor.Win Go.Proofs.YtpjillclladjaaaDoor.Nee Go.Proofs.YtpjillclladjaaaDoor.Pln

open Go.Proofs.YtpjillclladjaaaDoor.Act (A3 ActsAt I64 Wide acts_of flatA)

set_option linter.unusedSimpArgs false

def LaRel (fr : Int) (l : List A3) (n : Nat) (W5 : World) (v i : Value) (W : World) : Prop :=
  ∃ k : Nat, k ≤ n ∧ i = .int .i64 (k : Int) ∧ v = .int .i64 (loadS fr l k) ∧ Below W5.heap.size W5 W
def FiRel (l : List A3) (n : Nat) (Wz : World) (v i : Value) (W : World) : Prop :=
  ∃ (k : Nat) (A : Option Addr) (c : Nat), k ≤ n ∧ i = .int .i64 (k : Int) ∧ v = .slice A k c ∧ W.ownsRow Wz.heap.size 3 1 (.slice A k c) k ((idsN l k).map (Value.int .i64)) ∧ Below Wz.heap.size Wz W
theorem ints_of_own {w : World} {B n c : Nat} {A : Option Addr} {xs : List Int} (h : w.ownsRow B 3 1 (.slice A n c) n (xs.map (Value.int .i64))) (hn : xs.length = n) : IntsBelow w.heap.size w (.slice A n c) xs := by
  rcases h.2 with ⟨e, h0⟩ | ⟨g, cap, cur, e, hb, hg, _⟩
  · cases e
    exact .inl ⟨rfl, List.eq_nil_of_length_eq_zero (by omega)⟩
  · cases e
    refine .inr ⟨⟨g, 0, none⟩, c, by rw [hn], fun _ => lt_of_block hg, fun j hj => ?_⟩
    have e : (Addr.mk g 0 none).add j = ⟨g, j, none⟩ := by cases j <;> simp [Addr.add]
    rw [e, h.cellAt j (by omega)]
    simp [List.getElem?_eq_getElem hj]
set_option maxRecDepth 16000 in
set_option maxHeartbeats 12800000 in
theorem walk (a0 : Int) (a1 : Int) (a2 : Option Addr) (len2 cap2 : Nat) (w : World) (w0 : (Lit.int .i64 a0).wf = true) (w1 : (Lit.int .i64 a1).wf = true) (w2 : IsRecs w a2 len2 cap2 [.int .i64, .int .i64, .int .i64]) (hn : Go.Proofs.YtpjillclladjaaaDoor.Flt.Names w) :
    Calls Tryd.prog 3 #[.int .i64 a0, .int .i64 a1, .slice a2 len2 cap2] w fun e w' => e = .returned (.bool true) ∧ Below w.heap.size w w' := by
  obtain ⟨l, hll, hacts, hwide, hlc, hcm⟩ := acts_of w2
  have hnil : a2 = none → cap2 = 0 := by
    rcases w2 with ⟨_, _, h⟩ | ⟨y, h, _⟩
    · exact fun _ => h
    · exact fun e => by rw [h] at e; cases e
  obtain ⟨n, hn0⟩ : ∃ n, len2 = n := ⟨_, rfl⟩
  obtain ⟨fr, hfr⟩ : ∃ f, a1 = f := ⟨_, rfl⟩
  obtain ⟨id, hid⟩ : ∃ i, a0 = i := ⟨_, rfl⟩
  rw [hn0] at hll hlc
  rw [hn0, hfr, hid]
  have HNM := Lib.hid (fun W (b : Below w.heap.size w W) => hn.kept b)
  have HAW := Lib.hid (fun W (b : Below w.heap.size w W) => awake32 W (HNM.out W b))
  have HACT := Lib.hid (fun W (b : Below w.heap.size w W) => hacts.kept b)
  have HWI := Lib.hid hwide
  have HNIL := Lib.hid hnil
  have HLC := Lib.hid hlc
  have HL := Lib.hid hll
  clear w0 w1 w2 hll hacts hwide hlc hcm hnil hn0 hfr hid hn
  by_cases hc1 : 120 < fr
  · have t1 : decide ((120 : Int) < fr) = true := decide_eq_true hc1
    by_cases hc2 : fr ≤ 4096
    · have t2 : decide (fr ≤ 4096) = true := decide_eq_true hc2
      go_enter Tryd.func3, Tryd.ntmps3
      go_wp2_with (go_at_call 7; refine (HAW.out w (Below.refl _ _)).mono ?_; rintro e w9 ⟨rfl, hb9⟩; have HB9 := Lib.hid hb9; clear hb9)
      go_ret
      exact ⟨rfl, HB9.out⟩
    · have t2 : decide (fr ≤ 4096) = false := decide_eq_false hc2
      by_cases hbig : 20 < n
      · have t3 : decide ((20 : Int) < (n : Int)) = true := decide_eq_true (by omega)
        have t4 : decide (20 < n) = true := decide_eq_true hbig
        go_enter Tryd.func3, Tryd.ntmps3
        go_wp2_with (go_at_call 7; refine (HAW.out w (Below.refl _ _)).mono ?_; rintro e w9 ⟨rfl, hb9⟩; have HB9 := Lib.hid hb9; clear hb9)
        go_ret
        exact ⟨rfl, HB9.out⟩
      · have t3 : decide ((20 : Int) < (n : Int)) = false := decide_eq_false (by omega)
        have t4 : decide (20 < n) = false := decide_eq_false hbig
        have hwr : ¬ (wrP fr l).1 = 0 := by unfold wrP; rw [if_pos (by omega)]; decide
        as_aux_lemma =>
        have HFRG : Hid (fr ≤ 200 ∨ 4096 < fr) := by show _ ∨ _; omega
        have HN20 : Hid (n ≤ 20) := by show _ ≤ _; omega
        obtain ⟨m1, m2, m3, m4, m5, m6⟩ := mk_wrong hwr
        have HMK := Lib.hid (make_any fr a2 cap2 n l w (HNM.out w (Below.refl _ _)) (HACT.out w (Below.refl _ _)) HWI.out HL.out (by have := HN20.out; omega))
        have HSD := Lib.hid (fun W (b : Below w.heap.size w W) => sched_any id fr a2 cap2 n l W (HNM.out W b) (HACT.out W b) HWI.out HL.out (by have := HN20.out; omega) HNIL.out HLC.out HFRG.out)
        have HLD := Lib.hid (fun W (b : Below w.heap.size w W) => pload_any fr a2 cap2 n l W (HNM.out W b) (HACT.out W b) HWI.out HL.out (by have := HN20.out; omega))
        have HRW := Lib.hid (fun W (b : Below w.heap.size w W) => rwrong_any fr a2 cap2 n l W (HACT.out W b) HWI.out HL.out (by have := HN20.out; omega))
        obtain ⟨q, hq⟩ : ∃ q, mkW fr l = q := ⟨_, rfl⟩
        obtain ⟨k, hk⟩ : ∃ k, (wrP fr l).1 = k := ⟨_, rfl⟩
        obtain ⟨i, hi⟩ : ∃ i, (wrP fr l).2 = i := ⟨_, rfl⟩
        rw [hq] at m1 m2 m3 m4 HMK HSD
        rw [hk] at hwr m1 m5 m6 HLD HRW
        rw [hi] at m3 HRW
        rw [if_neg hwr] at HLD
        obtain ⟨m, hm⟩ : ∃ m, max i 0 = m := ⟨_, rfl⟩
        rw [hm] at m3
        have HLW := Lib.hid (fun W => lwrong_any i (k : Int) W)
        rw [hm] at HLW
        unfold fltV at HLW
        have HOF : Hid (∀ x W, IsFault W x q.2 (q.1 : Nat) → Calls Tryd.prog 12 #[x] W fun e w' => e = .returned (.agg #[.int .i64 (k : Int), .int .i64 0, .int .i64 m]) ∧ Below W.heap.size W w') := fun x W h => by
          have h2 := of_any x q.2 (q.1 : Nat) W h m4
          rw [m2, m3, m1] at h2
          exact h2
        have hq1 : ¬ q.1 = 0 := by rw [m1]; exact hwr
        have HQ1 := Lib.hid hq1
        have hkn : (((k : Nat) : Int) != 0) = true := by simp [hwr]
        have hef : ∀ wx : World, (Op.equalIn 10000 40 (.agg #[.int .i64 (k : Int), .int .i64 0, .int .i64 m]) (.agg #[.int .i64 (k : Int), .int .i64 0, .int .i64 m])).run Tryd.prog wx = .ok true wx := eq_flt (k : Int) 0 m
        clear m1 m2 m3 m4 m5 m6 hq hk hi hm hwr hq1
        go_enter Tryd.func3, Tryd.ntmps3
        go_wp2_with fail
        refine HMK.out.mono ?_
        rintro e W1 ⟨V, x, rfl, hbad, _, hb1⟩
        obtain ⟨rfl, hflt⟩ := hbad HQ1.out
        have HB1 := Lib.hid hb1
        have HFA := Lib.hid (fun W (b : Below W1.heap.size W1 W) => HOF.out x W (hflt.kept b))
        clear hbad hflt hb1 HMK
        go_wp2_with fail
        refine (HSD.out W1 HB1.out).mono ?_
        rintro e W2 ⟨a, x2, rfl, hbad, _, hb2⟩
        obtain ⟨rfl, hflt⟩ := hbad HQ1.out
        have HFB := Lib.hid (fun W (b : Below W2.heap.size W2 W) => HOF.out x2 W (hflt.kept b))
        have HB12 := Lib.hid hb2
        have hb3 : Below W2.heap.size W2 (W2.alloc (.cells #[.int .i64 0, .int .i64 0, .slice none 0 0, .slice none 0 0] 31)) := (Below.refl _ _).alloc (Nat.le_refl _) _
        have hx3 := heap_alloc_new W2 (.cells #[.int .i64 0, .int .i64 0, .slice none 0 0, .slice none 0 0] 31)
        have HB23 := Lib.hid hb3
        have HX3 := Lib.hid hx3
        have HBW3 := Lib.hid ((HB1.out.trans (hb2.mono HB1.out.size)).trans (hb3.mono (HB1.out.trans (hb2.mono HB1.out.size)).size))
        clear hbad hflt hb2 hb3 hx3 HSD
        go_wp2_with fail
        obtain ⟨Q, hQ⟩ : ∃ Q, W2.heap.size = Q := ⟨_, rfl⟩
        obtain ⟨W3, hW3⟩ : ∃ X, W2.alloc (.cells #[.int .i64 0, .int .i64 0, .slice none 0 0, .slice none 0 0] 31) = X := ⟨_, rfl⟩
        rw [hW3, hQ] at HX3
        rw [hW3] at HB23 HBW3
        try rw [hW3]
        try rw [hQ]
        clear hW3
        refine (HLD.out W3 HBW3.out).mono ?_
        rintro e W4 ⟨rfl, hb4⟩
        have HB34 := Lib.hid hb4
        have HBW4 := Lib.hid (HBW3.out.trans (hb4.mono HBW3.out.size))
        clear hb4 HLD
        go_wp2_with fail
        refine (HRW.out W4 HBW4.out).mono ?_
        rintro e W5 ⟨rfl, hb5⟩
        have HB35 := Lib.hid (HB34.out.trans (hb5.mono HB34.out.size))
        have HBW5 := Lib.hid (HBW4.out.trans (hb5.mono HBW4.out.size))
        have HB25 := Lib.hid (HB23.out.trans (HB35.out.mono HB23.out.size))
        have HB15 := Lib.hid (HB12.out.trans (HB25.out.mono HB12.out.size))
        have HX5 := Lib.hid ((HB35.out.block _ (lt_of_block HX3.out)).trans HX3.out)
        clear hb5 HRW
        go_wp2_with fail
        refine (HFA.out W5 HB15.out).mono ?_
        rintro e W6 ⟨rfl, hb6⟩
        have HB56 := Lib.hid hb6
        clear hb6
        go_wp2_with fail
        refine (HLW.out W6).mono ?_
        rintro e W7 ⟨rfl, hb7⟩
        have HB57 := Lib.hid (HB56.out.trans (hb7.mono HB56.out.size))
        have HX7 := Lib.hid ((HB57.out.block _ (lt_of_block HX5.out)).trans HX5.out)
        have y1 : W7.cell? ⟨Q, 1, none⟩ = some (.int .i64 0) := by rw [cell_of_row _ _ _ _ _ _ HX7.out]; rfl
        clear hb7
        go_wp2_with fail
        refine (HFB.out W7 (HB25.out.trans (HB57.out.mono HB25.out.size))).mono ?_
        rintro e W8 ⟨rfl, hb8⟩
        have HB58 := Lib.hid (HB57.out.trans (hb8.mono HB57.out.size))
        clear hb8 y1
        go_wp2_with fail
        refine (HLW.out W8).mono ?_
        rintro e W9 ⟨rfl, hb9⟩
        have HB59 := Lib.hid (HB58.out.trans (hb9.mono HB58.out.size))
        have HBW9 := Lib.hid (HBW5.out.trans (HB59.out.mono HBW5.out.size))
        have HA9 := Lib.hid (HAW.out W9 HBW9.out)
        clear hb9
        go_wp2_with (go_at_call 7; refine HA9.out.mono ?_; rintro e W10 ⟨rfl, hb10⟩; have HB10 := Lib.hid (HBW9.out.trans (hb10.mono HBW9.out.size)); clear hb10)
        go_ret
        exact ⟨rfl, HB10.out⟩
  · have t1 : decide ((120 : Int) < fr) = false := decide_eq_false hc1
    have t2 : True := trivial
    by_cases hbig : 20 < n
    · have t3 : decide ((20 : Int) < (n : Int)) = true := decide_eq_true (by omega)
      have t4 : decide (20 < n) = true := decide_eq_true hbig
      go_enter Tryd.func3, Tryd.ntmps3
      go_wp2_with (go_at_call 7; refine (HAW.out w (Below.refl _ _)).mono ?_; rintro e w9 ⟨rfl, hb9⟩; have HB9 := Lib.hid hb9; clear hb9)
      go_ret
      exact ⟨rfl, HB9.out⟩
    · have t3 : decide ((20 : Int) < (n : Int)) = false := decide_eq_false (by omega)
      have t4 : decide (20 < n) = false := decide_eq_false hbig
      by_cases hwr : (wrP fr l).1 = 0
      · by_cases hfl : 0 ≤ flR l fr.toNat
        · as_aux_lemma =>
          have HN20 : Hid (n ≤ 20) := by show _ ≤ _; omega
          obtain ⟨hfr1, hch⟩ := wr_frame hwr
          obtain ⟨F, rfl⟩ : ∃ F : Nat, fr = (F : Int) := ⟨fr.toNat, by omega⟩
          have HF1 : Hid (1 ≤ (F : Int) ∧ (F : Int) ≤ 4096) := hfr1
          have HF2 : Hid (F ≤ 120) := by show _ ≤ _; omega
          have HOKS := Lib.hid (perOk_of hfr1 hch)
          have HCH := Lib.hid hch
          have hmk := mk_else hwr
          rw [Int.toNat_natCast] at hmk hfl
          have HMK := Lib.hid (make_any (F : Int) a2 cap2 n l w (HNM.out w (Below.refl _ _)) (HACT.out w (Below.refl _ _)) HWI.out HL.out (by have := HN20.out; omega))
          have HSD := Lib.hid (fun W (b : Below w.heap.size w W) => sched_any id (F : Int) a2 cap2 n l W (HNM.out W b) (HACT.out W b) HWI.out HL.out (by have := HN20.out; omega) HNIL.out HLC.out (by have := HF2.out; omega))
          have HLD := Lib.hid (fun W (b : Below w.heap.size w W) => pload_any (F : Int) a2 cap2 n l W (HNM.out W b) (HACT.out W b) HWI.out HL.out (by have := HN20.out; omega))
          have HRW := Lib.hid (fun W (b : Below w.heap.size w W) => rwrong_any (F : Int) a2 cap2 n l W (HACT.out W b) HWI.out HL.out (by have := HN20.out; omega))
          rw [Int.toNat_natCast] at HMK HSD
          obtain ⟨wi, hwi⟩ : ∃ i, (wrP (F : Int) l).2 = i := ⟨_, rfl⟩
          rw [hwr] at HLD HRW
          rw [hwi] at HRW
          rw [if_pos rfl] at HLD
          obtain ⟨z, hz⟩ : ∃ z, flR l F = z := ⟨_, rfl⟩
          have HFL := Lib.hid hz
          rw [hz] at hmk hfl
          rw [if_pos hfl] at hmk
          rw [hmk] at HMK HSD
          have HLW : Hid (∀ W, Calls Tryd.prog 13 #[.int .i64 z, .int .i64 14] W fun e w' => e = .returned (.agg #[.int .i64 14, .int .i64 0, .int .i64 z]) ∧ Below W.heap.size W w') := fun W => by
            have h := lwrong_any z 14 W
            rw [show max z 0 = z by omega] at h
            exact h
          have HOF : Hid (∀ x W, IsFault W x [(false, z)] 14 → Calls Tryd.prog 12 #[x] W fun e w' => e = .returned (.agg #[.int .i64 14, .int .i64 0, .int .i64 z]) ∧ Below W.heap.size W w') := fun x W h => of_any x [(false, z)] 14 W h (by simp)
          have hef : ∀ wx : World, (Op.equalIn 10000 40 (.agg #[.int .i64 14, .int .i64 0, .int .i64 z]) (.agg #[.int .i64 14, .int .i64 0, .int .i64 z])).run Tryd.prog wx = .ok true wx := eq_flt 14 0 z
          clear hfr1 hch hmk hwi hz hwr hc1 hbig
          go_enter Tryd.func3, Tryd.ntmps3
          go_wp2_with fail
          clear t1 t2 t3 t4
          refine HMK.out.mono ?_
          rintro e W1 ⟨V, x, rfl, hbad, _, hb1⟩
          obtain ⟨rfl, hflt⟩ := hbad (by simp)
          have HB1 := Lib.hid hb1
          have HFA := Lib.hid (fun W (b : Below W1.heap.size W1 W) => HOF.out x W (hflt.kept b))
          clear hbad hflt hb1 HMK
          go_wp2_with fail
          refine (HSD.out W1 HB1.out).mono ?_
          rintro e W2 ⟨a, x2, rfl, hbad, _, hb2⟩
          obtain ⟨rfl, hflt⟩ := hbad (by simp)
          have HFB := Lib.hid (fun W (b : Below W2.heap.size W2 W) => HOF.out x2 W (hflt.kept b))
          have HB12 := Lib.hid hb2
          have hb3 : Below W2.heap.size W2 (W2.alloc (.cells #[.int .i64 0, .int .i64 0, .slice none 0 0, .slice none 0 0] 31)) := (Below.refl _ _).alloc (Nat.le_refl _) _
          have hx3 := heap_alloc_new W2 (.cells #[.int .i64 0, .int .i64 0, .slice none 0 0, .slice none 0 0] 31)
          have HB23 := Lib.hid hb3
          have HX3 := Lib.hid hx3
          have HBW3 := Lib.hid ((HB1.out.trans (hb2.mono HB1.out.size)).trans (hb3.mono (HB1.out.trans (hb2.mono HB1.out.size)).size))
          clear hbad hflt hb2 hb3 hx3 HSD
          go_wp2_with fail
          obtain ⟨Q, hQ⟩ : ∃ Q, W2.heap.size = Q := ⟨_, rfl⟩
          obtain ⟨W3, hW3⟩ : ∃ X, W2.alloc (.cells #[.int .i64 0, .int .i64 0, .slice none 0 0, .slice none 0 0] 31) = X := ⟨_, rfl⟩
          rw [hW3, hQ] at HX3
          rw [hW3] at HB23 HBW3
          try rw [hW3]
          try rw [hQ]
          clear hW3
          refine (HLD.out W3 HBW3.out).mono ?_
          rintro e W4 ⟨rfl, hb4⟩
          have HB34 := Lib.hid hb4
          have HBW4 := Lib.hid (HBW3.out.trans (hb4.mono HBW3.out.size))
          clear hb4 HLD
          go_wp2_with fail
          refine (HRW.out W4 HBW4.out).mono ?_
          rintro e W5 ⟨rfl, hb5⟩
          have HB35 := Lib.hid (HB34.out.trans (hb5.mono HB34.out.size))
          have HBW5 := Lib.hid (HBW4.out.trans (hb5.mono HBW4.out.size))
          have HB25 := Lib.hid (HB23.out.trans (HB35.out.mono HB23.out.size))
          have HB15 := Lib.hid (HB12.out.trans (HB25.out.mono HB12.out.size))
          have HX5 := Lib.hid ((HB35.out.block _ (lt_of_block HX3.out)).trans HX3.out)
          clear hb5 HRW
          have HS1 : Hid (LaRel (F : Int) l n W5 (.int .i64 0) (.int .i64 0) W5) := ⟨0, Nat.zero_le _, rfl, rfl, Below.refl _ _⟩
          go_wp2_with fail
          go_loopw [15, 103] (fun v i W => LaRel (F : Int) l n W5 v i W) (fun _ i _ => n - (intOf i).toNat)
          case atStart => exact HS1.out
          case round =>
            obtain ⟨W6, hW6⟩ : ∃ X, wr = X := ⟨_, rfl⟩
            rw [hW6] at hrel
            rw [hW6]
            clear hW6 wr HS1
            obtain ⟨k, hk, rfl, rfl, hb⟩ := hrel
            have HB56 := Lib.hid hb
            have HBW6 := Lib.hid (HBW5.out.trans (hb.mono HBW5.out.size))
            have hl2 := HN20.out
            clear hb
            by_cases hlt : k < n
            · have hkl : k < l.length := by rw [HL.out]; exact hlt
              obtain ⟨ax, rfl, g0, g1, g2⟩ := HACT.out W6 HBW6.out k _ (nd_at hkl)
              obtain ⟨u1, u2, u3, u4⟩ := HOKS.out.1 k hkl
              have hst : loadS (F : Int) l (k + 1) = loadS (F : Int) l k + Int.tdiv (F : Int) (nd l k).p * (nd l k).a := rfl
              have hin := load_in HF1.out HOKS.out.1 k (by omega)
              have hqi := quo_in HF1.out ⟨u1, u2⟩ ⟨u3, u4⟩
              obtain ⟨x, hx⟩ : ∃ x, nd l k = x := ⟨_, rfl⟩
              rw [hx] at g0 g1 g2 u1 u2 u3 u4 hst hqi
              obtain ⟨s, p, a⟩ := x
              dsimp only at g0 g1 g2 u1 u2 u3 u4 hst hqi
              obtain ⟨m, hm⟩ : ∃ m, Int.tdiv (F : Int) p = m := ⟨_, rfl⟩
              rw [hm] at hst hqi
              obtain ⟨ma, hma⟩ : ∃ x, m * a = x := ⟨_, rfl⟩
              rw [hma] at hst hqi
              obtain ⟨ls, hls⟩ : ∃ x, loadS (F : Int) l k = x := ⟨_, rfl⟩
              rw [hls] at hst hin
              rw [hls]
              have HST := Lib.hid hst
              have hw1 : IntKind.i64.wrap m = m := IntWalk.i64_in _ (by omega)
              have hw2 : IntKind.i64.wrap (m * a) = ma := by rw [hma]; exact IntWalk.i64_in _ (by omega)
              have hw3 : IntKind.i64.wrap (ls + ma) = ls + ma := IntWalk.i64_in _ (by omega)
              have hki : (0 : Int) ≤ k := by omega
              have hkb : (k : Int) < n := by omega
              have hk1 : IntKind.i64.wrap ((k : Int) + 1) = (k : Int) + 1 := IntWalk.i64_in _ (by omega)
              have hp0 : ¬ p = 0 := by omega
              have hp1 : (p == 0) = false := by simp [hp0]
              have hb1 : Below W6.heap.size W6 (W6.alloc (.cells #[.int .i64 s, .int .i64 p, .int .i64 a] 44)) := (Below.refl _ _).alloc (Nat.le_refl _) _
              have hx1 := heap_alloc_new W6 (.cells #[.int .i64 s, .int .i64 p, .int .i64 a] 44)
              have HB1' := Lib.hid (HB56.out.trans (hb1.mono HB56.out.size))
              have HKN : Hid (k < n) := hlt
              clear hst hin hqi hx u1 u2 u3 u4 hma hls hb1 hx1 hk hkl
              go_wp2_with fail
              go_quiet (fail)
              go_wp2
              go_roundw
              case rel => exact ⟨k + 1, by have := HKN.out; omega, by go_num, by rw [HST.out], ⟨HB1'.out.os, HB1'.out.tape, HB1'.out.output, HB1'.out.size, HB1'.out.block⟩⟩
              case measure => have := HKN.out; simp [intOf]; omega
            · obtain rfl : k = n := by omega
              obtain ⟨ls, hls⟩ : ∃ x, loadS (F : Int) l k = x := ⟨_, rfl⟩
              rw [hls]
              have hlsb : (ls != ls) = false := by simp
              have HRM := Lib.hid (rmake_any a2 cap2 k F l W6 (HACT.out W6 HBW6.out) HL.out (by omega) (by have := HF1.out; omega) HOKS.out.1 HOKS.out.2.1)
              clear hlt hk hls
              go_wp2_with fail
              refine HRM.out.mono ?_
              rintro e W7 ⟨A7, c7, rfl, ho7, hb7⟩
              obtain ⟨g7, rfl, _⟩ := own_some1 ho7 (by have := HF1.out; omega)
              have HBW7 := Lib.hid (HBW6.out.trans (hb7.mono HBW6.out.size))
              have HB57 := Lib.hid (HB56.out.trans (hb7.mono HB56.out.size))
              have HO7 := Lib.hid ho7
              have HLT7 := Lib.hid (rlate_any g7 c7 F a2 cap2 k l W7 (wat_own ho7 (run_len _ _)) (own_cap ho7).1 (HACT.out W7 HBW7.out) HL.out (by omega) (by have := HF1.out; omega) HOKS.out.1 HOKS.out.2.1)
              clear ho7 hb7 HRM hl2
              go_wp2_with fail
              refine HLT7.out.mono ?_
              rintro e W8 ⟨rfl, hb8⟩
              have HBW8 := Lib.hid (HBW7.out.trans (hb8.mono HBW7.out.size))
              have HB58 := Lib.hid (HB57.out.trans (hb8.mono HB57.out.size))
              have HO8 := Lib.hid (owns_kept HO7.out hb8)
              have HX8 := Lib.hid ((HB58.out.block _ (lt_of_block HX5.out)).trans HX5.out)
              clear hb8 HLT7 HO7
              rw [HFL.out]
              have HBa := Lib.hid (HB15.out.trans (HB58.out.mono HB15.out.size))
              have HBb := Lib.hid (HB25.out.trans (HB58.out.mono HB25.out.size))
              have HXc := Lib.hid HX8.out
              have HBd := Lib.hid HBW8.out
              have hz0 : (0 : Int) ≤ z := hfl
              clear HO8 HX8 HBW8 HX5 HB58 HB57 HB56 HBW7 HBW6
              go_wp2_with fail
              refine (HFA.out W8 HBa.out).mono ?_
              rintro e W9 ⟨rfl, hb6⟩
              have HBe := Lib.hid hb6
              clear hb6
              go_wp2_with fail
              refine (HLW.out W9).mono ?_
              rintro e W10 ⟨rfl, hb7⟩
              have HBf := Lib.hid (HBe.out.trans (hb7.mono HBe.out.size))
              have HX7 := Lib.hid ((HBf.out.block _ (lt_of_block HXc.out)).trans HXc.out)
              have y1 : W10.cell? ⟨Q, 1, none⟩ = some (.int .i64 0) := by rw [cell_of_row _ _ _ _ _ _ HX7.out]; rfl
              clear hb7
              go_wp2_with fail
              refine (HFB.out W10 (HBb.out.trans (HBf.out.mono HBb.out.size))).mono ?_
              rintro e W11 ⟨rfl, hb8⟩
              have HBg := Lib.hid (HBf.out.trans (hb8.mono HBf.out.size))
              clear hb8 y1
              go_wp2_with fail
              refine (HLW.out W11).mono ?_
              rintro e W12 ⟨rfl, hb9⟩
              have HBh := Lib.hid (HBg.out.trans (hb9.mono HBg.out.size))
              have HBi := Lib.hid (HBd.out.trans (HBh.out.mono HBd.out.size))
              have HA9 := Lib.hid (HAW.out W12 HBi.out)
              clear hb9
              go_wp2_with (go_at_call 7; refine HA9.out.mono ?_; rintro e W13 ⟨rfl, hb10⟩; have HBj := Lib.hid (HBi.out.trans (hb10.mono HBi.out.size)); clear hb10)
              go_ret
              exact ⟨rfl, HBj.out⟩
        · as_aux_lemma =>
          have HN20 : Hid (n ≤ 20) := by show _ ≤ _; omega
          obtain ⟨hfr1, hch⟩ := wr_frame hwr
          obtain ⟨F, rfl⟩ : ∃ F : Nat, fr = (F : Int) := ⟨fr.toNat, by omega⟩
          have HF1 : Hid (1 ≤ (F : Int) ∧ (F : Int) ≤ 4096) := hfr1
          have HF2 : Hid (F ≤ 120) := by show _ ≤ _; omega
          have HOKS := Lib.hid (perOk_of hfr1 hch)
          have HCH := Lib.hid hch
          have hmk := mk_else hwr
          rw [Int.toNat_natCast] at hmk hfl
          have HMK := Lib.hid (make_any (F : Int) a2 cap2 n l w (HNM.out w (Below.refl _ _)) (HACT.out w (Below.refl _ _)) HWI.out HL.out (by have := HN20.out; omega))
          have HSD := Lib.hid (fun W (b : Below w.heap.size w W) => sched_any id (F : Int) a2 cap2 n l W (HNM.out W b) (HACT.out W b) HWI.out HL.out (by have := HN20.out; omega) HNIL.out HLC.out (by have := HF2.out; omega))
          have HLD := Lib.hid (fun W (b : Below w.heap.size w W) => pload_any (F : Int) a2 cap2 n l W (HNM.out W b) (HACT.out W b) HWI.out HL.out (by have := HN20.out; omega))
          have HRW := Lib.hid (fun W (b : Below w.heap.size w W) => rwrong_any (F : Int) a2 cap2 n l W (HACT.out W b) HWI.out HL.out (by have := HN20.out; omega))
          rw [Int.toNat_natCast] at HMK HSD
          obtain ⟨wi, hwi⟩ : ∃ i, (wrP (F : Int) l).2 = i := ⟨_, rfl⟩
          rw [hwr] at HLD HRW
          rw [hwi] at HRW
          rw [if_pos rfl] at HLD
          have hz : flR l F = -1 := by have := fl_ge l F; omega
          have HFL := Lib.hid hz
          rw [hz, if_neg (by omega)] at hmk
          rw [hmk] at HMK HSD
          have HWL : Hid ((winsL (runR l F).2).length ≤ 120) := by
            have h := (wst_le (runR l F).2 (runR l F).2.length).2
            rw [run_len] at h
            show _ ≤ _
            unfold winsL
            rw [run_len]; omega
          have HPC := Lib.hid (plan_chk l F (by omega))
          have HPN := Lib.hid (plan_need l F (by omega) hch hz)
          clear hfr1 hch hmk hwi hz hwr hc1 hbig hfl
          go_enter Tryd.func3, Tryd.ntmps3
          go_wp2_with fail
          clear t1 t2 t3 t4
          refine HMK.out.mono ?_
          rintro e W1 ⟨V, x, rfl, _, hgood, hb1⟩
          obtain ⟨rfl, A1, c1, rfl, ho1⟩ := hgood rfl
          obtain ⟨g1, rfl, _⟩ := own_some1 ho1 (by have := HF1.out; omega)
          have HB1 := Lib.hid hb1
          have HO1 := Lib.hid ho1
          clear hgood hb1 ho1 HMK
          go_wp2_with fail
          refine (HSD.out W1 HB1.out).mono ?_
          rintro e W2 ⟨a, x2, rfl, _, hgood, hb2⟩
          obtain ⟨rfl, A2, c2, B2, cb, rfl, hA2, hB2⟩ := hgood rfl
          obtain ⟨nw, hnw⟩ : ∃ m, (winsL (runR l F).2).length = m := ⟨_, rfl⟩
          rw [hnw]
          have HNW := Lib.hid hnw
          have HA2 := Lib.hid hA2
          have HB2' := Lib.hid hB2
          have HB12 := Lib.hid hb2
          have hb3 : Below W2.heap.size W2 (W2.alloc (.cells #[.int .i64 id, .int .i64 (F : Int), .slice A2 nw c2, .slice B2 n cb] 31)) := (Below.refl _ _).alloc (Nat.le_refl _) _
          have hx3 := heap_alloc_new W2 (.cells #[.int .i64 id, .int .i64 (F : Int), .slice A2 nw c2, .slice B2 n cb] 31)
          have HB23 := Lib.hid hb3
          have HX3 := Lib.hid hx3
          have HBW3 := Lib.hid ((HB1.out.trans (hb2.mono HB1.out.size)).trans (hb3.mono (HB1.out.trans (hb2.mono HB1.out.size)).size))
          clear hgood hb2 hb3 hx3 HSD hnw hA2 hB2
          go_wp2_with fail
          obtain ⟨Q, hQ⟩ : ∃ Q, W2.heap.size = Q := ⟨_, rfl⟩
          obtain ⟨W3, hW3⟩ : ∃ X, W2.alloc (.cells #[.int .i64 id, .int .i64 (F : Int), .slice A2 nw c2, .slice B2 n cb] 31) = X := ⟨_, rfl⟩
          rw [hW3, hQ] at HX3
          rw [hW3] at HB23 HBW3
          try rw [hW3]
          try rw [hQ]
          clear hW3
          refine (HLD.out W3 HBW3.out).mono ?_
          rintro e W4 ⟨rfl, hb4⟩
          have HB34 := Lib.hid hb4
          have HBW4 := Lib.hid (HBW3.out.trans (hb4.mono HBW3.out.size))
          clear hb4 HLD
          go_wp2_with fail
          refine (HRW.out W4 HBW4.out).mono ?_
          rintro e W5 ⟨rfl, hb5⟩
          have HB35 := Lib.hid (HB34.out.trans (hb5.mono HB34.out.size))
          have HBW5 := Lib.hid (HBW4.out.trans (hb5.mono HBW4.out.size))
          have HB25 := Lib.hid (HB23.out.trans (HB35.out.mono HB23.out.size))
          have HB15 := Lib.hid (HB12.out.trans (HB25.out.mono HB12.out.size))
          have HX5 := Lib.hid ((HB35.out.block _ (lt_of_block HX3.out)).trans HX3.out)
          clear hb5 HRW
          have HS1 : Hid (LaRel (F : Int) l n W5 (.int .i64 0) (.int .i64 0) W5) := ⟨0, Nat.zero_le _, rfl, rfl, Below.refl _ _⟩
          go_wp2_with fail
          go_loopw [15, 103] (fun v i W => LaRel (F : Int) l n W5 v i W) (fun _ i _ => n - (intOf i).toNat)
          case atStart => exact HS1.out
          case round =>
            obtain ⟨W6, hW6⟩ : ∃ X, wr = X := ⟨_, rfl⟩
            rw [hW6] at hrel
            rw [hW6]
            clear hW6 wr HS1
            obtain ⟨k, hk, rfl, rfl, hb⟩ := hrel
            have HB56 := Lib.hid hb
            have HBW6 := Lib.hid (HBW5.out.trans (hb.mono HBW5.out.size))
            have hl2 := HN20.out
            clear hb
            by_cases hlt : k < n
            · have hkl : k < l.length := by rw [HL.out]; exact hlt
              obtain ⟨ax, rfl, g0, g1, g2⟩ := HACT.out W6 HBW6.out k _ (nd_at hkl)
              obtain ⟨u1, u2, u3, u4⟩ := HOKS.out.1 k hkl
              have hst : loadS (F : Int) l (k + 1) = loadS (F : Int) l k + Int.tdiv (F : Int) (nd l k).p * (nd l k).a := rfl
              have hin := load_in HF1.out HOKS.out.1 k (by omega)
              have hqi := quo_in HF1.out ⟨u1, u2⟩ ⟨u3, u4⟩
              obtain ⟨x, hx⟩ : ∃ x, nd l k = x := ⟨_, rfl⟩
              rw [hx] at g0 g1 g2 u1 u2 u3 u4 hst hqi
              obtain ⟨s, p, a⟩ := x
              dsimp only at g0 g1 g2 u1 u2 u3 u4 hst hqi
              obtain ⟨m, hm⟩ : ∃ m, Int.tdiv (F : Int) p = m := ⟨_, rfl⟩
              rw [hm] at hst hqi
              obtain ⟨ma, hma⟩ : ∃ x, m * a = x := ⟨_, rfl⟩
              rw [hma] at hst hqi
              obtain ⟨ls, hls⟩ : ∃ x, loadS (F : Int) l k = x := ⟨_, rfl⟩
              rw [hls] at hst hin
              rw [hls]
              have HST := Lib.hid hst
              have hw1 : IntKind.i64.wrap m = m := IntWalk.i64_in _ (by omega)
              have hw2 : IntKind.i64.wrap (m * a) = ma := by rw [hma]; exact IntWalk.i64_in _ (by omega)
              have hw3 : IntKind.i64.wrap (ls + ma) = ls + ma := IntWalk.i64_in _ (by omega)
              have hki : (0 : Int) ≤ k := by omega
              have hkb : (k : Int) < n := by omega
              have hk1 : IntKind.i64.wrap ((k : Int) + 1) = (k : Int) + 1 := IntWalk.i64_in _ (by omega)
              have hp0 : ¬ p = 0 := by omega
              have hp1 : (p == 0) = false := by simp [hp0]
              have hb1 : Below W6.heap.size W6 (W6.alloc (.cells #[.int .i64 s, .int .i64 p, .int .i64 a] 44)) := (Below.refl _ _).alloc (Nat.le_refl _) _
              have hx1 := heap_alloc_new W6 (.cells #[.int .i64 s, .int .i64 p, .int .i64 a] 44)
              have HB1' := Lib.hid (HB56.out.trans (hb1.mono HB56.out.size))
              have HKN : Hid (k < n) := hlt
              clear hst hin hqi hx u1 u2 u3 u4 hma hls hb1 hx1 hk hkl
              go_wp2_with fail
              go_quiet (fail)
              go_wp2
              go_roundw
              case rel => exact ⟨k + 1, by have := HKN.out; omega, by go_num, by rw [HST.out], ⟨HB1'.out.os, HB1'.out.tape, HB1'.out.output, HB1'.out.size, HB1'.out.block⟩⟩
              case measure => have := HKN.out; simp [intOf]; omega
            · obtain rfl : k = n := by omega
              obtain ⟨ls, hls⟩ : ∃ x, loadS (F : Int) l k = x := ⟨_, rfl⟩
              rw [hls]
              have hlsb : (ls != ls) = false := by simp
              have HRM := Lib.hid (rmake_any a2 cap2 k F l W6 (HACT.out W6 HBW6.out) HL.out (by omega) (by have := HF1.out; omega) HOKS.out.1 HOKS.out.2.1)
              clear hlt hk hls
              go_wp2_with fail
              refine HRM.out.mono ?_
              rintro e W7 ⟨A7, c7, rfl, ho7, hb7⟩
              obtain ⟨g7, rfl, _⟩ := own_some1 ho7 (by have := HF1.out; omega)
              have HBW7 := Lib.hid (HBW6.out.trans (hb7.mono HBW6.out.size))
              have HB57 := Lib.hid (HB56.out.trans (hb7.mono HB56.out.size))
              have HO7 := Lib.hid ho7
              have HLT7 := Lib.hid (rlate_any g7 c7 F a2 cap2 k l W7 (wat_own ho7 (run_len _ _)) (own_cap ho7).1 (HACT.out W7 HBW7.out) HL.out (by omega) (by have := HF1.out; omega) HOKS.out.1 HOKS.out.2.1)
              clear ho7 hb7 HRM hl2
              go_wp2_with fail
              refine HLT7.out.mono ?_
              rintro e W8 ⟨rfl, hb8⟩
              have HBW8 := Lib.hid (HBW7.out.trans (hb8.mono HBW7.out.size))
              have HB58 := Lib.hid (HB57.out.trans (hb8.mono HB57.out.size))
              have HO8 := Lib.hid (owns_kept HO7.out hb8)
              have HX8 := Lib.hid ((HB58.out.block _ (lt_of_block HX5.out)).trans HX5.out)
              clear hb8 HLT7 HO7
              rw [HFL.out]
              have HQC : Hid (∀ wx : World, Below W8.heap.size W8 wx → wx.cell? ⟨Q, 0, none⟩ = some (.int .i64 id) ∧ wx.cell? ⟨Q, 1, none⟩ = some (.int .i64 (F : Int)) ∧ wx.cell? ⟨Q, 2, none⟩ = some (.slice A2 nw c2) ∧ wx.cell? ⟨Q, 3, none⟩ = some (.slice B2 k cb)) := fun wx b => by
                have h := (b.block _ (lt_of_block HX8.out)).trans HX8.out
                refine ⟨?_, ?_, ?_, ?_⟩ <;> rw [cell_of_row wx _ _ _ _ _ h] <;> rfl
              have HBD : Hid (Below W8.heap.size W8 W8.drew) := ⟨rfl, rfl, rfl, Nat.le_refl _, fun _ _ => rfl⟩
              have HB18 := Lib.hid (HB15.out.trans (HB58.out.mono HB15.out.size))
              have HB28 := Lib.hid (HB25.out.trans (HB58.out.mono HB25.out.size))
              have HSI : Hid (∀ W, Below W8.heap.size W8 W → Calls Tryd.prog 16 #[.slice (some ⟨g1, 0, none⟩) F c1, .slice (some ⟨g7, 0, none⟩) F c7] W fun e w' => e = .returned (.bool true) ∧ Below W.heap.size W w') := fun W b => sameints_any (runR l F).2 g1 g7 F c1 c7 _ _ W (owns_kept HO1.out (HB18.out.trans (b.mono HB18.out.size))) (owns_kept HO8.out b) (run_len _ _) (by have := HF2.out; omega)
              have HWN : Hid (∀ W, Below W8.heap.size W8 W → Calls Tryd.prog 18 #[.slice (some ⟨g7, 0, none⟩) F c7] W fun e w' => ∃ A c, e = .returned (.slice A nw c) ∧ ActsAt w' A (winsL (runR l F).2) ∧ Below W.heap.size W w') := fun W b =>
                (rwins_any _ c7 (runR l F).2 F W (wat_own (owns_kept HO8.out b) (run_len _ _)) (run_len _ _) (by have := HF2.out; omega)).mono (by
                  rintro e w' ⟨A, c, rfl, ho, hb⟩
                  rw [HNW.out] at ho ⊢
                  obtain ⟨A', c', e, h, _⟩ := own_acts3 ho HNW.out
                  simp only [Value.slice.injEq] at e
                  obtain ⟨rfl, _, rfl⟩ := e
                  exact ⟨A, c, rfl, h, hb⟩)
              have HSW : Hid (∀ W A c, Below W8.heap.size W8 W → ActsAt W A (winsL (runR l F).2) → Calls Tryd.prog 17 #[.slice A2 nw c2, .slice A nw c] W fun e w' => e = .returned (.bool true) ∧ Below W.heap.size W w') := fun W A c b h => by
                have h2 := same13_any A2 A c2 c (winsL (runR l F).2) W (HA2.out.kept (HB28.out.trans (b.mono HB28.out.size))) h (by have := HWL.out; omega)
                rw [HNW.out] at h2
                refine h2.mono ?_
                rintro e w' ⟨rfl, nd, rfl⟩
                exact ⟨rfl, rfl, rfl, rfl, Nat.le_refl _, fun _ _ => rfl⟩
              have tkk : ((k : Int) != (k : Int)) = false := by simp
              have tid : (id != id) = false := by simp
              have tff : ((F : Int) != (F : Int)) = false := by simp
              have hkk := HQC.out W8 (Below.refl _ _)
              obtain ⟨n0, n1, n2, n3⟩ := hkk
              go_upto_region 21 with fail
              refine wp_region_held_drew (S := (fun wx => wx.cell? ⟨Q, 0, none⟩ = some (.int .i64 id) ∧ wx.cell? ⟨Q, 1, none⟩ = some (.int .i64 (F : Int)) ∧ wx.cell? ⟨Q, 2, none⟩ = some (.slice A2 nw c2) ∧ wx.cell? ⟨Q, 3, none⟩ = some (.slice B2 k cb))) (by kernel_rfl) (HQC.out W8.drew HBD.out) (fun hS => ?_)
              refine wpAnyH_take (i := 0) (v := ?_) rfl (by kernel_rfl) (by kernel_rfl) (by kernel_rfl) (fun _ _ _ h => h) (Or.inl ⟨by kernel_rfl, ?_⟩) (by assumption) ?_
              rotate_left
              · intro wx hSw
                try dsimp only at hSw
                go_simp <;> with_reducible rfl
              try simp only [List.getElem_toArray, List.getElem_cons_zero, List.getElem_cons_succ, Act.put, List.setIfInBounds_toArray, List.set_cons_zero, List.set_cons_succ]
              refine wpAnyH_take (i := 1) (v := ?_) rfl (by kernel_rfl) (by kernel_rfl) (by kernel_rfl) (fun _ _ _ h => h) (Or.inl ⟨by kernel_rfl, ?_⟩) (by assumption) ?_
              rotate_left
              · intro wx hSw
                try dsimp only at hSw
                go_simp <;> with_reducible rfl
              try simp only [List.getElem_toArray, List.getElem_cons_zero, List.getElem_cons_succ, Act.put, List.setIfInBounds_toArray, List.set_cons_zero, List.set_cons_succ]
              refine wpAnyH_take (i := 2) (v := ?_) rfl (by kernel_rfl) (by kernel_rfl) (by kernel_rfl) (fun _ _ _ h => h) (Or.inl ⟨by kernel_rfl, ?_⟩) (by assumption) ?_
              rotate_left
              · intro wx hSw
                try dsimp only at hSw
                go_simp <;> with_reducible rfl
              try simp only [List.getElem_toArray, List.getElem_cons_zero, List.getElem_cons_succ, Act.put, List.setIfInBounds_toArray, List.set_cons_zero, List.set_cons_succ]
              refine wpAnyH_take (i := 3) (v := ?_) rfl (by kernel_rfl) (by kernel_rfl) (by kernel_rfl) (fun _ _ _ h => h) (Or.inl ⟨by kernel_rfl, ?_⟩) (by assumption) ?_
              rotate_left
              · intro wx hSw
                try dsimp only at hSw
                go_simp <;> with_reducible rfl
              try simp only [List.getElem_toArray, List.getElem_cons_zero, List.getElem_cons_succ, Act.put, List.setIfInBounds_toArray, List.set_cons_zero, List.set_cons_succ]
              refine wpAnyH_take (i := 4) (v := ?_) rfl (by kernel_rfl) (by kernel_rfl) (by kernel_rfl) (fun _ _ _ h => h) (Or.inl ⟨by kernel_rfl, ?_⟩) (by assumption) ?_
              rotate_left
              · intro wx hSw
                try dsimp only at hSw
                go_simp <;> with_reducible rfl
              try simp only [List.getElem_toArray, List.getElem_cons_zero, List.getElem_cons_succ, Act.put, List.setIfInBounds_toArray, List.set_cons_zero, List.set_cons_succ]
              refine wpAnyH_ready (rs := [5]) (by kernel_rfl) (by simp) ?_
              refine AllReadyH.cons rfl (fun K hK' => ?_) AllReadyH.nil
              have hK := Lib.hid hK'
              clear hK'
              try rw [if_pos (by kernel_rfl)]
              go_simp
              go_at_call 16
              refine (HSI.out W8.drew HBD.out).mono ?_
              rintro e x1 ⟨rfl, hb⟩
              have HX1' := Lib.hid (HBD.out.trans (hb.mono HBD.out.size))
              clear hb
              refine hK.out _ _ (HQC.out x1 HX1'.out) (fun hS1 => ?_)
              clear hK K
              try simp only [List.getElem_toArray, List.getElem_cons_zero, List.getElem_cons_succ, Act.put, List.setIfInBounds_toArray, List.set_cons_zero, List.set_cons_succ]
              refine wpAnyH_take (i := 6) (v := ?_) rfl (by kernel_rfl) (by kernel_rfl) (by kernel_rfl) (fun _ _ _ h => h) (Or.inl ⟨by kernel_rfl, ?_⟩) (by assumption) ?_
              rotate_left
              · intro wx hSw
                try dsimp only at hSw
                go_simp <;> with_reducible rfl
              try simp only [List.getElem_toArray, List.getElem_cons_zero, List.getElem_cons_succ, Act.put, List.setIfInBounds_toArray, List.set_cons_zero, List.set_cons_succ]
              refine wpAnyH_take (i := 7) (v := ?_) rfl (by kernel_rfl) (by kernel_rfl) (by kernel_rfl) (fun _ _ _ h => h) (Or.inl ⟨by kernel_rfl, ?_⟩) (by assumption) ?_
              rotate_left
              · intro wx hSw
                try dsimp only at hSw
                go_simp <;> with_reducible rfl
              try simp only [List.getElem_toArray, List.getElem_cons_zero, List.getElem_cons_succ, Act.put, List.setIfInBounds_toArray, List.set_cons_zero, List.set_cons_succ]
              refine wpAnyH_take (i := 8) (v := ?_) rfl (by kernel_rfl) (by kernel_rfl) (by kernel_rfl) (fun _ _ _ h => h) (Or.inl ⟨by kernel_rfl, ?_⟩) (by assumption) ?_
              rotate_left
              · intro wx hSw
                try dsimp only at hSw
                go_simp <;> with_reducible rfl
              try simp only [List.getElem_toArray, List.getElem_cons_zero, List.getElem_cons_succ, Act.put, List.setIfInBounds_toArray, List.set_cons_zero, List.set_cons_succ]
              refine wpAnyH_take (i := 9) (v := ?_) rfl (by kernel_rfl) (by kernel_rfl) (by kernel_rfl) (fun _ _ _ h => h) (Or.inl ⟨by kernel_rfl, ?_⟩) (by assumption) ?_
              rotate_left
              · intro wx hSw
                try dsimp only at hSw
                go_simp <;> with_reducible rfl
              try simp only [List.getElem_toArray, List.getElem_cons_zero, List.getElem_cons_succ, Act.put, List.setIfInBounds_toArray, List.set_cons_zero, List.set_cons_succ]
              refine wpAnyH_take (i := 10) (v := ?_) rfl (by kernel_rfl) (by kernel_rfl) (by kernel_rfl) (fun _ _ _ h => h) (Or.inl ⟨by kernel_rfl, ?_⟩) (by assumption) ?_
              rotate_left
              · intro wx hSw
                try dsimp only at hSw
                go_simp <;> with_reducible rfl
              try simp only [List.getElem_toArray, List.getElem_cons_zero, List.getElem_cons_succ, Act.put, List.setIfInBounds_toArray, List.set_cons_zero, List.set_cons_succ]
              refine wpAnyH_take (i := 11) (v := ?_) rfl (by kernel_rfl) (by kernel_rfl) (by kernel_rfl) (fun _ _ _ h => h) (Or.inl ⟨by kernel_rfl, ?_⟩) (by assumption) ?_
              rotate_left
              · intro wx hSw
                try dsimp only at hSw
                go_simp <;> with_reducible rfl
              try simp only [List.getElem_toArray, List.getElem_cons_zero, List.getElem_cons_succ, Act.put, List.setIfInBounds_toArray, List.set_cons_zero, List.set_cons_succ]
              refine wpAnyH_take (i := 12) (v := ?_) rfl (by kernel_rfl) (by kernel_rfl) (by kernel_rfl) (fun _ _ _ h => h) (Or.inl ⟨by kernel_rfl, ?_⟩) (by assumption) ?_
              rotate_left
              · intro wx hSw
                try dsimp only at hSw
                go_simp <;> with_reducible rfl
              try simp only [List.getElem_toArray, List.getElem_cons_zero, List.getElem_cons_succ, Act.put, List.setIfInBounds_toArray, List.set_cons_zero, List.set_cons_succ]
              refine wpAnyH_take (i := 13) (v := ?_) rfl (by kernel_rfl) (by kernel_rfl) (by kernel_rfl) (fun _ _ _ h => h) (Or.inl ⟨by kernel_rfl, ?_⟩) (by assumption) ?_
              rotate_left
              · intro wx hSw
                try dsimp only at hSw
                go_simp <;> with_reducible rfl
              try simp only [List.getElem_toArray, List.getElem_cons_zero, List.getElem_cons_succ, Act.put, List.setIfInBounds_toArray, List.set_cons_zero, List.set_cons_succ]
              refine wpAnyH_take (i := 14) (v := ?_) rfl (by kernel_rfl) (by kernel_rfl) (by kernel_rfl) (fun _ _ _ h => h) (Or.inl ⟨by kernel_rfl, ?_⟩) (by assumption) ?_
              rotate_left
              · intro wx hSw
                try dsimp only at hSw
                go_simp <;> with_reducible rfl
              try simp only [List.getElem_toArray, List.getElem_cons_zero, List.getElem_cons_succ, Act.put, List.setIfInBounds_toArray, List.set_cons_zero, List.set_cons_succ]
              refine wpAnyH_take (i := 15) (v := ?_) rfl (by kernel_rfl) (by kernel_rfl) (by kernel_rfl) (fun _ _ _ h => h) (Or.inl ⟨by kernel_rfl, ?_⟩) (by assumption) ?_
              rotate_left
              · intro wx hSw
                try dsimp only at hSw
                go_simp <;> with_reducible rfl
              try simp only [List.getElem_toArray, List.getElem_cons_zero, List.getElem_cons_succ, Act.put, List.setIfInBounds_toArray, List.set_cons_zero, List.set_cons_succ]
              refine wpAnyH_take (i := 16) (v := ?_) rfl (by kernel_rfl) (by kernel_rfl) (by kernel_rfl) (fun _ _ _ h => h) (Or.inl ⟨by kernel_rfl, ?_⟩) (by assumption) ?_
              rotate_left
              · intro wx hSw
                try dsimp only at hSw
                go_simp <;> with_reducible rfl
              try simp only [List.getElem_toArray, List.getElem_cons_zero, List.getElem_cons_succ, Act.put, List.setIfInBounds_toArray, List.set_cons_zero, List.set_cons_succ]
              refine wpAnyH_take (i := 17) (v := ?_) rfl (by kernel_rfl) (by kernel_rfl) (by kernel_rfl) (fun _ _ _ h => h) (Or.inl ⟨by kernel_rfl, ?_⟩) (by assumption) ?_
              rotate_left
              · intro wx hSw
                try dsimp only at hSw
                go_simp <;> with_reducible rfl
              try simp only [List.getElem_toArray, List.getElem_cons_zero, List.getElem_cons_succ, Act.put, List.setIfInBounds_toArray, List.set_cons_zero, List.set_cons_succ]
              refine wpAnyH_take (i := 18) (v := ?_) rfl (by kernel_rfl) (by kernel_rfl) (by kernel_rfl) (fun _ _ _ h => h) (Or.inl ⟨by kernel_rfl, ?_⟩) (by assumption) ?_
              rotate_left
              · intro wx hSw
                try dsimp only at hSw
                go_simp <;> with_reducible rfl
              try simp only [List.getElem_toArray, List.getElem_cons_zero, List.getElem_cons_succ, Act.put, List.setIfInBounds_toArray, List.set_cons_zero, List.set_cons_succ]
              refine wpAnyH_take (i := 19) (v := ?_) rfl (by kernel_rfl) (by kernel_rfl) (by kernel_rfl) (fun _ _ _ h => h) (Or.inl ⟨by kernel_rfl, ?_⟩) (by assumption) ?_
              rotate_left
              · intro wx hSw
                try dsimp only at hSw
                go_simp <;> with_reducible rfl
              try simp only [List.getElem_toArray, List.getElem_cons_zero, List.getElem_cons_succ, Act.put, List.setIfInBounds_toArray, List.set_cons_zero, List.set_cons_succ]
              refine wpAnyH_take (i := 20) (v := ?_) rfl (by kernel_rfl) (by kernel_rfl) (by kernel_rfl) (fun _ _ _ h => h) (Or.inl ⟨by kernel_rfl, ?_⟩) (by assumption) ?_
              rotate_left
              · intro wx hSw
                try dsimp only at hSw
                go_simp <;> with_reducible rfl
              try simp only [List.getElem_toArray, List.getElem_cons_zero, List.getElem_cons_succ, Act.put, List.setIfInBounds_toArray, List.set_cons_zero, List.set_cons_succ]
              refine wpAnyH_take (i := 21) (v := ?_) rfl (by kernel_rfl) (by kernel_rfl) (by kernel_rfl) (fun _ _ _ h => h) (Or.inl ⟨by kernel_rfl, ?_⟩) (by assumption) ?_
              rotate_left
              · intro wx hSw
                try dsimp only at hSw
                go_simp <;> with_reducible rfl
              try simp only [List.getElem_toArray, List.getElem_cons_zero, List.getElem_cons_succ, Act.put, List.setIfInBounds_toArray, List.set_cons_zero, List.set_cons_succ]
              refine wpAnyH_take (i := 22) (v := ?_) rfl (by kernel_rfl) (by kernel_rfl) (by kernel_rfl) (fun _ _ _ h => h) (Or.inl ⟨by kernel_rfl, ?_⟩) (by assumption) ?_
              rotate_left
              · intro wx hSw
                try dsimp only at hSw
                go_simp <;> with_reducible rfl
              try simp only [List.getElem_toArray, List.getElem_cons_zero, List.getElem_cons_succ, Act.put, List.setIfInBounds_toArray, List.set_cons_zero, List.set_cons_succ]
              refine wpAnyH_take (i := 23) (v := ?_) rfl (by kernel_rfl) (by kernel_rfl) (by kernel_rfl) (fun _ _ _ h => h) (Or.inl ⟨by kernel_rfl, ?_⟩) (by assumption) ?_
              rotate_left
              · intro wx hSw
                try dsimp only at hSw
                go_simp <;> with_reducible rfl
              try simp only [List.getElem_toArray, List.getElem_cons_zero, List.getElem_cons_succ, Act.put, List.setIfInBounds_toArray, List.set_cons_zero, List.set_cons_succ]
              refine wpAnyH_take (i := 24) (v := ?_) rfl (by kernel_rfl) (by kernel_rfl) (by kernel_rfl) (fun _ _ _ h => h) (Or.inl ⟨by kernel_rfl, ?_⟩) (by assumption) ?_
              rotate_left
              · intro wx hSw
                try dsimp only at hSw
                go_simp <;> with_reducible rfl
              try simp only [List.getElem_toArray, List.getElem_cons_zero, List.getElem_cons_succ, Act.put, List.setIfInBounds_toArray, List.set_cons_zero, List.set_cons_succ]
              refine wpAnyH_take (i := 25) (v := ?_) rfl (by kernel_rfl) (by kernel_rfl) (by kernel_rfl) (fun _ _ _ h => h) (Or.inl ⟨by kernel_rfl, ?_⟩) (by assumption) ?_
              rotate_left
              · intro wx hSw
                try dsimp only at hSw
                go_simp <;> with_reducible rfl
              try simp only [List.getElem_toArray, List.getElem_cons_zero, List.getElem_cons_succ, Act.put, List.setIfInBounds_toArray, List.set_cons_zero, List.set_cons_succ]
              refine wpAnyH_take (i := 26) (v := ?_) rfl (by kernel_rfl) (by kernel_rfl) (by kernel_rfl) (fun _ _ _ h => h) (Or.inl ⟨by kernel_rfl, ?_⟩) (by assumption) ?_
              rotate_left
              · intro wx hSw
                try dsimp only at hSw
                go_simp <;> with_reducible rfl
              try simp only [List.getElem_toArray, List.getElem_cons_zero, List.getElem_cons_succ, Act.put, List.setIfInBounds_toArray, List.set_cons_zero, List.set_cons_succ]
              refine wpAnyH_take (i := 27) (v := ?_) rfl (by kernel_rfl) (by kernel_rfl) (by kernel_rfl) (fun _ _ _ h => h) (Or.inl ⟨by kernel_rfl, ?_⟩) (by assumption) ?_
              rotate_left
              · intro wx hSw
                try dsimp only at hSw
                go_simp <;> with_reducible rfl
              try simp only [List.getElem_toArray, List.getElem_cons_zero, List.getElem_cons_succ, Act.put, List.setIfInBounds_toArray, List.set_cons_zero, List.set_cons_succ]
              refine wpAnyH_ready (rs := [28]) (by kernel_rfl) (by simp) ?_
              refine AllReadyH.cons rfl (fun K hK' => ?_) AllReadyH.nil
              have hK := Lib.hid hK'
              clear hK'
              try rw [if_pos (by kernel_rfl)]
              go_simp
              go_at_call 18
              refine (HWN.out x1 HX1'.out).mono ?_
              rintro e x2 ⟨A6, c6, rfl, ho6, hb⟩
              have HX2' := Lib.hid (HX1'.out.trans (hb.mono HX1'.out.size))
              have HO6 := Lib.hid ho6
              clear ho6
              clear hb
              refine hK.out _ _ (HQC.out x2 HX2'.out) (fun hS2 => ?_)
              clear hK K
              try simp only [List.getElem_toArray, List.getElem_cons_zero, List.getElem_cons_succ, Act.put, List.setIfInBounds_toArray, List.set_cons_zero, List.set_cons_succ]
              refine wpAnyH_ready (rs := [29]) (by kernel_rfl) (by simp) ?_
              refine AllReadyH.cons rfl (fun K hK' => ?_) AllReadyH.nil
              have hK := Lib.hid hK'
              clear hK'
              try rw [if_pos (by kernel_rfl)]
              go_simp
              go_at_call 17
              refine (HSW.out x2 A6 c6 HX2'.out HO6.out).mono ?_
              rintro e x3 ⟨rfl, hb⟩
              have HX3' := Lib.hid (HX2'.out.trans (hb.mono HX2'.out.size))
              clear HO6
              clear hb
              refine hK.out _ _ (HQC.out x3 HX3'.out) (fun hS3 => ?_)
              clear hK K
              try simp only [List.getElem_toArray, List.getElem_cons_zero, List.getElem_cons_succ, Act.put, List.setIfInBounds_toArray, List.set_cons_zero, List.set_cons_succ]
              refine wpAnyH_take (i := 30) (v := ?_) rfl (by kernel_rfl) (by kernel_rfl) (by kernel_rfl) (fun _ _ _ h => h) (Or.inl ⟨by kernel_rfl, ?_⟩) (by assumption) ?_
              rotate_left
              · intro wx hSw
                try dsimp only at hSw
                go_simp <;> with_reducible rfl
              try simp only [List.getElem_toArray, List.getElem_cons_zero, List.getElem_cons_succ, Act.put, List.setIfInBounds_toArray, List.set_cons_zero, List.set_cons_succ]
              refine wpAnyH_take (i := 31) (v := ?_) rfl (by kernel_rfl) (by kernel_rfl) (by kernel_rfl) (fun _ _ _ h => h) (Or.inl ⟨by kernel_rfl, ?_⟩) (by assumption) ?_
              rotate_left
              · intro wx hSw
                try dsimp only at hSw
                go_simp <;> with_reducible rfl
              try simp only [List.getElem_toArray, List.getElem_cons_zero, List.getElem_cons_succ, Act.put, List.setIfInBounds_toArray, List.set_cons_zero, List.set_cons_succ]
              refine wpAnyH_take (i := 32) (v := ?_) rfl (by kernel_rfl) (by kernel_rfl) (by kernel_rfl) (fun _ _ _ h => h) (Or.inl ⟨by kernel_rfl, ?_⟩) (by assumption) ?_
              rotate_left
              · intro wx hSw
                try dsimp only at hSw
                go_simp <;> with_reducible rfl
              try simp only [List.getElem_toArray, List.getElem_cons_zero, List.getElem_cons_succ, Act.put, List.setIfInBounds_toArray, List.set_cons_zero, List.set_cons_succ]
              refine wpAnyH_take (i := 33) (v := ?_) rfl (by kernel_rfl) (by kernel_rfl) (by kernel_rfl) (fun _ _ _ h => h) (Or.inl ⟨by kernel_rfl, ?_⟩) (by assumption) ?_
              rotate_left
              · intro wx hSw
                try dsimp only at hSw
                go_simp <;> with_reducible rfl
              try simp only [List.getElem_toArray, List.getElem_cons_zero, List.getElem_cons_succ, Act.put, List.setIfInBounds_toArray, List.set_cons_zero, List.set_cons_succ]
              refine wpAnyH_take (i := 34) (v := ?_) rfl (by kernel_rfl) (by kernel_rfl) (by kernel_rfl) (fun _ _ _ h => h) (Or.inl ⟨by kernel_rfl, ?_⟩) (by assumption) ?_
              rotate_left
              · intro wx hSw
                try dsimp only at hSw
                go_simp <;> with_reducible rfl
              try simp only [List.getElem_toArray, List.getElem_cons_zero, List.getElem_cons_succ, Act.put, List.setIfInBounds_toArray, List.set_cons_zero, List.set_cons_succ]
              refine wpAnyH_take (i := 35) (v := ?_) rfl (by kernel_rfl) (by kernel_rfl) (by kernel_rfl) (fun _ _ _ h => h) (Or.inl ⟨by kernel_rfl, ?_⟩) (by assumption) ?_
              rotate_left
              · intro wx hSw
                try dsimp only at hSw
                go_simp <;> with_reducible rfl
              try simp only [List.getElem_toArray, List.getElem_cons_zero, List.getElem_cons_succ, Act.put, List.setIfInBounds_toArray, List.set_cons_zero, List.set_cons_succ]
              refine wpAnyH_take (i := 36) (v := ?_) rfl (by kernel_rfl) (by kernel_rfl) (by kernel_rfl) (fun _ _ _ h => h) (Or.inl ⟨by kernel_rfl, ?_⟩) (by assumption) ?_
              rotate_left
              · intro wx hSw
                try dsimp only at hSw
                go_simp <;> with_reducible rfl
              try simp only [List.getElem_toArray, List.getElem_cons_zero, List.getElem_cons_succ, Act.put, List.setIfInBounds_toArray, List.set_cons_zero, List.set_cons_succ]
              refine wpAnyH_take (i := 37) (v := ?_) rfl (by kernel_rfl) (by kernel_rfl) (by kernel_rfl) (fun _ _ _ h => h) (Or.inl ⟨by kernel_rfl, ?_⟩) (by assumption) ?_
              rotate_left
              · intro wx hSw
                try dsimp only at hSw
                go_simp <;> with_reducible rfl
              try simp only [List.getElem_toArray, List.getElem_cons_zero, List.getElem_cons_succ, Act.put, List.setIfInBounds_toArray, List.set_cons_zero, List.set_cons_succ]
              refine wpAnyH_take (i := 38) (v := ?_) rfl (by kernel_rfl) (by kernel_rfl) (by kernel_rfl) (fun _ _ _ h => h) (Or.inl ⟨by kernel_rfl, ?_⟩) (by assumption) ?_
              rotate_left
              · intro wx hSw
                try dsimp only at hSw
                go_simp <;> with_reducible rfl
              try simp only [List.getElem_toArray, List.getElem_cons_zero, List.getElem_cons_succ, Act.put, List.setIfInBounds_toArray, List.set_cons_zero, List.set_cons_succ]
              refine wpAnyH_take (i := 39) (v := ?_) rfl (by kernel_rfl) (by kernel_rfl) (by kernel_rfl) (fun _ _ _ h => h) (Or.inl ⟨by kernel_rfl, ?_⟩) (by assumption) ?_
              rotate_left
              · intro wx hSw
                try dsimp only at hSw
                go_simp <;> with_reducible rfl
              try simp only [List.getElem_toArray, List.getElem_cons_zero, List.getElem_cons_succ, Act.put, List.setIfInBounds_toArray, List.set_cons_zero, List.set_cons_succ]
              refine wpAnyH_done (by kernel_rfl) ?_ _
              have HBW9 := Lib.hid (HBW8.out.trans (HX3'.out.mono HBW8.out.size))
              have HS2 : Hid (FiRel l k x3 (.slice (some ⟨x3.heap.size, 0, none⟩) 0 0) (.int .i64 0) (x3.alloc (.cells #[] 3))) := ⟨0, some ⟨x3.heap.size, 0, none⟩, 0, Nat.zero_le _, rfl, rfl, World.ownsRow_lit x3 #[] 0 (Nat.le_refl _) (Nat.zero_le _) rfl, (Below.refl _ _).alloc (Nat.le_refl _) _⟩
              obtain ⟨i1, hi1, hy0, hy1, hy2⟩ := info_parts infoInt
              clear HSI HWN HSW tkk tid tff n0 n1 n2 n3 HO1 HO8 HX8
              go_wp2_with fail
              go_loopw [20, 195] (fun v i W => FiRel l k x3 v i W) (fun _ i _ => k - (intOf i).toNat)
              case atStart => exact HS2.out
              case round =>
                obtain ⟨Wa, hWa⟩ : ∃ X, wr = X := ⟨_, rfl⟩
                rw [hWa] at hrel
                rw [hWa]
                clear hWa wr HS2
                obtain ⟨j, Aj, cj, hj, rfl, rfl, ho, hb⟩ := hrel
                have HOJ := Lib.hid ho
                have HBJ := Lib.hid hb
                have HBWa := Lib.hid (HBW9.out.trans (hb.mono HBW9.out.size))
                have HB8a := Lib.hid (HX3'.out.trans (hb.mono HX3'.out.size))
                have hl2 := HN20.out
                clear ho hb
                by_cases hlt : j < k
                · have hjl : j < l.length := by rw [HL.out]; exact hlt
                  obtain ⟨ax, eax, g0, g1', g2⟩ := HACT.out Wa HBWa.out j _ (nd_at hjl)
                  obtain ⟨ay, eay, f0, f1, f2⟩ := (HB2'.out.kept (HB28.out.trans (HB8a.out.mono HB28.out.size))) j _ (nd_at hjl)
                  subst eax
                  subst eay
                  have hbx := (HQC.out Wa HB8a.out).2.2.2
                  have hsn := idsN_snoc l j
                  obtain ⟨x, hx⟩ : ∃ x, nd l j = x := ⟨_, rfl⟩
                  rw [hx] at g0 g1' g2 f0 f1 f2 hsn
                  obtain ⟨s, p, a⟩ := x
                  dsimp only at g0 g1' g2 f0 f1 f2 hsn
                  have HSN := Lib.hid hsn
                  have HXJ := Lib.hid hx
                  have hji : (0 : Int) ≤ j := by omega
                  have hjb : (j : Int) < k := by omega
                  have hj1 : IntKind.i64.wrap ((j : Int) + 1) = (j : Int) + 1 := IntWalk.i64_in _ (by omega)
                  have hen : ∀ wx : World, (Op.equalIn 10000 44 (.agg #[.int .i64 s, .int .i64 p, .int .i64 a]) (.agg #[.int .i64 s, .int .i64 p, .int .i64 a])).run Tryd.prog wx = .ok true wx := eq_need s p a
                  have HJK : Hid (j < k) := hlt
                  have hb4 : Below Wa.heap.size Wa (Wa.alloc (.cells #[.int .i64 s] 3)) := (Below.refl _ _).alloc (Nat.le_refl _) _
                  have HO4 := Lib.hid (owns_kept HOJ.out hb4)
                  have HBJ4 := Lib.hid (HBJ.out.trans (hb4.mono HBJ.out.size))
                  have HN4 := Lib.hid (heap_alloc_new Wa (.cells #[.int .i64 s] 3))
                  have HG := Lib.hid (And.intro g0 (And.intro g1' (And.intro g2 (And.intro f0 (And.intro f1 (And.intro f2 hbx))))))
                  clear hsn hx hjl hj hlt hb4
                  go_wp2_with (at_builtin; refine wpList_append_own _ rfl _ _ 24 rfl x3.heap.size 3 i1 (.int .i64 0) 1 8 Tryd.underlying24 hi1 hy0 hy1 hy2 rfl (by decide) _ j _ rfl HO4.out ⟨Wa.heap.size, 0, none⟩ 1 1 [.int .i64 s] rfl rfl ?d1 ?d2 ?d3 ?d4 ?d5 ?_)
                  case d1 =>
                    intro i u hi
                    have e : (Addr.mk Wa.heap.size 0 none).add i = ⟨Wa.heap.size, i, none⟩ := by cases i <;> simp [Addr.add]
                    rw [e, cell_of_row _ _ _ _ _ _ HN4.out, ← hi]
                    simp
                  case d2 => intro u hu; simp at hu; rw [hu]; rfl
                  case d3 => have := HJK.out; unfold maxLen; omega
                  case d4 => have := HJK.out; omega
                  case d5 => first | exact HBJ4.out.size | (simpa using HBJ4.out.size)
                  intro v' Wb ho5 hg5 _
                  obtain ⟨A5, c5, hv5, _⟩ := own_slice1 ho5
                  subst hv5
                  have hlt5 : ∀ q, (Value.slice Aj j cj).ownBlock = some q → x3.heap.size ≤ q := fun q h => (HO4.out.lt q h).1
                  have HBJ5 : Hid (Below x3.heap.size x3 Wb) := HBJ4.out.grown hg5 HBJ4.out.size hlt5
                  have HO5 := Lib.hid ho5
                  have hB8b : Below W8.heap.size W8 Wb := HX3'.out.trans (HBJ5.out.mono HX3'.out.size)
                  have hBWb : Below w.heap.size w Wb := HBW9.out.trans (HBJ5.out.mono HBW9.out.size)
                  obtain ⟨bx0, bx1, bx2, bx3⟩ := HQC.out Wb hB8b
                  have hjl : j < l.length := by rw [HL.out]; exact HJK.out
                  obtain ⟨az, eaz, k0, k1, k2⟩ := HACT.out Wb hBWb j _ (nd_at hjl)
                  obtain rfl := Option.some.inj eaz
                  obtain ⟨aw, eaw, m0, m1, m2⟩ := (HB2'.out.kept (HB28.out.trans (hB8b.mono HB28.out.size))) j _ (nd_at hjl)
                  obtain rfl := Option.some.inj eaw
                  rw [HXJ.out] at k0 k1 k2 m0 m1 m2
                  dsimp only at k0 k1 k2 m0 m1 m2
                  clear ho5 hg5 hlt5 hjl bx0 bx1 bx2
                  go_wp2_with fail
                  go_quiet (fail)
                  go_wp2
                  go_roundw
                  case rel => exact ⟨j + 1, A5, c5, by have := HJK.out; omega, by go_num, rfl, by rw [HSN.out, List.map_append]; exact HO5.out, ⟨HBJ5.out.os, HBJ5.out.tape, HBJ5.out.output, HBJ5.out.size, HBJ5.out.block⟩⟩
                  case measure => have := HJK.out; simp [intOf]; omega
                · obtain rfl : j = k := by omega
                  have hlk : l.length = j := HL.out
                  have hIN := ints_of_own HOJ.out (idsN_len l j)
                  have hacA := HA2.out.kept (HB28.out.trans (HB8a.out.mono HB28.out.size))
                  have hacB := HB2'.out.kept (HB28.out.trans (HB8a.out.mono HB28.out.size))
                  obtain ⟨hwn, _⟩ := wins_in (runR l F).2 (by rw [run_len]; have := HF2.out; omega)
                  rw [run_len] at hwn
                  have hpc := HPC.out
                  have hpn := HPN.out
                  rw [hlk] at hpc hpn
                  have hRC := rcheck_any id (F : Int) A2 c2 (winsL (runR l F).2) B2 j cb Aj j cj (idsN l j) Wa hIN hacA (fun x hx => by
                    obtain ⟨w1, w2, w3, _, u, _, w5⟩ := hwn x hx
                    refine ⟨?_, by unfold I64; have := HF2.out; omega, by unfold I64; have := HF2.out; omega⟩
                    rcases run_ids l F u (by assumption) with h | ⟨v, hv, h⟩
                    · rw [← w5, h]; unfold I64; omega
                    · rw [← w5, h]
                      have h1 := HOKS.out.2.1.2 v hv
                      have h2 := (HOKS.out.2.2 v hv).2
                      unfold I64; omega) (by unfold I64; have := HF2.out; omega) (by have := HWL.out; omega) (by rw [idsN_len]; omega)
                  rw [hpc, HNW.out] at hRC
                  have HRC := Lib.hid hRC
                  have HNC : Hid (∀ W, Below Wa.heap.size Wa W → Calls Tryd.prog 20 #[.agg #[.int .i64 id, .int .i64 (F : Int), .slice A2 nw c2, .slice B2 j cb], .slice Aj j cj] W fun e w' => e = .returned (.tuple #[.int .i64 0, .int .i64 ((0 : Nat) : Int)]) ∧ Below W.heap.size W w') := fun W b => by
                    have hwd := plan_wordAt id F A2 B2 c2 j cb l W (by have := HF2.out; omega) (hacA.kept b)
                    rw [HNW.out, ← hlk] at hwd
                    have h := rncheck_any id A2 nw c2 l B2 cb Aj j cj (idsN l j) (runR l F).2 F W ((hIN.below b).mono b.size) (hacB.kept b) (fun x hx => by
                      obtain ⟨v, hv, rfl⟩ := List.mem_iff_getElem.1 hx
                      rw [← nd_get hv]
                      obtain ⟨h1, h2, h3, h4⟩ := HOKS.out.1 v hv
                      exact ⟨by omega, by omega, by omega, by omega⟩) (by omega) (by rw [idsN_len]; omega) hwd (run_len _ _) (by have := HF1.out; omega) (by have := HF2.out; omega)
                    rw [hlk, hpn] at h
                    exact h
                  obtain ⟨bx0, bx1, bx2, bx3⟩ := HQC.out Wa HB8a.out
                  clear hlk hIN hacA hacB hwn hpc hpn hRC hj hlt
                  go_wp2_with fail
                  refine HRC.out.mono ?_
                  rintro e Wb ⟨rfl, hbb⟩
                  have HN9 := Lib.hid (HNC.out Wb hbb)
                  have HBWb := Lib.hid (HBWa.out.trans (hbb.mono HBWa.out.size))
                  have HB8b := Lib.hid (HB8a.out.trans (hbb.mono HB8a.out.size))
                  obtain ⟨by0, by1, by2, by3⟩ := HQC.out Wb HB8b.out
                  clear hbb bx0 bx1 bx2 bx3 HRC
                  go_wp2_with fail
                  refine HN9.out.mono ?_
                  rintro e Wc ⟨rfl, hbc⟩
                  have HBWc := Lib.hid (HBWb.out.trans (hbc.mono HBWb.out.size))
                  have HAc := Lib.hid (HAW.out Wc HBWc.out)
                  clear hbc by0 by1 by2 by3
                  go_wp2_with (go_at_call 7; refine HAc.out.mono ?_; rintro e Wd ⟨rfl, hbd⟩; have HBd := Lib.hid (HBWc.out.trans (hbd.mono HBWc.out.size)); clear hbd)
                  go_ret
                  exact ⟨rfl, HBd.out⟩

      · as_aux_lemma =>
        have HFRG : Hid (fr ≤ 200 ∨ 4096 < fr) := by show _ ∨ _; omega
        have HN20 : Hid (n ≤ 20) := by show _ ≤ _; omega
        obtain ⟨m1, m2, m3, m4, m5, m6⟩ := mk_wrong hwr
        have HMK := Lib.hid (make_any fr a2 cap2 n l w (HNM.out w (Below.refl _ _)) (HACT.out w (Below.refl _ _)) HWI.out HL.out (by have := HN20.out; omega))
        have HSD := Lib.hid (fun W (b : Below w.heap.size w W) => sched_any id fr a2 cap2 n l W (HNM.out W b) (HACT.out W b) HWI.out HL.out (by have := HN20.out; omega) HNIL.out HLC.out HFRG.out)
        have HLD := Lib.hid (fun W (b : Below w.heap.size w W) => pload_any fr a2 cap2 n l W (HNM.out W b) (HACT.out W b) HWI.out HL.out (by have := HN20.out; omega))
        have HRW := Lib.hid (fun W (b : Below w.heap.size w W) => rwrong_any fr a2 cap2 n l W (HACT.out W b) HWI.out HL.out (by have := HN20.out; omega))
        obtain ⟨q, hq⟩ : ∃ q, mkW fr l = q := ⟨_, rfl⟩
        obtain ⟨k, hk⟩ : ∃ k, (wrP fr l).1 = k := ⟨_, rfl⟩
        obtain ⟨i, hi⟩ : ∃ i, (wrP fr l).2 = i := ⟨_, rfl⟩
        rw [hq] at m1 m2 m3 m4 HMK HSD
        rw [hk] at hwr m1 m5 m6 HLD HRW
        rw [hi] at m3 HRW
        rw [if_neg hwr] at HLD
        obtain ⟨m, hm⟩ : ∃ m, max i 0 = m := ⟨_, rfl⟩
        rw [hm] at m3
        have HLW := Lib.hid (fun W => lwrong_any i (k : Int) W)
        rw [hm] at HLW
        unfold fltV at HLW
        have HOF : Hid (∀ x W, IsFault W x q.2 (q.1 : Nat) → Calls Tryd.prog 12 #[x] W fun e w' => e = .returned (.agg #[.int .i64 (k : Int), .int .i64 0, .int .i64 m]) ∧ Below W.heap.size W w') := fun x W h => by
          have h2 := of_any x q.2 (q.1 : Nat) W h m4
          rw [m2, m3, m1] at h2
          exact h2
        have hq1 : ¬ q.1 = 0 := by rw [m1]; exact hwr
        have HQ1 := Lib.hid hq1
        have hkn : (((k : Nat) : Int) != 0) = true := by simp [hwr]
        have hef : ∀ wx : World, (Op.equalIn 10000 40 (.agg #[.int .i64 (k : Int), .int .i64 0, .int .i64 m]) (.agg #[.int .i64 (k : Int), .int .i64 0, .int .i64 m])).run Tryd.prog wx = .ok true wx := eq_flt (k : Int) 0 m
        clear m1 m2 m3 m4 m5 m6 hq hk hi hm hwr hq1
        go_enter Tryd.func3, Tryd.ntmps3
        go_wp2_with fail
        refine HMK.out.mono ?_
        rintro e W1 ⟨V, x, rfl, hbad, _, hb1⟩
        obtain ⟨rfl, hflt⟩ := hbad HQ1.out
        have HB1 := Lib.hid hb1
        have HFA := Lib.hid (fun W (b : Below W1.heap.size W1 W) => HOF.out x W (hflt.kept b))
        clear hbad hflt hb1 HMK
        go_wp2_with fail
        refine (HSD.out W1 HB1.out).mono ?_
        rintro e W2 ⟨a, x2, rfl, hbad, _, hb2⟩
        obtain ⟨rfl, hflt⟩ := hbad HQ1.out
        have HFB := Lib.hid (fun W (b : Below W2.heap.size W2 W) => HOF.out x2 W (hflt.kept b))
        have HB12 := Lib.hid hb2
        have hb3 : Below W2.heap.size W2 (W2.alloc (.cells #[.int .i64 0, .int .i64 0, .slice none 0 0, .slice none 0 0] 31)) := (Below.refl _ _).alloc (Nat.le_refl _) _
        have hx3 := heap_alloc_new W2 (.cells #[.int .i64 0, .int .i64 0, .slice none 0 0, .slice none 0 0] 31)
        have HB23 := Lib.hid hb3
        have HX3 := Lib.hid hx3
        have HBW3 := Lib.hid ((HB1.out.trans (hb2.mono HB1.out.size)).trans (hb3.mono (HB1.out.trans (hb2.mono HB1.out.size)).size))
        clear hbad hflt hb2 hb3 hx3 HSD
        go_wp2_with fail
        obtain ⟨Q, hQ⟩ : ∃ Q, W2.heap.size = Q := ⟨_, rfl⟩
        obtain ⟨W3, hW3⟩ : ∃ X, W2.alloc (.cells #[.int .i64 0, .int .i64 0, .slice none 0 0, .slice none 0 0] 31) = X := ⟨_, rfl⟩
        rw [hW3, hQ] at HX3
        rw [hW3] at HB23 HBW3
        try rw [hW3]
        try rw [hQ]
        clear hW3
        refine (HLD.out W3 HBW3.out).mono ?_
        rintro e W4 ⟨rfl, hb4⟩
        have HB34 := Lib.hid hb4
        have HBW4 := Lib.hid (HBW3.out.trans (hb4.mono HBW3.out.size))
        clear hb4 HLD
        go_wp2_with fail
        refine (HRW.out W4 HBW4.out).mono ?_
        rintro e W5 ⟨rfl, hb5⟩
        have HB35 := Lib.hid (HB34.out.trans (hb5.mono HB34.out.size))
        have HBW5 := Lib.hid (HBW4.out.trans (hb5.mono HBW4.out.size))
        have HB25 := Lib.hid (HB23.out.trans (HB35.out.mono HB23.out.size))
        have HB15 := Lib.hid (HB12.out.trans (HB25.out.mono HB12.out.size))
        have HX5 := Lib.hid ((HB35.out.block _ (lt_of_block HX3.out)).trans HX3.out)
        clear hb5 HRW
        go_wp2_with fail
        refine (HFA.out W5 HB15.out).mono ?_
        rintro e W6 ⟨rfl, hb6⟩
        have HB56 := Lib.hid hb6
        clear hb6
        go_wp2_with fail
        refine (HLW.out W6).mono ?_
        rintro e W7 ⟨rfl, hb7⟩
        have HB57 := Lib.hid (HB56.out.trans (hb7.mono HB56.out.size))
        have HX7 := Lib.hid ((HB57.out.block _ (lt_of_block HX5.out)).trans HX5.out)
        have y1 : W7.cell? ⟨Q, 1, none⟩ = some (.int .i64 0) := by rw [cell_of_row _ _ _ _ _ _ HX7.out]; rfl
        clear hb7
        go_wp2_with fail
        refine (HFB.out W7 (HB25.out.trans (HB57.out.mono HB25.out.size))).mono ?_
        rintro e W8 ⟨rfl, hb8⟩
        have HB58 := Lib.hid (HB57.out.trans (hb8.mono HB57.out.size))
        clear hb8 y1
        go_wp2_with fail
        refine (HLW.out W8).mono ?_
        rintro e W9 ⟨rfl, hb9⟩
        have HB59 := Lib.hid (HB58.out.trans (hb9.mono HB58.out.size))
        have HBW9 := Lib.hid (HBW5.out.trans (HB59.out.mono HBW5.out.size))
        have HA9 := Lib.hid (HAW.out W9 HBW9.out)
        clear hb9
        go_wp2_with (go_at_call 7; refine HA9.out.mono ?_; rintro e W10 ⟨rfl, hb10⟩; have HB10 := Lib.hid (HBW9.out.trans (hb10.mono HBW9.out.size)); clear hb10)
        go_ret
        exact ⟨rfl, HB10.out⟩

end Go.Proofs.YtpjillclladjaaaDoor.planMakes
