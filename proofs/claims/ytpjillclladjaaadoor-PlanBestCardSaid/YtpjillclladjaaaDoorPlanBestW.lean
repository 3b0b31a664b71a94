
/- The function PlanBest returns true for every two slices of numbers. Condition: the package-level variables hold what the program lays in them (the card ties that). This text: the walk through the Go text; the row is in the text without the W at its name's end. -/

import Derived.Test.YtpjillclladjaaaDoorArgs

import Derived.Test.YtpjillclladjaaaDoorPlnL

import Derived.Test.YtpjillclladjaaaDoorPlnN

import Derived.BigQuiet

namespace Go.Proofs.YtpjillclladjaaaDoor.planBest

open Go.RowKit Go.PlainAid Go.Proofs.YtpjillclladjaaaDoor.Args

set_option linter.unusedVariables false

open Go.Proofs.YtpjillclladjaaaDoor.Flt Go.Proofs.YtpjillclladjaaaDoor.Rdr Go.Proofs.YtpjillclladjaaaDoor.Oct Go.Proofs.YtpjillclladjaaaDoor.Win Go.Proofs.YtpjillclladjaaaDoor.Nee Go.Proofs.YtpjillclladjaaaDoor.Pln

open Go.Proofs.YtpjillclladjaaaDoor.Act (A3 ActsAt I64 Wide flatA flatA_snoc)

set_option linter.unusedSimpArgs false

def PbRel (ws ps : List Int) (m : Nat) (w : World) (v i : Value) (W : World) : Prop :=
  ∃ (k : Nat) (A : Option Addr) (c : Nat), k ≤ m ∧ i = .int .i64 (k : Int) ∧ v = .slice A k c ∧ (∀ j, j < k → 1 ≤ vz ps j ∧ ((ws.length : Nat) : Int) % vz ps j = 0) ∧ W.ownsRow w.heap.size 44 3 (.slice A k c) k (flatA (ndsB ws ps k)) ∧ Below w.heap.size w W
def PgRel (m : Nat) (w : World) (i : Value) (W : World) : Prop := ∃ k : Nat, k ≤ m ∧ i = .int .i64 (k : Int) ∧ Below w.heap.size w W
theorem infoNeed2 : (Tryd.prog.info? 44).map (fun i => (i.zero, i.size, i.bytes)) = some (some (.agg #[.int .i64 0, .int .i64 0, .int .i64 0]), 3, 24) := by kernel_rfl
theorem row_needs {w : World} {B c n : Nat} {A : Option Addr} {l : List A3} (h : w.ownsRow B 44 3 (.slice A n c) n (flatA l)) (hn : l.length = n) : ActsAt w A l := by
  subst hn
  intro i x hx
  have hi : i < l.length := (List.getElem?_eq_some_iff.1 hx).1
  have hA : ∃ G, A = some ⟨G, 0, none⟩ := by
    rcases h.2 with ⟨_, h0⟩ | ⟨g, cap, cur, e, _⟩
    · omega
    · cases e; exact ⟨g, rfl⟩
  obtain ⟨G, rfl⟩ := hA
  have e : (Addr.mk G 0 none).add (i * 3) = ⟨G, i * 3, none⟩ := by
    rcases Nat.eq_zero_or_pos (i * 3) with h0 | h0
    · rw [h0]; simp [Addr.add]
    · simp [Addr.add]; omega
  refine ⟨_, rfl, ?_, ?_, ?_⟩
  · have := h.cellAt (i * 3 + 0) (by omega)
    rw [Go.Proofs.YtpjillclladjaaaDoor.Act.flatA_get l i x 0 hx (by omega)] at this
    rw [e]; exact this
  · have := h.cellAt (i * 3 + 1) (by omega)
    rw [Go.Proofs.YtpjillclladjaaaDoor.Act.flatA_get l i x 1 hx (by omega)] at this
    rw [e]; exact this
  · have := h.cellAt (i * 3 + 2) (by omega)
    rw [Go.Proofs.YtpjillclladjaaaDoor.Act.flatA_get l i x 2 hx (by omega)] at this
    rw [e]; exact this
theorem wat_zat {W : World} {b o : Nat} {xs : List Int} (h : ∀ j, j < xs.length → W.cell? ⟨b, o + j, none⟩ = some (.int .i64 (vz xs j))) : ZAt W ⟨b, o, none⟩ xs := fun j v hv => by
  have hj := (List.getElem?_eq_some_iff.1 hv).1
  rw [show (Addr.mk b o none).add j = ⟨b, o + j, none⟩ from by cases j <;> simp [Addr.add], h j hj, vz_of hv]
/-- r14.Least of a row. -/
theorem least_wat (P : Option Addr) (pc n : Nat) (xs : List Int) (z p : Int) (W : World) (h : WAt W P xs) (hn : xs.length = n) (h1 : 1 ≤ n) (hl : n ≤ 1048576) (hp : 1 ≤ p) (hd : ((n : Nat) : Int) % p = 0) :
    Calls Tryd.prog 21 #[.slice P n pc, .int .i64 z, .int .i64 p] W fun e w' => e = .returned (.int .i64 (minC z xs p.toNat p.toNat (n / p.toNat) : Nat)) ∧ w' = W := by
  obtain ⟨b, o, rfl, hc⟩ := wat_addr h (by omega)
  obtain ⟨q, rfl⟩ : ∃ q : Nat, p = (q : Int) := ⟨p.toNat, by omega⟩
  have hm := part_mul (n := n) (p := q) (by omega) hd
  have hqn : q ≤ n := by
    rcases Nat.lt_or_ge n q with h2 | h2
    · rw [Nat.div_eq_of_lt h2] at hm; omega
    · exact h2
  have hh := rleast_any z xs ⟨b, o, none⟩ q (n / q) pc W (wat_zat hc) (by rw [hm]; exact hn) (by omega) (by rw [hm]; omega) (by omega)
  rw [hm] at hh
  refine hh.mono ?_
  rintro e w' ⟨rfl, rfl⟩
  exact ⟨rfl, rfl⟩
set_option maxRecDepth 8000 in
set_option maxHeartbeats 6400000 in
theorem walk (a0 : Option Addr) (len0 cap0 : Nat) (z0 : List Int) (a1 : Option Addr) (len1 cap1 : Nat) (z1 : List Int) (w : World) (w0 : IsRow .i64 w a0 len0 cap0 z0) (w1 : IsRow .i64 w a1 len1 cap1 z1) (hn : Go.Proofs.YtpjillclladjaaaDoor.Flt.Names w) :
    Calls Tryd.prog 4 #[.slice a0 len0 cap0, .slice a1 len1 cap1] w fun e w' => e = .returned (.bool true) ∧ Below w.heap.size w w' := by
  obtain ⟨hwat, hlen, hmx, _⟩ := wat_row w0
  obtain ⟨hpat, hplen, hpmx, hp64⟩ := wat_row w1
  obtain ⟨ws, hl⟩ : ∃ l, z0.take len0 = l := ⟨_, rfl⟩
  obtain ⟨ps, hpl⟩ : ∃ l, z1.take len1 = l := ⟨_, rfl⟩
  rw [hl] at hwat hlen
  rw [hpl] at hpat hplen hp64
  obtain ⟨n, hn0⟩ : ∃ n, len0 = n := ⟨_, rfl⟩
  obtain ⟨m, hm0⟩ : ∃ n, len1 = n := ⟨_, rfl⟩
  rw [hn0] at hlen hmx
  rw [hm0] at hplen hpmx
  rw [hn0, hm0]
  obtain ⟨i0, hi, hz0, hz1, hz2⟩ := info_parts infoNeed2
  have HNM := Lib.hid (fun W (b : Below w.heap.size w W) => hn.kept b)
  have HAW := Lib.hid (fun W (b : Below w.heap.size w W) => awake32 W (HNM.out W b))
  have HA0 := Lib.hid (HAW.out w (Below.refl _ _))
  have HWW := Lib.hid (fun W (b : Below w.heap.size w W) => hwat.kept b)
  have HWP := Lib.hid (fun W (b : Below w.heap.size w W) => hpat.kept b)
  have HP64 := Lib.hid hp64
  have HMX : Hid (n ≤ maxLen ∧ m ≤ maxLen) := ⟨hmx, hpmx⟩
  have HN := Lib.hid hlen
  have HM := Lib.hid hplen
  clear w0 w1 hn hl hpl hwat hpat hlen hplen hmx hpmx hn0 hm0 hp64
  by_cases hbig : 60 < n
  · have t1 : decide ((60 : Int) < (n : Int)) = true := decide_eq_true (by omega)
    have t2 : decide (60 < n) = true := decide_eq_true hbig
    go_enter Tryd.func4, Tryd.ntmps4
    go_wp2_with (go_at_call 7; refine HA0.out.mono ?_; rintro e w9 ⟨rfl, hb9⟩; have HB9 := Lib.hid hb9; clear hb9)
    go_ret
    exact ⟨rfl, HB9.out⟩
  · have t1 : decide ((60 : Int) < (n : Int)) = false := decide_eq_false (by omega)
    have t2 : decide (60 < n) = false := decide_eq_false hbig
    rcases Nat.eq_zero_or_pos n with hz | hz
    · subst hz
      go_enter Tryd.func4, Tryd.ntmps4
      go_wp2_with (go_at_call 7; refine HA0.out.mono ?_; rintro e w9 ⟨rfl, hb9⟩; have HB9 := Lib.hid hb9; clear hb9)
      go_ret
      exact ⟨rfl, HB9.out⟩
    · have t3 : ((n : Int) == 0) = false := by simp; omega
      have t4 : (n == 0) = false := by simp; omega
      have t5 : ¬ n = 0 := by omega
      by_cases hbm : 8 < m
      · have t6 : decide ((8 : Int) < (m : Int)) = true := decide_eq_true (by omega)
        have t7 : decide (8 < m) = true := decide_eq_true hbm
        go_enter Tryd.func4, Tryd.ntmps4
        go_wp2_with (go_at_call 7; refine HA0.out.mono ?_; rintro e w9 ⟨rfl, hb9⟩; have HB9 := Lib.hid hb9; clear hb9)
        go_ret
        exact ⟨rfl, HB9.out⟩
      · have t6 : decide ((8 : Int) < (m : Int)) = false := decide_eq_false (by omega)
        have t7 : decide (8 < m) = false := decide_eq_false hbm
        have HL : Hid (1 ≤ n ∧ n ≤ 60 ∧ m ≤ 8) := ⟨hz, by omega, by omega⟩
        have HS0 : Hid (PbRel ws ps m w (.slice none 0 0) (.int .i64 0) w) := ⟨0, none, 0, Nat.zero_le _, rfl, rfl, fun j hj => by omega, World.ownsRow_nil _ _ _ _, Below.refl _ _⟩
        clear HA0
        go_enter Tryd.func4, Tryd.ntmps4
        go_wp2_with fail
        clear hbig t1 t2 hz t3 t4 t5 hbm t6 t7
        go_loopw [5, 28] (fun v i W => PbRel ws ps m w v i W) (fun _ i _ => m - (intOf i).toNat)
        case atStart => exact HS0.out
        case round =>
          obtain ⟨W0, hW0⟩ : ∃ X, wr = X := ⟨_, rfl⟩
          rw [hW0] at hrel
          rw [hW0]
          clear hW0 wr HS0
          obtain ⟨k, A, c, hk, rfl, rfl, hps, ho, hb⟩ := hrel
          have HPS := Lib.hid hps
          have HO := Lib.hid ho
          have HB := Lib.hid hb
          have hll := HL.out
          clear hps ho hb
          by_cases hlt : k < m
          · obtain ⟨y, rfl, c0⟩ := HWP.out W0 HB.out k (by rw [HM.out]; exact hlt)
            have hp6 := HP64.out (vz ps k) (List.mem_of_getElem? (vz_at (by rw [HM.out]; exact hlt)))
            have hsn := ndsB_snoc ws ps k
            have hnb : ndB ws ps k = ⟨(k : Int), vz ps k, (minC (k : Int) ws (vz ps k).toNat (vz ps k).toNat (ws.length / (vz ps k).toNat) : Nat)⟩ := rfl
            have hpk : ∀ (h1 : 1 ≤ vz ps k) (h2 : ((ws.length : Nat) : Int) % vz ps k = 0), ∀ j, j < k + 1 → 1 ≤ vz ps j ∧ ((ws.length : Nat) : Int) % vz ps j = 0 := fun h1 h2 j hj => by
              rcases Nat.lt_or_ge j k with h | h
              · exact HPS.out j h
              · obtain rfl : j = k := by omega
                exact ⟨h1, h2⟩
            rw [hnb] at hsn
            rw [HN.out] at hsn hpk
            obtain ⟨p, hp⟩ : ∃ p, vz ps k = p := ⟨_, rfl⟩
            rw [hp] at c0 hsn hpk hp6
            have hki : (0 : Int) ≤ k := by omega
            have hkb : (k : Int) < m := by omega
            have hk1 : IntKind.i64.wrap ((k : Int) + 1) = (k : Int) + 1 := IntWalk.i64_in _ (by omega)
            have HAX := Lib.hid (HAW.out W0 HB.out)
            have HPK := Lib.hid hpk
            have HSN := Lib.hid hsn
            have HKM : Hid (k < m) := hlt
            clear hp hpk hsn hnb hk
            by_cases q1 : p < 1
            · go_wp2_with (go_at_call 7; refine HAX.out.mono ?_; rintro e w9 ⟨rfl, hb9⟩; have HB9 := Lib.hid (HB.out.trans (hb9.mono HB.out.size)); clear hb9)
              go_ret
              exact ⟨rfl, HB9.out⟩
            · have hm := Int.tmod_eq_emod_of_nonneg (a := ((n : Nat) : Int)) (b := p) (by omega)
              have hq0 := Int.emod_nonneg ((n : Nat) : Int) (show p ≠ 0 by omega)
              have hq1 := Int.emod_lt_of_pos ((n : Nat) : Int) (show 0 < p by omega)
              have hq2 := Int.emod_add_mul_ediv ((n : Nat) : Int) p
              have hq3 := Int.mul_nonneg (show 0 ≤ p by omega) (Int.ediv_nonneg (show (0 : Int) ≤ (n : Int) by omega) (show 0 ≤ p by omega))
              obtain ⟨q, hq⟩ : ∃ q, ((n : Nat) : Int) % p = q := ⟨_, rfl⟩
              rw [hq] at hm hq0 hq1 hq2
              have hqw : IntKind.i64.wrap q = q := IntWalk.i64_in _ (by omega)
              have hp0 : ¬ p = 0 := by omega
              have hp1 : (p == 0) = false := by simp [hp0]
              clear hq1 hq2 hq3
              by_cases q2 : q = 0
              · subst q2
                have t9 : ((0 : Int) != 0) = false := rfl
                have HLE := Lib.hid (least_wat a0 cap0 n ws (k : Int) p W0 (HWW.out W0 HB.out) HN.out hll.1 (by omega) (by omega) hq)
                obtain ⟨bu, hbu⟩ : ∃ b : Nat, minC (k : Int) ws p.toNat p.toNat (n / p.toNat) = b := ⟨_, rfl⟩
                rw [hbu] at HLE HSN
                obtain ⟨BU, hBU⟩ : ∃ B : Int, ((bu : Nat) : Int) = B := ⟨_, rfl⟩
                rw [hBU] at HLE HSN
                have HPN := Lib.hid (HPK.out (by omega) hq)
                have hba : Below W0.heap.size W0 (W0.alloc (.cells #[.int .i64 (k : Int), .int .i64 p, .int .i64 BU] 44)) := (Below.refl _ _).alloc (Nat.le_refl _) _
                have HOA := Lib.hid (owns_kept HO.out hba)
                have HBA := Lib.hid (HB.out.trans (hba.mono HB.out.size))
                have HNB := Lib.hid (heap_alloc_new W0 (.cells #[.int .i64 (k : Int), .int .i64 p, .int .i64 BU] 44))
                clear hba HO HB hbu hBU hq HPK hq0 HAX
                go_wp2_with (first | (go_at_call 21; refine HLE.out.mono ?_; rintro e w5 ⟨rfl, rfl⟩) | (at_builtin; refine wpList_append_own _ rfl _ _ 22 rfl w.heap.size 44 i0 (.agg #[.int .i64 0, .int .i64 0, .int .i64 0]) 3 24 Tryd.underlying22 hi hz0 hz1 hz2 rfl (by decide) _ k _ rfl HOA.out ⟨w5.heap.size, 0, none⟩ 1 1 [.int .i64 (k : Int), .int .i64 p, .int .i64 BU] rfl rfl ?c1 ?c2 ?c3 ?c4 ?c5 ?_))
                case c1 =>
                  intro j u hj
                  have e : (Addr.mk w5.heap.size 0 none).add j = ⟨w5.heap.size, j, none⟩ := by cases j <;> simp [Addr.add]
                  rw [e, cell_of_row _ _ _ _ _ _ HNB.out, ← hj]
                  simp
                case c2 => first | exact one3W _ _ _ | exact ⟨rfl, rfl, rfl⟩
                case c3 => have := HKM.out; unfold maxLen; omega
                case c4 => have := HKM.out; omega
                case c5 => first | exact HBA.out.size | (simpa using HBA.out.size)
                intro v' w8 ho8 hg8 _
                obtain ⟨A9, c9, rfl⟩ := row_slice3 ho8
                have HO8 := Lib.hid ho8
                have HB8 : Hid (Below w.heap.size w w8) := HBA.out.grown hg8 HBA.out.size (fun q hq => (HOA.out.lt q hq).1)
                clear ho8 hg8 HOA HBA HNB HLE
                go_wp2
                go_roundw
                case rel => exact ⟨k + 1, A9, c9, by have := HKM.out; omega, by go_num, rfl, by rw [HN.out]; exact HPN.out, by rw [HSN.out, flatA_snoc]; exact HO8.out, HB8.out⟩
                case measure => have := HKM.out; simp [intOf]; omega
              · have t9 : (q != 0) = true := by simp [q2]
                go_wp2_with (go_at_call 7; refine HAX.out.mono ?_; rintro e w9 ⟨rfl, hb9⟩; have HB9 := Lib.hid (HB.out.trans (hb9.mono HB.out.size)); clear hb9)
                go_ret
                exact ⟨rfl, HB9.out⟩
          · obtain rfl : k = m := by omega
            have hok := best_ok ws ps k (by omega) (by rw [HN.out]; omega) HPS.out
            rw [HN.out] at hok
            have hat := row_needs HO.out (ndsB_len ws ps k)
            have hwd : ∀ x ∈ ndsB ws ps k, Wide x := fun x hx => by
              obtain ⟨j, hj, rfl⟩ := List.mem_map.1 hx
              have hj2 : j < k := List.mem_range.1 hj
              have h6 := HP64.out (vz ps j) (List.mem_of_getElem? (vz_at (by rw [HM.out]; exact hj2)))
              have h7 := minC_le (j : Int) ws (vz ps j).toNat (vz ps j).toNat (ws.length / (vz ps j).toNat)
              have h8 := (HPS.out j hj2).1
              unfold I64 at h6
              refine ⟨?_, ?_, ?_⟩
              · show I64 (j : Int); unfold I64; omega
              · exact HP64.out (vz ps j) (List.mem_of_getElem? (vz_at (by rw [HM.out]; exact hj2)))
              · show I64 ((minC (j : Int) ws (vz ps j).toNat (vz ps j).toNat (ws.length / (vz ps j).toNat) : Nat) : Int)
                unfold I64; omega
            have HMK := Lib.hid (make_any (n : Int) A c k (ndsB ws ps k) W0 (HNM.out W0 HB.out) hat hwd (ndsB_len ws ps k) (by omega))
            have HOK := Lib.hid hok
            clear hok hat hwd hlt hk
            go_wp2_with fail
            refine HMK.out.mono ?_
            rintro e W2 ⟨V, x, rfl, _, hgood, hb2⟩
            obtain ⟨rfl, A2, c2, rfl, ho2⟩ := hgood (by rw [HOK.out.1])
            simp only [Int.toNat_natCast] at ho2
            have HB2 := Lib.hid (HB.out.trans (hb2.mono HB.out.size))
            have HO2 := Lib.hid (owns_kept HO.out hb2)
            have HWG := Lib.hid (wat_own ho2 (run_len _ _))
            clear ho2 hb2 hgood HMK HO
            simp only [Int.toNat_natCast]
            have HS1 : Hid (PgRel k W2 (.int .i64 0) W2) := ⟨0, Nat.zero_le _, rfl, Below.refl _ _⟩
            go_wp2_with fail
            go_loopw [72] (fun i W => PgRel k W2 i W) (fun i _ => k - (intOf i).toNat)
            case atStart => exact HS1.out
            case round =>
              obtain ⟨W0', hW0⟩ : ∃ X, wr = X := ⟨_, rfl⟩
              rw [hW0] at hrel
              rw [hW0]
              clear hW0 wr HS1
              obtain ⟨j, hj, rfl, hb⟩ := hrel
              have HB3 := Lib.hid hb
              clear hb
              by_cases hjt : j < k
              · obtain ⟨ax, rfl, g0, g1, g2⟩ := (row_needs (owns_kept HO2.out HB3.out) (ndsB_len ws ps k)) j _ (ndsB_get ws ps hjt)
                have hmn := HOK.out.2 j hjt
                obtain ⟨hp1, hp2⟩ := HPS.out j hjt
                rw [HN.out] at hp2
                have hps : (ndB ws ps j).p = vz ps j := rfl
                have hss : (ndB ws ps j).s = (j : Int) := rfl
                have HLE2 : Hid (∀ W, Below W2.heap.size W2 W → Calls Tryd.prog 21 #[.slice A2 n c2, .int .i64 (j : Int), .int .i64 (vz ps j)] W fun e w' => e = .returned (.int .i64 (minC (j : Int) (runR (ndsB ws ps k) n).2 (vz ps j).toNat (vz ps j).toNat (n / (vz ps j).toNat) : Nat)) ∧ ∃ d, w' = W.drewN d) := fun W b =>
                  (least_wat A2 c2 n (runR (ndsB ws ps k) n).2 (j : Int) (vz ps j) W (HWG.out.kept b) (run_len _ _) HL.out.1 (by have := HL.out; omega) hp1 hp2).mono (by rintro e w' ⟨rfl, rfl⟩; exact ⟨rfl, 0, rfl⟩)
                rw [hps] at g1
                rw [hss] at g0
                obtain ⟨mn, hmm⟩ : ∃ b : Nat, minC (j : Int) (runR (ndsB ws ps k) n).2 (vz ps j).toNat (vz ps j).toNat (n / (vz ps j).toNat) = b := ⟨_, rfl⟩
                rw [hmm] at hmn HLE2
                obtain ⟨p, hp⟩ : ∃ p, vz ps j = p := ⟨_, rfl⟩
                rw [hp] at g1 HLE2
                obtain ⟨bu, hbu⟩ : ∃ p, (ndB ws ps j).a = p := ⟨_, rfl⟩
                rw [hbu] at g2 hmn
                have t8 : decide ((mn : Int) < bu) = false := decide_eq_false (by omega)
                have t9 : ¬ (mn : Int) < bu := by omega
                have hji : (0 : Int) ≤ j := by omega
                have hjb : (j : Int) < k := by omega
                have hj1 : IntKind.i64.wrap ((j : Int) + 1) = (j : Int) + 1 := IntWalk.i64_in _ (by have := HL.out; omega)
                have hb1 : Below W0'.heap.size W0' (W0'.alloc (.cells #[.int .i64 (j : Int), .int .i64 p, .int .i64 bu] 44)) := (Below.refl _ _).alloc (Nat.le_refl _) _
                have hx1 := heap_alloc_new W0' (.cells #[.int .i64 (j : Int), .int .i64 p, .int .i64 bu] 44)
                have HB4 := Lib.hid (HB3.out.trans (hb1.mono HB3.out.size))
                have HX1 := Lib.hid hx1
                have HJK : Hid (j < k) := hjt
                clear hmn hp1 hp2 hps hss hmm hp hbu hb1 hx1 hjt hj
                go_upto_region 17 with fail
                obtain ⟨Q, hQ⟩ : ∃ Q, W0'.heap.size = Q := ⟨_, rfl⟩
                obtain ⟨W1, hW1⟩ : ∃ X, W0'.alloc (.cells #[.int .i64 (j : Int), .int .i64 p, .int .i64 bu] 44) = X := ⟨_, rfl⟩
                rw [hW1, hQ] at HX1
                rw [hW1] at HB4
                rw [hW1, hQ]
                have z0 : W1.cell? ⟨Q, 0, none⟩ = some (.int .i64 (j : Int)) := by rw [cell_of_row _ _ _ _ _ _ HX1.out]; rfl
                have z1 : W1.cell? ⟨Q, 1, none⟩ = some (.int .i64 p) := by rw [cell_of_row _ _ _ _ _ _ HX1.out]; rfl
                have z2 : W1.cell? ⟨Q, 2, none⟩ = some (.int .i64 bu) := by rw [cell_of_row _ _ _ _ _ _ HX1.out]; rfl
                have HLX : Hid (∀ q, Calls Tryd.prog 21 #[.slice A2 n c2, .int .i64 (j : Int), .int .i64 p] (W1.drewN q) fun e w' => e = .returned (.int .i64 (mn : Nat)) ∧ ∃ d, w' = (W1.drewN q).drewN d) := fun q => HLE2.out (W1.drewN q) ⟨HB4.out.os, HB4.out.tape, HB4.out.output, HB4.out.size, HB4.out.block⟩
                clear hW1 hQ g0 g1 g2
                go_quiet (first | (go_at_call 21; exact Calls.quiet_of (HLX.out _)) | fail)
                go_wp2
                go_roundw
                case rel => exact ⟨j + 1, by have := HJK.out; omega, by go_num, ⟨HB4.out.os, HB4.out.tape, HB4.out.output, HB4.out.size, HB4.out.block⟩⟩
                case measure => have := HJK.out; simp [intOf]; omega
              · obtain rfl : j = k := by omega
                have HB5 := Lib.hid (HB2.out.trans (HB3.out.mono HB2.out.size))
                have HA5 := Lib.hid (HAW.out W0' HB5.out)
                go_wp2_with (go_at_call 7; refine HA5.out.mono ?_; rintro e w9 ⟨rfl, hb9⟩; have HB9 := Lib.hid (HB5.out.trans (hb9.mono HB5.out.size)); clear hb9)
                go_ret
                exact ⟨rfl, HB9.out⟩

end Go.Proofs.YtpjillclladjaaaDoor.planBest
