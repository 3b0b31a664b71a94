
/- The function PlanWords returns true for every slice of numbers and every id. Condition: the package-level variables hold what the program lays in them (the card ties that). This text: the walk through the Go text; the row is in the text without the W at its name's end. -/

import Derived.Test.YtpjillclladjaaaDoorArgs

import Derived.Test.YtpjillclladjaaaDoorPlnL

import Derived.BigQuiet

namespace Go.Proofs.YtpjillclladjaaaDoor.planWords

open Go.RowKit Go.PlainAid Go.Proofs.YtpjillclladjaaaDoor.Args

set_option linter.unusedVariables false

open Go.Proofs.YtpjillclladjaaaDoor.Flt Go.Proofs.YtpjillclladjaaaDoor.Rdr Go.Proofs.YtpjillclladjaaaDoor.Oct Go.Proofs.YtpjillclladjaaaDoor.Win Go.Proofs.YtpjillclladjaaaDoor.Nee Go.Proofs.YtpjillclladjaaaDoor.Pln

open Go.Proofs.YtpjillclladjaaaDoor.Act (A3 ActsAt I64 Wide)

set_option linter.unusedSimpArgs false

def OwO (id : Int) (l : List Int) (n : Nat) (w : World) (s f i : Value) (W : World) : Prop :=
  ∃ k : Nat, k ≤ n ∧ i = .int .i64 (k : Int) ∧ s = .int .i64 (swc l k : Nat) ∧ f = .int .i64 (bestD id l k : Nat) ∧ Below w.heap.size w W
theorem best_in (z : Int) (ws : List Int) (k : Nat) (h : k ≤ ws.length) : bestD z ws k ≤ ws.length :=
  bestD_le z ws _ k fun t ht => by
    have := lead_len z (rotZ ws t)
    rw [rot_len ws t (by omega)] at this
    exact this
def OwI (z : Int) (ws : List Int) (n k : Nat) (v : Value) : Prop := ∃ d : Nat, d ≤ n ∧ v = .int .i64 (d : Int) ∧ ∀ j, j < d → (rotZ ws k)[j]? ≠ some z
set_option maxRecDepth 8000 in
set_option maxHeartbeats 6400000 in
theorem walk (a0 : Option Addr) (len0 cap0 : Nat) (z0 : List Int) (a1 : Int) (w : World) (w0 : IsRow .i64 w a0 len0 cap0 z0) (w1 : (Lit.int .i64 a1).wf = true) (hn : Go.Proofs.YtpjillclladjaaaDoor.Flt.Names w) :
    Calls Tryd.prog 5 #[.slice a0 len0 cap0, .int .i64 a1] w fun e w' => e = .returned (.bool true) ∧ Below w.heap.size w w' := by
  obtain ⟨hwat, hlen, hmx, _⟩ := wat_row w0
  obtain ⟨l, hl⟩ : ∃ l, z0.take len0 = l := ⟨_, rfl⟩
  rw [hl] at hwat hlen
  obtain ⟨n, hn0⟩ : ∃ n, len0 = n := ⟨_, rfl⟩
  obtain ⟨id, hid⟩ : ∃ id, a1 = id := ⟨_, rfl⟩
  rw [hn0] at hlen
  rw [hn0, hid]
  have HNM := Lib.hid (fun W (b : Below w.heap.size w W) => hn.kept b)
  have HAW := Lib.hid (fun W (b : Below w.heap.size w W) => awake32 W (HNM.out W b))
  by_cases hbig : 200 < n
  · have t1 : decide ((200 : Int) < (n : Int)) = true := decide_eq_true (by omega)
    have t2 : decide (200 < n) = true := decide_eq_true hbig
    have HA0 := Lib.hid (HAW.out w (Below.refl _ _))
    clear w0 w1 hn hl hwat hlen hmx hn0 hid HAW
    go_enter Tryd.func5, Tryd.ntmps5
    go_wp2_with (go_at_call 7; refine HA0.out.mono ?_; rintro e w9 ⟨rfl, hb9⟩; have HB9 := Lib.hid hb9; clear hb9)
    go_ret
    exact ⟨rfl, HB9.out⟩
  · have t1 : decide ((200 : Int) < (n : Int)) = false := decide_eq_false (by omega)
    have t2 : decide (200 < n) = false := decide_eq_false hbig
    have HL : Hid (n ≤ 200) := by show _ ≤ _; omega
    have HN := Lib.hid hlen
    have HW := Lib.hid (fun W (b : Below w.heap.size w W) => hwat.kept b)
    have HS0 : Hid (OwO id l n w (.int .i64 0) (.int .i64 0) (.int .i64 0) w) := ⟨0, Nat.zero_le _, rfl, rfl, rfl, Below.refl _ _⟩
    clear w0 w1 hn hl hwat hlen hmx hn0 hid
    go_enter Tryd.func5, Tryd.ntmps5
    go_wp2_with fail
    clear hbig t1 t2
    go_loopw [5, 6, 15] (fun s f i W => OwO id l n w s f i W) (fun _ _ i _ => n - (intOf i).toNat)
    case atStart => exact HS0.out
    case round =>
      obtain ⟨W0, hW0⟩ : ∃ X, wr = X := ⟨_, rfl⟩
      rw [hW0] at hrel
      rw [hW0]
      clear hW0 wr HS0
      obtain ⟨k, hk, rfl, rfl, rfl, hb⟩ := hrel
      have HB := Lib.hid hb
      have hll := HL.out
      have hwl := swc_le l k
      have hbi := best_in id l k (by rw [HN.out]; exact hk)
      rw [HN.out] at hbi
      clear hb
      by_cases hlt : k < n
      · obtain ⟨y, rfl, c0⟩ := HW.out W0 HB.out k (by rw [HN.out]; exact hlt)
        obtain ⟨y1, e1, c1⟩ := HW.out W0 HB.out (prevI l k) (prev_lt l k (by rw [HN.out]; exact hlt))
        obtain rfl := Option.some.inj e1
        have hst : swc l (k + 1) = swc l k + (if vz l k = vz l (prevI l k) then 0 else 1) := rfl
        have hbt : bestD id l (k + 1) = max (bestD id l k) (leadZ id (rotZ l k)) := rfl
        have hp : prevI l k = (k + n - 1) % n := by unfold prevI; rw [HN.out]
        have hpl : prevI l k < n := by have := prev_lt l k (by rw [HN.out]; exact hlt); rw [HN.out] at this; exact this
        obtain ⟨v, hv⟩ : ∃ v, vz l k = v := ⟨_, rfl⟩
        obtain ⟨u, hu⟩ : ∃ v, vz l (prevI l k) = v := ⟨_, rfl⟩
        obtain ⟨p, hpp⟩ : ∃ p, prevI l k = p := ⟨_, rfl⟩
        obtain ⟨b, hbb⟩ : ∃ b, swc l k = b := ⟨_, rfl⟩
        obtain ⟨fb, hfb⟩ : ∃ b, bestD id l k = b := ⟨_, rfl⟩
        rw [hbb] at hst hwl
        rw [hbb]
        rw [hfb] at hbt hbi
        rw [hfb]
        rw [hv] at hst c0
        rw [hu] at hst c1
        rw [hpp] at c1 hp hpl
        have HST := Lib.hid hst
        have HBT := Lib.hid hbt
        have hki : (0 : Int) ≤ k := by omega
        have hkb : (k : Int) < n := by omega
        have hk1 : IntKind.i64.wrap ((k : Int) + 1) = (k : Int) + 1 := IntWalk.i64_in _ (by omega)
        have hs1 : IntKind.i64.wrap ((k : Int) + (n : Int)) = (k : Int) + (n : Int) := IntWalk.i64_in _ (by omega)
        have hs2 : IntKind.i64.wrap ((k : Int) + (n : Int) - 1) = (k : Int) + (n : Int) - 1 := IntWalk.i64_in _ (by omega)
        have hm : Int.tmod ((k : Int) + (n : Int) - 1) (n : Int) = (p : Int) := by
          have e : (k : Int) + (n : Int) - 1 = ((k + n - 1 : Nat) : Int) := by omega
          rw [Int.tmod_eq_emod_of_nonneg (by omega), e, hp]; rfl
        have hqw : IntKind.i64.wrap (p : Int) = (p : Int) := IntWalk.i64_in _ (by omega)
        have hq0 : (0 : Int) ≤ p := by omega
        have hqn : (p : Int) < n := by omega
        have hn0 : ¬ n = 0 := by omega
        have hn1 : ¬ (n : Int) = 0 := by omega
        have hb1 : IntKind.i64.wrap ((b : Int) + 1) = (b : Int) + 1 := IntWalk.i64_in _ (by omega)
        have HKN : Hid (k < n ∧ n ≤ 200 ∧ fb ≤ n) := ⟨hlt, hll, hbi⟩
        obtain ⟨B2, hB2⟩ : ∃ B, swc l (k + 1) = B := ⟨_, rfl⟩
        have HNX : Hid (∀ (d : Nat) W, leadZ id (rotZ l k) = d → Below w.heap.size w W → OwO id l n w (.int .i64 (B2 : Nat)) (.int .i64 (max fb d : Nat)) (.int .i64 ((k : Int) + 1)) W) := fun d W h1 h2 => ⟨k + 1, by omega, by go_num, by rw [hB2], by rw [HBT.out, h1], h2⟩
        rw [hB2] at HST
        clear hst hbt hv hu hpp hbb hfb e1 hp hpl hwl hbi hk hB2
        have HIN : ∀ (W1 : World) (BV : Nat), True := fun _ _ => trivial
        by_cases q : v = u
        · have q1 : (v != u) = false := by simp [q]
          rw [if_pos q] at HST
          have HBB : Hid (B2 = b) := HST.out
          clear q HIN
          go_wp2_with fail
          go_quiet (fail)
          obtain ⟨W1, hW1⟩ : ∃ X, W0.drewN nq = X := ⟨_, rfl⟩
          have HB1 : Hid (Below w.heap.size w W1) := by show Below _ _ _; rw [← hW1]; exact ⟨HB.out.os, HB.out.tape, HB.out.output, HB.out.size, HB.out.block⟩
          rw [hW1]
          clear hW1 c0 c1
          have HWC := Lib.hid (HW.out W1 HB1.out)
          clear HB
          go_wp2_with fail
          go_loop [8] (fun v => OwI id l n k v) (fun v => n - (intOf v).toNat)
          case atStart => exact ⟨0, Nat.zero_le _, rfl, fun j hj => absurd hj (Nat.not_lt_zero _)⟩
          case round =>
            obtain ⟨d, hd, rfl, hno⟩ := hrel
            have hlt : k < n := HKN.out.1
            have hll : n ≤ 200 := HKN.out.2.1
            have hfbn : fb ≤ n := HKN.out.2.2
            have hrl := rot_len l k (by rw [HN.out]; omega)
            rw [HN.out] at hrl
            have hd1 : IntKind.i64.wrap ((d : Int) + 1) = (d : Int) + 1 := IntWalk.i64_in _ (by omega)
            by_cases hdn : d < n
            · have hrg := rot_get l k d (by rw [HN.out]; exact hlt) (by rw [HN.out]; exact hdn)
              rw [HN.out] at hrg
              have hql : (k + d) % n < n := Nat.mod_lt _ (by omega)
              obtain ⟨yy, ey, hc⟩ := HWC.out ((k + d) % n) (by rw [HN.out]; exact hql)
              obtain rfl := Option.some.inj ey
              have hv := vz_at (l := l) (i := (k + d) % n) (by rw [HN.out]; exact hql)
              rw [hv] at hrg
              obtain ⟨x, hx⟩ : ∃ x, vz l ((k + d) % n) = x := ⟨_, rfl⟩
              rw [hx] at hrg hc
              have hs : IntKind.i64.wrap ((k : Int) + (d : Int)) = ((k + d : Nat) : Int) := IntWalk.i64_in _ (by omega)
              have hm9 : Int.tmod ((k + d : Nat) : Int) (n : Int) = (((k + d) % n : Nat) : Int) := by rw [Int.tmod_eq_emod_of_nonneg (by omega)]; rfl
              obtain ⟨s, hse⟩ : ∃ s, k + d = s := ⟨_, rfl⟩
              rw [hse] at hs hm9 hc hql
              obtain ⟨q, hq⟩ : ∃ q, s % n = q := ⟨_, rfl⟩
              rw [hq] at hm9 hc hql
              have hqw2 : IntKind.i64.wrap (q : Int) = (q : Int) := IntWalk.i64_in _ (by omega)
              have hq02 : (0 : Int) ≤ q := by omega
              have hqn2 : (q : Int) < n := by omega
              have hdd : (d : Int) < n := by omega
              have hdec : decide ((d : Int) < n) = true := decide_eq_true hdd
              have hdec2 : decide (d < n) = true := decide_eq_true hdn
              clear hse hq hv hx ey
              by_cases hvz : x = id
              · have hvb2 : (x != id) = false := by simp [hvz]
                have hld : leadZ id (rotZ l k) = d := lead_is id _ d (by omega) hno (.inr (by rw [hrg, hvz]))
                have hmx : max (fb : Int) (d : Int) = ((max fb d : Nat) : Int) := by omega
                have HLD := Lib.hid hld
                clear hvz hld hno hrg hrl
                go_wp2
                go_roundw
                case rel => have h := HNX.out d W1 HLD.out HB1.out; rw [HBB.out] at h; exact h
                case measure => have := HKN.out; simp [intOf]; omega
              · have hvb2 : (x != id) = true := by simp [hvz]
                have HNO : Hid (∀ j, j < d + 1 → (rotZ l k)[j]? ≠ some id) := fun j hj => by
                  rcases Nat.lt_or_ge j d with h | h
                  · exact hno j h
                  · obtain rfl : j = d := by omega
                    rw [hrg]
                    exact fun e => hvz (Option.some.inj e)
                clear hvz hno hrg hrl
                go_wp2
                go_round
                case rel => exact ⟨d + 1, by omega, by go_num, HNO.out⟩
                case measure => simp [intOf]; omega
            · have hld : leadZ id (rotZ l k) = d := lead_is id _ d (by omega) hno (.inl (by omega))
              have hdec : decide ((d : Int) < n) = false := decide_eq_false (by omega)
              have hdec2 : decide (d < n) = false := decide_eq_false hdn
              have hmx : max (fb : Int) (d : Int) = ((max fb d : Nat) : Int) := by omega
              have HLD := Lib.hid hld
              clear hld hno hrl
              go_wp2
              go_roundw
              case rel => have h := HNX.out d W1 HLD.out HB1.out; rw [HBB.out] at h; exact h
              case measure => have := HKN.out; simp [intOf]; omega
        · have q1 : (v != u) = true := by simp [q]
          rw [if_neg q] at HST
          have HBB : Hid (B2 = b + 1) := HST.out
          clear q HIN
          go_wp2_with fail
          go_quiet (fail)
          obtain ⟨W1, hW1⟩ : ∃ X, W0.drewN nq = X := ⟨_, rfl⟩
          have HB1 : Hid (Below w.heap.size w W1) := by show Below _ _ _; rw [← hW1]; exact ⟨HB.out.os, HB.out.tape, HB.out.output, HB.out.size, HB.out.block⟩
          rw [hW1]
          clear hW1 c0 c1
          have HWC := Lib.hid (HW.out W1 HB1.out)
          clear HB
          go_wp2_with fail
          go_loop [8] (fun v => OwI id l n k v) (fun v => n - (intOf v).toNat)
          case atStart => exact ⟨0, Nat.zero_le _, rfl, fun j hj => absurd hj (Nat.not_lt_zero _)⟩
          case round =>
            obtain ⟨d, hd, rfl, hno⟩ := hrel
            have hlt : k < n := HKN.out.1
            have hll : n ≤ 200 := HKN.out.2.1
            have hfbn : fb ≤ n := HKN.out.2.2
            have hrl := rot_len l k (by rw [HN.out]; omega)
            rw [HN.out] at hrl
            have hd1 : IntKind.i64.wrap ((d : Int) + 1) = (d : Int) + 1 := IntWalk.i64_in _ (by omega)
            by_cases hdn : d < n
            · have hrg := rot_get l k d (by rw [HN.out]; exact hlt) (by rw [HN.out]; exact hdn)
              rw [HN.out] at hrg
              have hql : (k + d) % n < n := Nat.mod_lt _ (by omega)
              obtain ⟨yy, ey, hc⟩ := HWC.out ((k + d) % n) (by rw [HN.out]; exact hql)
              obtain rfl := Option.some.inj ey
              have hv := vz_at (l := l) (i := (k + d) % n) (by rw [HN.out]; exact hql)
              rw [hv] at hrg
              obtain ⟨x, hx⟩ : ∃ x, vz l ((k + d) % n) = x := ⟨_, rfl⟩
              rw [hx] at hrg hc
              have hs : IntKind.i64.wrap ((k : Int) + (d : Int)) = ((k + d : Nat) : Int) := IntWalk.i64_in _ (by omega)
              have hm9 : Int.tmod ((k + d : Nat) : Int) (n : Int) = (((k + d) % n : Nat) : Int) := by rw [Int.tmod_eq_emod_of_nonneg (by omega)]; rfl
              obtain ⟨s, hse⟩ : ∃ s, k + d = s := ⟨_, rfl⟩
              rw [hse] at hs hm9 hc hql
              obtain ⟨q, hq⟩ : ∃ q, s % n = q := ⟨_, rfl⟩
              rw [hq] at hm9 hc hql
              have hqw2 : IntKind.i64.wrap (q : Int) = (q : Int) := IntWalk.i64_in _ (by omega)
              have hq02 : (0 : Int) ≤ q := by omega
              have hqn2 : (q : Int) < n := by omega
              have hdd : (d : Int) < n := by omega
              have hdec : decide ((d : Int) < n) = true := decide_eq_true hdd
              have hdec2 : decide (d < n) = true := decide_eq_true hdn
              clear hse hq hv hx ey
              by_cases hvz : x = id
              · have hvb2 : (x != id) = false := by simp [hvz]
                have hld : leadZ id (rotZ l k) = d := lead_is id _ d (by omega) hno (.inr (by rw [hrg, hvz]))
                have hmx : max (fb : Int) (d : Int) = ((max fb d : Nat) : Int) := by omega
                have HLD := Lib.hid hld
                clear hvz hld hno hrg hrl
                go_wp2
                go_roundw
                case rel => have h := HNX.out d W1 HLD.out HB1.out; rw [HBB.out] at h; exact h
                case measure => have := HKN.out; simp [intOf]; omega
              · have hvb2 : (x != id) = true := by simp [hvz]
                have HNO : Hid (∀ j, j < d + 1 → (rotZ l k)[j]? ≠ some id) := fun j hj => by
                  rcases Nat.lt_or_ge j d with h | h
                  · exact hno j h
                  · obtain rfl : j = d := by omega
                    rw [hrg]
                    exact fun e => hvz (Option.some.inj e)
                clear hvz hno hrg hrl
                go_wp2
                go_round
                case rel => exact ⟨d + 1, by omega, by go_num, HNO.out⟩
                case measure => simp [intOf]; omega
            · have hld : leadZ id (rotZ l k) = d := lead_is id _ d (by omega) hno (.inl (by omega))
              have hdec : decide ((d : Int) < n) = false := decide_eq_false (by omega)
              have hdec2 : decide (d < n) = false := decide_eq_false hdn
              have hmx : max (fb : Int) (d : Int) = ((max fb d : Nat) : Int) := by omega
              have HLD := Lib.hid hld
              clear hld hno hrl
              go_wp2
              go_roundw
              case rel => have h := HNX.out d W1 HLD.out HB1.out; rw [HBB.out] at h; exact h
              case measure => have := HKN.out; simp [intOf]; omega
      · obtain rfl : k = n := by omega
        have HWN := Lib.hid (wins_any a0 cap0 l k W0 (HW.out W0 HB.out) HN.out (by omega))
        clear hwl hbi hlt hk
        go_wp2_with fail
        refine HWN.out.mono ?_
        rintro e W1 ⟨A1, c1, rfl, ho1, hb1⟩
        have HB1 := Lib.hid (HB.out.trans (hb1.mono HB.out.size))
        have HRN := Lib.hid (rwins_any a0 cap0 l k W1 (HW.out W1 HB1.out) HN.out (by omega))
        have HO1 := Lib.hid (row_acts ho1)
        clear ho1 hb1 HWN
        go_wp2_with fail
        refine HRN.out.mono ?_
        rintro e W2 ⟨A2, c2, rfl, ho2, hb2⟩
        have HB2 := Lib.hid (HB1.out.trans (hb2.mono HB1.out.size))
        have hwlen : (winsL l).length ≤ 1099511627776 := by have := (wst_le l l.length).2; rw [HN.out] at this; unfold winsL; rw [HN.out]; omega
        have HSM := Lib.hid (same13_any A1 A2 c1 c2 (winsL l) W2 (HO1.out.kept hb2) (row_acts ho2) hwlen)
        clear ho2 hb2 HO1 HRN hwlen
        go_wp2_with fail
        refine HSM.out.mono ?_
        rintro e W3 ⟨rfl, nd3, rfl⟩
        have hbn : Below W2.heap.size W2 (W2.drewN nd3) := ⟨rfl, rfl, rfl, Nat.le_refl _, fun _ _ => rfl⟩
        have HB3 := Lib.hid (HB2.out.trans (hbn.mono HB2.out.size))
        clear hbn
        obtain ⟨W3, hW3⟩ : ∃ X, W2.drewN nd3 = X := ⟨_, rfl⟩
        rw [hW3] at HB3
        rw [hW3]
        have HSW := Lib.hid (swit_any a0 cap0 l k W3 (HW.out W3 HB3.out) HN.out (by omega))
        have HSP := Lib.hid (spread_any a0 cap0 l k id W3 (HW.out W3 HB3.out) HN.out (by omega))
        have HA3 := Lib.hid (HAW.out W3 HB3.out)
        clear hW3 HSM
        obtain ⟨sb, hsb⟩ : ∃ b : Nat, swc l k = b := ⟨_, rfl⟩
        obtain ⟨fb, hfb⟩ : ∃ b : Nat, bestD id l k = b := ⟨_, rfl⟩
        rw [hsb] at HSW
        rw [hfb] at HSP
        rw [hsb, hfb]
        clear hsb hfb
        go_wp2_with (first | (go_at_call 23; refine HSW.out.mono ?_; rintro e W8 ⟨rfl, rfl⟩) | (go_at_call 24; refine HSP.out.mono ?_; rintro e W8 ⟨rfl, rfl⟩) | (go_at_call 7; refine HA3.out.mono ?_; rintro e W9 ⟨rfl, hb9⟩; have HB9 := Lib.hid (HB3.out.trans (hb9.mono HB3.out.size)); clear hb9))
        go_ret
        exact ⟨rfl, HB9.out⟩

end Go.Proofs.YtpjillclladjaaaDoor.planWords
