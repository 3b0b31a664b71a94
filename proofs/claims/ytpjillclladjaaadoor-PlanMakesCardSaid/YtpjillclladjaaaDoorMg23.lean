/- Plans: a period's end; what a tick opens; whose a tick is; who is late (plan's end, begin, give, Make$1, slices.IndexFunc). Condition: periods of 1 to 4,096, budgets up to them, ticks 0 to 4,096, at most 4,096 needs. -/
import Derived.Test.YtpjillclladjaaaDoorMg22
import Derived.Deep.RegionHeld3
import Derived.Deep.RegionLaw
import Derived.BigRegion
import Derived.BigQuiet
import Derived.OwnWalk
namespace Go.Proofs.YtpjillclladjaaaDoor.Pln

open Go.RowKit Go.PlainAid Go.Proofs.YtpjillclladjaaaDoor.Rdr Go.Proofs.YtpjillclladjaaaDoor.Args

open Go.Proofs.YtpjillclladjaaaDoor.Act (A3 I64)

set_option linter.unusedVariables false

set_option linter.unusedSimpArgs false

/-- Periods and budgets as they may be. -/
def PerOk (l : List A3) : Prop := ∀ k, k < l.length → 1 ≤ (nd l k).p ∧ (nd l k).p ≤ 4096 ∧ 0 ≤ (nd l k).a ∧ (nd l k).a ≤ (nd l k).p
theorem PerOk.nd {l : List A3} (h : PerOk l) : NdOk l := fun k hk => ⟨(h k hk).1, (h k hk).2.2.1⟩
theorem tmod_pos {t p : Int} (ht : 0 ≤ t) : Int.tmod t p = t % p := Int.tmod_eq_emod_of_nonneg ht
set_option maxRecDepth 4000 in
set_option maxHeartbeats 1600000 in
theorem end_any (s p a r t : Int) (W : World) (hp : 1 ≤ p ∧ p ≤ 4096) (ht : 0 ≤ t ∧ t ≤ 4096) :
    Calls Tryd.prog 36 #[.agg #[.int .i64 s, .int .i64 p, .int .i64 a, .int .i64 r], .int .i64 t] W fun e w' => e = .returned (.int .i64 (endZ t p)) ∧ Below W.heap.size W w' := by
  have HB : Hid (Below W.heap.size W (W.alloc (.cells #[.int .i64 s, .int .i64 p, .int .i64 a, .int .i64 r] 66))) := (Below.refl _ _).alloc (Nat.le_refl _) _
  have hm := tmod_pos (p := p) ht.1
  have h0 := Int.emod_nonneg t (show p ≠ 0 by omega)
  have h1 := Int.emod_lt_of_pos t (show 0 < p by omega)
  have he : endZ t p = t - t % p + p := rfl
  obtain ⟨q, hq⟩ : ∃ q, t % p = q := ⟨_, rfl⟩
  rw [hq] at hm h0 h1 he
  rw [he]
  have hqw : IntKind.i64.wrap q = q := IntWalk.i64_in _ (by omega)
  have hd1 : IntKind.i64.wrap (t - q) = t - q := IntWalk.i64_in _ (by omega)
  have hd2 : IntKind.i64.wrap (t - q + p) = t - q + p := IntWalk.i64_in _ (by omega)
  have hp0 : ¬ p = 0 := by omega
  have hp1 : (p == 0) = false := by simp [hp0]
  clear h0 h1 hp ht hq he
  go_enter Tryd.func36, Tryd.ntmps36
  go_wp2_with fail
  go_quiet (fail)
  go_wp2
  go_ret
  exact ⟨rfl, ⟨HB.out.os, HB.out.tape, HB.out.output, HB.out.size, HB.out.block⟩⟩
def BgRel (l : List A3) (t : Int) (r : Nat → Int) (n g : Nat) (w : World) (i : Value) (W : World) : Prop :=
  ∃ k : Nat, k ≤ n ∧ i = .int .i64 (k : Int) ∧ BR g 66 (jD l (fun j => if j < k then begR l t r j else r j) n) W ∧ Just g w W
theorem jl_apart {g : Nat} {w W W' : World} (h : Just g w W) (b : Below W.heap.size W W') : Just g w W' := h.trans (Just.of_below b)
set_option maxRecDepth 8000 in
set_option maxHeartbeats 6400000 in
theorem begin_any (l : List A3) (t : Int) (r : Nat → Int) (g c n : Nat) (w : World) (hj : BR g 66 (jD l r n) w) (hn : l.length = n) (hl : n ≤ 4096) (hp : PerOk l) (ht : 0 ≤ t ∧ t ≤ 4096) :
    Calls Tryd.prog 33 #[.slice (some ⟨g, 0, none⟩) n c, .int .i64 t] w fun e w' => e = .returned (.tuple #[]) ∧ BR g 66 (jD l (begR l t r) n) w' ∧ Just g w w' := by
  have HS0 : Hid (BgRel l t r n g w (.int .i64 0) w) := ⟨0, Nat.zero_le _, rfl, by rw [jD_congr l (r' := r) n (fun k hk => if_neg (by omega))]; exact hj, Just.refl g w⟩
  have HP := Lib.hid hp
  have HN := Lib.hid hn
  have HL : Hid (n ≤ 4096) := hl
  have HT : Hid (0 ≤ t ∧ t ≤ 4096) := ht
  clear hj hn hl hp ht
  go_enter Tryd.func33, Tryd.ntmps33
  go_wp2_with fail
  go_loopw [8] (fun i W => BgRel l t r n g w i W) (fun i _ => n - (intOf i).toNat)
  case atStart => exact HS0.out
  case round =>
    obtain ⟨W0, hW0⟩ : ∃ X, wr = X := ⟨_, rfl⟩
    rw [hW0] at hrel
    rw [hW0]
    clear hW0 wr HS0
    obtain ⟨k, hk, rfl, hbr, hju⟩ := hrel
    have HBR := Lib.hid hbr
    have HJ := Lib.hid hju
    have hll := HL.out
    clear hbr hju
    by_cases hlt : k < n
    · obtain ⟨h1, h2, h3, h4⟩ := HP.out k (by rw [HN.out]; exact hlt)
      obtain ⟨y0, y1, y2, y3⟩ := jcells HBR.out hlt
      rw [if_neg (Nat.lt_irrefl k)] at y3
      have hbg : begR l t r k = if t % (nd l k).p = 0 then (nd l k).a else r k := rfl
      obtain ⟨x, hx⟩ : ∃ x, nd l k = x := ⟨_, rfl⟩
      obtain ⟨rk, hrk⟩ : ∃ x, r k = x := ⟨_, rfl⟩
      rw [hx, hrk] at hbg
      rw [hx] at h1 h2 h3 h4 y0 y1 y2
      rw [hrk] at y3
      obtain ⟨s, p, a⟩ := x
      dsimp only at hbg h1 h2 h3 h4 y0 y1 y2
      have hm := tmod_pos (p := p) HT.out.1
      have hm0 := Int.emod_nonneg t (show p ≠ 0 by omega)
      have hm1 := Int.emod_lt_of_pos t (show 0 < p by omega)
      obtain ⟨q, hq⟩ : ∃ q, t % p = q := ⟨_, rfl⟩
      rw [hq] at hm hm0 hm1 hbg
      have hqw : IntKind.i64.wrap q = q := IntWalk.i64_in _ (by omega)
      have hp0 : ¬ p = 0 := by omega
      have hp1 : (p == 0) = false := by simp [hp0]
      have hki : (0 : Int) ≤ k := by omega
      have hkb : (k : Int) < n := by omega
      have hk1 : IntKind.i64.wrap ((k : Int) + 1) = (k : Int) + 1 := IntWalk.i64_in _ (by omega)
      have hb1 : Below W0.heap.size W0 (W0.alloc (.cells #[.int .i64 s, .int .i64 p, .int .i64 a, .int .i64 rk] 66)) := (Below.refl _ _).alloc (Nat.le_refl _) _
      have HBR1 := Lib.hid (HBR.out.keep hb1)
      have HJ1 := Lib.hid (jl_apart HJ.out hb1)
      have HBG := Lib.hid hbg
      have HRK := Lib.hid hrk
      have z3 := (jcells HBR1.out hlt).2.2.2
      have z4 := HBR1.out.thaw (k * 4 + 3)
      have HNX : Hid (∀ W, BR g 66 (jD l (fun j => if j < k + 1 then begR l t r j else r j) n) W → Just g w W → BgRel l t r n g w (.int .i64 ((k : Int) + 1)) W) := fun W h1 h2 => ⟨k + 1, by omega, by go_num, h1, h2⟩
      have HKN : Hid (k < n) := hlt
      clear hbg hb1 hx hrk hq h1 h2 h3 h4 hm0 hm1 hk
      by_cases hq0 : q = 0
      · have hqb : (q == 0) = true := by simp [hq0]
        rw [if_pos hq0] at HBG
        have HPK := Lib.hid (jpoke HBR1.out HKN.out a)
        clear hq0
        go_wp2
        go_roundw
        case rel =>
          refine HNX.out _ ?_ (HJ1.out.trans HPK.out.2)
          rw [jD_congr l (r' := fun i => if i = k then a else (if i < k then begR l t r i else r i)) n (fun i hi => ?_)]
          · exact HPK.out.1
          · by_cases c : i = k
            · subst c
              rw [if_pos (Nat.lt_succ_self _), if_pos rfl, HBG.out]
            · rw [if_neg c]
              by_cases c2 : i < k
              · rw [if_pos c2, if_pos (by omega)]
              · rw [if_neg c2, if_neg (by omega)]
        case measure => simp [intOf]; omega
      · have hqb : (q == 0) = false := by simp [hq0]
        rw [if_neg hq0] at HBG
        clear hq0
        go_wp2
        go_roundw
        case rel =>
          refine HNX.out _ ?_ HJ1.out
          rw [jD_congr l (r' := fun i => if i < k then begR l t r i else r i) n (fun i hi => ?_)]
          · exact HBR1.out
          · by_cases c : i = k
            · subst c
              rw [if_pos (Nat.lt_succ_self _), if_neg (Nat.lt_irrefl _), HBG.out]; exact HRK.out.symm
            · by_cases c2 : i < k
              · rw [if_pos c2, if_pos (by omega)]
              · rw [if_neg c2, if_neg (by omega)]
        case measure => simp [intOf]; omega
    · obtain rfl : k = n := by omega
      have HF : Hid (BR g 66 (jD l (begR l t r) k) W0) := by
        have h := HBR.out
        rw [jD_congr l (r' := begR l t r) k (fun i hi => if_pos hi)] at h
        exact h
      have HJF := Lib.hid HJ.out
      clear HBR HJ
      go_wp2
      simp [bodyPost, results, Tryd.results33, go_sem]
      exact ⟨HF.out, HJF.out⟩
end Go.Proofs.YtpjillclladjaaaDoor.Pln
