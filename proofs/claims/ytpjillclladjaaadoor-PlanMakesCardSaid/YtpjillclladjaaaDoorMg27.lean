/- Plans: who is late (plan's Make$1, slices.IndexFunc); the longest row without an owner (plan.Spread). Condition: as PlnD's; at most 1,048,576 ticks. -/
import Derived.Test.YtpjillclladjaaaDoorMg24
import Derived.Test.YtpjillclladjaaaDoorMg26
namespace Go.Proofs.YtpjillclladjaaaDoor.Pln

open Go.RowKit Go.PlainAid Go.Proofs.YtpjillclladjaaaDoor.Rdr Go.Proofs.YtpjillclladjaaaDoor.Args Go.Proofs.YtpjillclladjaaaDoor.Nee Go.Proofs.YtpjillclladjaaaDoor.Win

open Go.Proofs.YtpjillclladjaaaDoor.Act (A3 I64)

set_option linter.unusedVariables false

set_option linter.unusedSimpArgs false

/-- Late behind a tick. -/
def LateP (l : List A3) (t : Int) (r : Nat → Int) (k : Nat) : Prop := 0 < r k ∧ endZ t (nd l k).p = t + 1
theorem lt_found (l : List A3) (t : Int) (r : Nat → Int) {n k : Nat} (hk : k < n) (h1 : LateP l t r k) (h2 : ∀ j, j < k → ¬ LateP l t r j) : ltR l t r n = (k : Int) := by
  rcases lt_range l t r n with ⟨_, h⟩ | ⟨m, hm, e, h3, h4⟩
  · exact absurd h1 (h k hk)
  · rcases Nat.lt_or_ge m k with h5 | h5
    · exact absurd h3 (h2 m h5)
    · rcases Nat.lt_or_ge k m with h6 | h6
      · exact absurd h1 (h4 k h6)
      · rw [e]; omega
theorem lt_none (l : List A3) (t : Int) (r : Nat → Int) {n : Nat} (h2 : ∀ j, j < n → ¬ LateP l t r j) : ltR l t r n = -1 := by
  rcases lt_range l t r n with ⟨e, _⟩ | ⟨m, hm, _, h3, _⟩
  · exact e
  · exact absurd h3 (h2 m hm)
set_option maxRecDepth 8000 in
set_option maxHeartbeats 3200000 in
theorem late_any (s p a r t : Int) (tb : Nat) (W : World) (hp : 1 ≤ p ∧ p ≤ 4096) (ht : 0 ≤ t ∧ t ≤ 4096) (hc : W.cell? ⟨tb, 0, none⟩ = some (.int .i64 t)) :
    Calls Tryd.prog 35 #[.agg #[.int .i64 s, .int .i64 p, .int .i64 a, .int .i64 r], .pointer (some ⟨tb, 0, none⟩)] W fun e w' => e = .returned (.bool (decide (0 < r) && decide (endZ t p = t + 1))) ∧ Below W.heap.size W w' := by
  have hb0 : Below W.heap.size W (W.alloc (.cells #[.int .i64 s, .int .i64 p, .int .i64 a, .int .i64 r] 66)) := (Below.refl _ _).alloc (Nat.le_refl _) _
  have hx0 := heap_alloc_new W (.cells #[.int .i64 s, .int .i64 p, .int .i64 a, .int .i64 r] 66)
  have HE := Lib.hid (fun W => end_any s p a r t W hp ht)
  have HC0 := Lib.hid ((hb0.cell (Go.block_lt_of_cell hc)).trans hc)
  have hw1 : IntKind.i64.wrap (t + 1) = t + 1 := IntWalk.i64_in _ (by omega)
  obtain ⟨e, he⟩ : ∃ e, endZ t p = e := ⟨_, rfl⟩
  rw [he] at HE ⊢
  have HX0 := Lib.hid hx0
  have HB0 := Lib.hid hb0
  clear hb0 hx0 hc hp ht he
  by_cases hr : 0 < r
  · have hrr : decide (0 < r) = true := decide_eq_true hr
    rw [hrr, Bool.true_and]
    go_enter Tryd.func35, Tryd.ntmps35
    go_upto_region 1 with fail
    obtain ⟨Q, hQ⟩ : ∃ Q, W.heap.size = Q := ⟨_, rfl⟩
    obtain ⟨W1, hW1⟩ : ∃ X, W.alloc (.cells #[.int .i64 s, .int .i64 p, .int .i64 a, .int .i64 r] 66) = X := ⟨_, rfl⟩
    rw [hW1, hQ] at HX0
    rw [hW1] at HB0 HC0
    rw [hW1, hQ]
    clear hW1 hQ
    have HX5 : Hid (∀ W', Below W1.heap.size W1 W' → W'.cell? ⟨Q, 0, none⟩ = some (.int .i64 s) ∧ W'.cell? ⟨Q, 1, none⟩ = some (.int .i64 p) ∧ W'.cell? ⟨Q, 2, none⟩ = some (.int .i64 a) ∧ W'.cell? ⟨Q, 3, none⟩ = some (.int .i64 r) ∧ W'.cell? ⟨tb, 0, none⟩ = some (.int .i64 t)) := fun W' b => by
      have h3 := (b.block _ (lt_of_block HX0.out)).trans HX0.out
      refine ⟨?_, ?_, ?_, ?_, (b.cell (Go.block_lt_of_cell HC0.out)).trans HC0.out⟩
      · rw [cell_of_row W' _ _ _ _ _ h3]; rfl
      · rw [cell_of_row W' _ _ _ _ _ h3]; rfl
      · rw [cell_of_row W' _ _ _ _ _ h3]; rfl
      · rw [cell_of_row W' _ _ _ _ _ h3]; rfl
    have HD2 : Hid (Below W1.heap.size W1 W1.drew) := ⟨rfl, rfl, rfl, Nat.le_refl _, fun _ _ => rfl⟩
    have HKA := Lib.hid (HX5.out _ HD2.out)
    have hkk := HX5.out _ (Below.refl _ W1)
    obtain ⟨n0, n1, n2, n3, n4⟩ := hkk
    go_region_held3 (fun wx => wx.cell? ⟨Q, 0, none⟩ = some (.int .i64 s) ∧ wx.cell? ⟨Q, 1, none⟩ = some (.int .i64 p) ∧ wx.cell? ⟨Q, 2, none⟩ = some (.int .i64 a) ∧ wx.cell? ⟨Q, 3, none⟩ = some (.int .i64 r) ∧ wx.cell? ⟨tb, 0, none⟩ = some (.int .i64 t))
      (first | exact HKP.out | exact HKA.out | (refine ⟨?_, ?_, ?_, ?_, ?_⟩ <;> assumption) | (go_keep; done))
      (first
        | (go_at_call 36; refine (HE.out _).mono ?_; rintro e0 W6 ⟨rfl, hb6⟩; have HB6 := Lib.hid (HD2.out.trans (hb6.mono HD2.out.size)); have HKP := Lib.hid (HX5.out W6 HB6.out); clear hb6))
    all_goals
      have HBF := Lib.hid (HB0.out.trans (HB6.out.mono HB0.out.size))
      go_wp2
      go_ret
      exact ⟨by first | rfl | (congr 2; rw [Bool.eq_iff_iff]; simp), HBF.out⟩
  · have hrr : decide (0 < r) = false := decide_eq_false hr
    rw [hrr, Bool.false_and]
    have n3 : (W.alloc (.cells #[.int .i64 s, .int .i64 p, .int .i64 a, .int .i64 r] 66)).cell? ⟨W.heap.size, 3, none⟩ = some (.int .i64 r) := by rw [cell_of_row _ _ _ _ _ _ HX0.out]; rfl
    go_enter Tryd.func35, Tryd.ntmps35
    go_wp2_with fail
    go_quiet (fail)
    go_wp2
    go_ret
    exact ⟨rfl, ⟨HB0.out.os, HB0.out.tape, HB0.out.output, HB0.out.size, HB0.out.block⟩⟩
set_option maxRecDepth 8000 in
set_option maxHeartbeats 3200000 in
theorem indexj_any (l : List A3) (t : Int) (r : Nat → Int) (g c n tb : Nat) (w : World) (hj : BR g 66 (jD l r n) w) (hn : l.length = n) (hl : n ≤ 4096) (hp : PerOk l) (ht : 0 ≤ t ∧ t ≤ 4096) (hc : w.cell? ⟨tb, 0, none⟩ = some (.int .i64 t)) :
    Calls Tryd.prog 37 #[.slice (some ⟨g, 0, none⟩) n c, .func (.func 35) #[] #[.pointer (some ⟨tb, 0, none⟩)]] w fun e w' => e = .returned (.int .i64 (ltR l t r n)) ∧ Below w.heap.size w w' := by
  have HBW := Lib.hid (fun W (b : Below w.heap.size w W) => hj.keep b)
  have HCW := Lib.hid (fun W (b : Below w.heap.size w W) => (b.cell (Go.block_lt_of_cell hc)).trans hc)
  have HP := Lib.hid hp
  have HN := Lib.hid hn
  have HL : Hid (n ≤ 4096) := hl
  have HT : Hid (0 ≤ t ∧ t ≤ 4096) := ht
  obtain ⟨z, hz⟩ : ∃ z, ltR l t r n = z := ⟨_, rfl⟩
  have HZ := Lib.hid hz
  rw [hz]
  clear hj hn hl hp ht hc hz
  go_enter Tryd.func37, Tryd.ntmps37
  go_wp2_with fail
  go_loopw [8] (fun i W => ∃ k : Nat, k ≤ n ∧ i = .int .i64 (k : Int) ∧ (∀ j, j < k → ¬ LateP l t r j) ∧ Below w.heap.size w W) (fun i _ => n - (intOf i).toNat)
  case atStart => exact ⟨0, Nat.zero_le _, rfl, fun j hj => by omega, Below.refl _ _⟩
  case round =>
    obtain ⟨W0, hW0⟩ : ∃ X, wr = X := ⟨_, rfl⟩
    rw [hW0] at hrel
    rw [hW0]
    clear hW0 wr
    obtain ⟨k, hk, rfl, hno, hb⟩ := hrel
    have HB := Lib.hid hb
    have HNO := Lib.hid hno
    have HBR := Lib.hid (HBW.out W0 hb)
    have hcc := HCW.out W0 hb
    have hll := HL.out
    clear hb hno
    by_cases hlt : k < n
    · obtain ⟨h1, h2, h3, h4⟩ := HP.out k (by rw [HN.out]; exact hlt)
      obtain ⟨y0, y1, y2, y3⟩ := jcells HBR.out hlt
      have hlp : LateP l t r k ↔ (0 < r k ∧ endZ t (nd l k).p = t + 1) := Iff.rfl
      obtain ⟨x, hx⟩ : ∃ x, nd l k = x := ⟨_, rfl⟩
      obtain ⟨rk, hrk⟩ : ∃ x, r k = x := ⟨_, rfl⟩
      rw [hx, hrk] at hlp
      rw [hx] at h1 h2 h3 h4 y0 y1 y2
      rw [hrk] at y3
      obtain ⟨s, p, a⟩ := x
      dsimp only at hlp h1 h2 h3 h4 y0 y1 y2
      have HG := Lib.hid (late_any s p a rk t tb W0 ⟨h1, h2⟩ HT.out hcc)
      obtain ⟨b, hb⟩ : ∃ b, (decide (0 < rk) && decide (endZ t p = t + 1)) = b := ⟨_, rfl⟩
      rw [hb] at HG
      have HLP : Hid (b = true ↔ LateP l t r k) := by
        show _ ↔ _
        rw [hlp, ← hb]
        simp
      have hki : (0 : Int) ≤ k := by omega
      have hkb : (k : Int) < n := by omega
      have hk1 : IntKind.i64.wrap ((k : Int) + 1) = (k : Int) + 1 := IntWalk.i64_in _ (by omega)
      have HKN : Hid (k < n) := hlt
      clear h1 h2 h3 h4 hx hrk hb hlp hcc hk
      go_wp2_with fail
      refine HG.out.mono ?_
      rintro e W6 ⟨rfl, hb6⟩
      have HB6 := Lib.hid (HB.out.trans (hb6.mono HB.out.size))
      clear hb6 y0 y1 y2 y3 HG
      cases b with
      | true =>
        obtain rfl : z = (k : Int) := by rw [← HZ.out]; exact lt_found l t r HKN.out (HLP.out.1 rfl) HNO.out
        go_wp2
        go_ret
        exact ⟨rfl, HB6.out⟩
      | false =>
        have HNO2 : Hid (∀ j, j < k + 1 → ¬ LateP l t r j) := fun j hj => by
          rcases Nat.lt_or_ge j k with h | h
          · exact HNO.out j h
          · obtain rfl : j = k := by omega
            exact fun h => absurd (HLP.out.2 h) (by decide)
        go_wp2
        go_roundw
        case rel => exact ⟨k + 1, by have := HKN.out; omega, by go_num, HNO2.out, HB6.out⟩
        case measure => have := HKN.out; simp [intOf]; omega
    · obtain rfl : k = n := by omega
      obtain rfl : z = -1 := by rw [← HZ.out]; exact lt_none l t r HNO.out
      go_wp2
      go_ret
      exact ⟨rfl, HB.out⟩
end Go.Proofs.YtpjillclladjaaaDoor.Pln
