/- Plans: whose a tick is; who is late (plan's give, Make$1, slices.IndexFunc). Condition: periods of 1 to 4,096, budgets up to them, ticks 0 to 4,096, at most 4,096 needs. -/
import Derived.Test.YtpjillclladjaaaDoorMg23
namespace Go.Proofs.YtpjillclladjaaaDoor.Pln

open Go.RowKit Go.PlainAid Go.Proofs.YtpjillclladjaaaDoor.Rdr Go.Proofs.YtpjillclladjaaaDoor.Args

open Go.Proofs.YtpjillclladjaaaDoor.Act (A3 I64)

set_option linter.unusedVariables false

set_option linter.unusedSimpArgs false

/-- What is open is from 0 to the budget. -/
def ROk (l : List A3) (r : Nat → Int) : Prop := ∀ k, k < l.length → 0 ≤ r k ∧ r k ≤ (nd l k).a
def GvRel (l : List A3) (t : Int) (r : Nat → Int) (n : Nat) (w : World) (b i : Value) (W : World) : Prop :=
  ∃ k : Nat, k ≤ n ∧ i = .int .i64 (k : Int) ∧ b = .int .i64 (bstR l t r k) ∧ Below w.heap.size w W
set_option maxRecDepth 8000 in
set_option maxHeartbeats 6400000 in
theorem give_any (l : List A3) (t : Int) (r : Nat → Int) (g c n : Nat) (w : World) (hj : BR g 66 (jD l r n) w) (hn : l.length = n) (hl : n ≤ 4096) (hp : PerOk l) (ht : 0 ≤ t ∧ t ≤ 4096) (hr : ROk l r) :
    Calls Tryd.prog 34 #[.slice (some ⟨g, 0, none⟩) n c, .int .i64 t] w fun e w' => e = .returned (.int .i64 (idR l (bstR l t r n))) ∧ BR g 66 (jD l (updR r (bstR l t r n)) n) w' ∧ Just g w w' := by
  have HBW := Lib.hid (fun W (b : Below w.heap.size w W) => hj.keep b)
  have HS0 : Hid (GvRel l t r n w (.int .i64 (-1)) (.int .i64 0) w) := ⟨0, Nat.zero_le _, rfl, rfl, Below.refl _ _⟩
  have HP := Lib.hid hp
  have HRO := Lib.hid hr
  have HN := Lib.hid hn
  have HL : Hid (n ≤ 4096) := hl
  have HT : Hid (0 ≤ t ∧ t ≤ 4096) := ht
  obtain ⟨bz, hbz⟩ : ∃ z, bstR l t r n = z := ⟨_, rfl⟩
  obtain ⟨idz, hidz⟩ : ∃ z, idR l bz = z := ⟨_, rfl⟩
  obtain ⟨ru, hru⟩ : ∃ z, updR r bz = z := ⟨_, rfl⟩
  rw [hbz, hidz, hru]
  have HBZ := Lib.hid hbz
  have HIDZ := Lib.hid hidz
  have HRU := Lib.hid hru
  clear hj hn hl hp ht hr hbz hidz hru
  go_enter Tryd.func34, Tryd.ntmps34
  go_wp2_with fail
  go_loopw [5, 10] (fun b i W => GvRel l t r n w b i W) (fun _ i _ => n - (intOf i).toNat)
  case atStart => exact HS0.out
  case round =>
    obtain ⟨W0, hW0⟩ : ∃ X, wr = X := ⟨_, rfl⟩
    rw [hW0] at hrel
    rw [hW0]
    clear hW0 wr HS0
    obtain ⟨k, hk, rfl, rfl, hb⟩ := hrel
    have HB := Lib.hid hb
    have HBR := Lib.hid (HBW.out W0 hb)
    have hll := HL.out
    clear hb
    by_cases hlt : k < n
    · obtain ⟨h1, h2, h3, h4⟩ := HP.out k (by rw [HN.out]; exact hlt)
      obtain ⟨y0, y1, y2, y3⟩ := jcells HBR.out hlt
      have hst : bstR l t r (k + 1) = if 0 < r k ∧ (bstR l t r k < 0 ∨ endZ t (nd l k).p < endZ t (nd l (bstR l t r k).toNat).p) then (k : Int) else bstR l t r k := rfl
      have hrg := bst_range l t r k
      obtain ⟨x, hx⟩ : ∃ x, nd l k = x := ⟨_, rfl⟩
      obtain ⟨rk, hrk⟩ : ∃ x, r k = x := ⟨_, rfl⟩
      rw [hx, hrk] at hst
      rw [hx] at h1 h2 h3 h4 y0 y1 y2
      rw [hrk] at y3
      obtain ⟨s, p, a⟩ := x
      dsimp only at hst h1 h2 h3 h4 y0 y1 y2
      have HE1 := Lib.hid (fun W => end_any s p a rk t W ⟨h1, h2⟩ HT.out)
      have hki : (0 : Int) ≤ k := by omega
      have hkb : (k : Int) < n := by omega
      have hk1 : IntKind.i64.wrap ((k : Int) + 1) = (k : Int) + 1 := IntWalk.i64_in _ (by omega)
      have hb1 : Below W0.heap.size W0 (W0.alloc (.cells #[.int .i64 s, .int .i64 p, .int .i64 a, .int .i64 rk] 66)) := (Below.refl _ _).alloc (Nat.le_refl _) _
      have hx1 := heap_alloc_new W0 (.cells #[.int .i64 s, .int .i64 p, .int .i64 a, .int .i64 rk] 66)
      have HBR1 := Lib.hid (HBR.out.keep hb1)
      have HB1 := Lib.hid (HB.out.trans (hb1.mono HB.out.size))
      have HX1 := Lib.hid hx1
      have HNX : Hid (∀ W z, bstR l t r (k + 1) = z → Below w.heap.size w W → GvRel l t r n w (.int .i64 z) (.int .i64 ((k : Int) + 1)) W) := fun W z h1 h2 => ⟨k + 1, by omega, by go_num, by rw [h1], h2⟩
      have HST := Lib.hid hst
      have HKN : Hid (k < n) := hlt
      by_cases hr0 : 0 < rk
      · rcases hrg with e | ⟨m, hm, e⟩
        · have hz : bstR l t r (k + 1) = (k : Int) := by rw [hst, e, if_pos ⟨hr0, .inl (by omega)⟩]
          have HZ := Lib.hid hz
          rw [e]
          clear hst hx hrk h1 h2 h3 h4 hb1 hx1 hk e hz
          go_upto_region 5 with fail
          obtain ⟨Q, hQ⟩ : ∃ Q, W0.heap.size = Q := ⟨_, rfl⟩
          obtain ⟨W1, hW1⟩ : ∃ X, W0.alloc (.cells #[.int .i64 s, .int .i64 p, .int .i64 a, .int .i64 rk] 66) = X := ⟨_, rfl⟩
          rw [hW1, hQ] at HX1
          rw [hW1] at HB1
          rw [hW1, hQ]
          have z3 : W1.cell? ⟨Q, 3, none⟩ = some (.int .i64 rk) := by rw [cell_of_row _ _ _ _ _ _ HX1.out]; rfl
          clear hW1 hQ y0 y1 y2 y3
          go_quiet (fail)
          go_wp2
          go_roundw
          case rel => exact HNX.out _ _ HZ.out ⟨HB1.out.os, HB1.out.tape, HB1.out.output, HB1.out.size, HB1.out.block⟩
          case measure => have := HKN.out; simp [intOf]; omega
        · have hmn : m < n := by omega
          obtain ⟨g1, g2, g3, g4⟩ := HP.out m (by rw [HN.out]; exact hmn)
          have hmt : ((m : Int)).toNat = m := by omega
          rw [e, hmt] at hst
          have HQX : Hid (∀ W, BR g 66 (jD l r n) W → W.cell? ⟨g, m * 4, none⟩ = some (.int .i64 (nd l m).s) ∧ W.cell? ⟨g, m * 4 + 1, none⟩ = some (.int .i64 (nd l m).p) ∧ W.cell? ⟨g, m * 4 + 2, none⟩ = some (.int .i64 (nd l m).a) ∧ W.cell? ⟨g, m * 4 + 3, none⟩ = some (.int .i64 (r m))) := fun W h => jcells h hmn
          obtain ⟨x2, hx2⟩ : ∃ x, nd l m = x := ⟨_, rfl⟩
          obtain ⟨rm, hrm⟩ : ∃ x, r m = x := ⟨_, rfl⟩
          rw [hx2] at hst g1 g2 g3 g4
          rw [hx2, hrm] at HQX
          obtain ⟨s2, p2, a2⟩ := x2
          dsimp only at hst g1 g2 g3 g4 HQX
          have HE2 := Lib.hid (fun W => end_any s2 p2 a2 rm t W ⟨g1, g2⟩ HT.out)
          obtain ⟨e1, he1⟩ : ∃ z, endZ t p = z := ⟨_, rfl⟩
          obtain ⟨e2, he2⟩ : ∃ z, endZ t p2 = z := ⟨_, rfl⟩
          rw [he1, he2] at hst
          rw [he1] at HE1
          rw [he2] at HE2
          rw [e]
          have HZ : Hid (∀ z, (z = if e1 < e2 then (k : Int) else (m : Int)) → bstR l t r (k + 1) = z) := fun z hz => by
            rw [hst, hz]
            by_cases c : e1 < e2
            · rw [if_pos ⟨hr0, .inr c⟩, if_pos c]
            · rw [if_neg (fun h => by rcases h.2 with h5 | h5 <;> omega), if_neg c]
          have hm0 : decide ((m : Int) < 0) = false := decide_eq_false (by omega)
          have hm1 : (0 : Int) ≤ m := by omega
          have hm2 : (m : Int) < n := by omega
          have hrr : decide (0 < rk) = true := decide_eq_true hr0
          clear hst hx hrk h1 h2 h3 h4 hb1 hx1 hk e g1 g2 g3 g4 hx2 hrm he1 he2 hmn hm
          go_upto_region 5 with fail
          obtain ⟨Q, hQ⟩ : ∃ Q, W0.heap.size = Q := ⟨_, rfl⟩
          obtain ⟨W1, hW1⟩ : ∃ X, W0.alloc (.cells #[.int .i64 s, .int .i64 p, .int .i64 a, .int .i64 rk] 66) = X := ⟨_, rfl⟩
          rw [hW1, hQ] at HX1
          rw [hW1] at HB1 HBR1
          rw [hW1, hQ]
          clear hW1 hQ y0 y1 y2 y3
          have HX5 : Hid (∀ W', Below W1.heap.size W1 W' → W'.cell? ⟨Q, 0, none⟩ = some (.int .i64 s) ∧ W'.cell? ⟨Q, 1, none⟩ = some (.int .i64 p) ∧ W'.cell? ⟨Q, 2, none⟩ = some (.int .i64 a) ∧ W'.cell? ⟨Q, 3, none⟩ = some (.int .i64 rk) ∧ W'.cell? ⟨g, m * 4, none⟩ = some (.int .i64 s2) ∧ W'.cell? ⟨g, m * 4 + 1, none⟩ = some (.int .i64 p2) ∧ W'.cell? ⟨g, m * 4 + 2, none⟩ = some (.int .i64 a2) ∧ W'.cell? ⟨g, m * 4 + 3, none⟩ = some (.int .i64 rm)) := fun W' b => by
            have h3 := (b.block _ (lt_of_block HX1.out)).trans HX1.out
            obtain ⟨q0, q1, q2, q3⟩ := HQX.out W' (HBR1.out.keep b)
            refine ⟨?_, ?_, ?_, ?_, q0, q1, q2, q3⟩
            · rw [cell_of_row W' _ _ _ _ _ h3]; rfl
            · rw [cell_of_row W' _ _ _ _ _ h3]; rfl
            · rw [cell_of_row W' _ _ _ _ _ h3]; rfl
            · rw [cell_of_row W' _ _ _ _ _ h3]; rfl
          have HD2 : Hid (Below W1.heap.size W1 W1.drew) := ⟨rfl, rfl, rfl, Nat.le_refl _, fun _ _ => rfl⟩
          have HKA := Lib.hid (HX5.out _ HD2.out)
          have hkk := HX5.out _ (Below.refl _ W1)
          obtain ⟨n0, n1, n2, n3, n4, n5, n6, n7⟩ := hkk
          refine wp_region_held_drew (S := (fun wx => wx.cell? ⟨Q, 0, none⟩ = some (.int .i64 s) ∧ wx.cell? ⟨Q, 1, none⟩ = some (.int .i64 p) ∧ wx.cell? ⟨Q, 2, none⟩ = some (.int .i64 a) ∧ wx.cell? ⟨Q, 3, none⟩ = some (.int .i64 rk) ∧ wx.cell? ⟨g, m * 4, none⟩ = some (.int .i64 s2) ∧ wx.cell? ⟨g, m * 4 + 1, none⟩ = some (.int .i64 p2) ∧ wx.cell? ⟨g, m * 4 + 2, none⟩ = some (.int .i64 a2) ∧ wx.cell? ⟨g, m * 4 + 3, none⟩ = some (.int .i64 rm))) (by kernel_rfl) (HX5.out W1.drew HD2.out) (fun hS => ?_)
          refine wpAnyH_take (i := 0) (v := ?_) rfl (by kernel_rfl) (by kernel_rfl) (by kernel_rfl) (fun _ _ _ h => h) (Or.inl ⟨by kernel_rfl, ?_⟩) (by assumption) ?_
          rotate_left
          · intro wx hSw
            try dsimp only at hSw
            go_simp <;> with_reducible rfl
          try simp only [List.getElem_toArray, List.getElem_cons_zero, List.getElem_cons_succ, Act.put, List.setIfInBounds_toArray, List.set_cons_zero, List.set_cons_succ]
          refine wpAnyH_take (i := 1) (v := ?_) rfl (by kernel_rfl) (by kernel_rfl) (by kernel_rfl) (fun _ _ _ h => h) (Or.inl ⟨by kernel_rfl, ?_⟩) (by assumption) ?_
          rotate_left
          · intro wx hSw
            try dsimp only at hSw
            go_simp <;> with_reducible rfl
          try simp only [List.getElem_toArray, List.getElem_cons_zero, List.getElem_cons_succ, Act.put, List.setIfInBounds_toArray, List.set_cons_zero, List.set_cons_succ]
          refine wpAnyH_take (i := 2) (v := ?_) rfl (by kernel_rfl) (by kernel_rfl) (by kernel_rfl) (fun _ _ _ h => h) (Or.inl ⟨by kernel_rfl, ?_⟩) (by assumption) ?_
          rotate_left
          · intro wx hSw
            try dsimp only at hSw
            go_simp <;> with_reducible rfl
          try simp only [List.getElem_toArray, List.getElem_cons_zero, List.getElem_cons_succ, Act.put, List.setIfInBounds_toArray, List.set_cons_zero, List.set_cons_succ]
          refine wpAnyH_take (i := 3) (v := ?_) rfl (by kernel_rfl) (by kernel_rfl) (by kernel_rfl) (fun _ _ _ h => h) (Or.inl ⟨by kernel_rfl, ?_⟩) (by assumption) ?_
          rotate_left
          · intro wx hSw
            try dsimp only at hSw
            go_simp <;> with_reducible rfl
          try simp only [List.getElem_toArray, List.getElem_cons_zero, List.getElem_cons_succ, Act.put, List.setIfInBounds_toArray, List.set_cons_zero, List.set_cons_succ]
          refine wpAnyH_take (i := 4) (v := ?_) rfl (by kernel_rfl) (by kernel_rfl) (by kernel_rfl) (fun _ _ _ h => h) (Or.inl ⟨by kernel_rfl, ?_⟩) (by assumption) ?_
          rotate_left
          · intro wx hSw
            try dsimp only at hSw
            go_simp <;> with_reducible rfl
          try simp only [List.getElem_toArray, List.getElem_cons_zero, List.getElem_cons_succ, Act.put, List.setIfInBounds_toArray, List.set_cons_zero, List.set_cons_succ]
          refine wpAnyH_take (i := 5) (v := ?_) rfl (by kernel_rfl) (by kernel_rfl) (by kernel_rfl) (fun _ _ _ h => h) (Or.inl ⟨by kernel_rfl, ?_⟩) (by assumption) ?_
          rotate_left
          · intro wx hSw
            try dsimp only at hSw
            go_simp <;> with_reducible rfl
          try simp only [List.getElem_toArray, List.getElem_cons_zero, List.getElem_cons_succ, Act.put, List.setIfInBounds_toArray, List.set_cons_zero, List.set_cons_succ]
          refine wpAnyH_take (i := 6) (v := ?_) rfl (by kernel_rfl) (by kernel_rfl) (by kernel_rfl) (fun _ _ _ h => h) (Or.inl ⟨by kernel_rfl, ?_⟩) (by assumption) ?_
          rotate_left
          · intro wx hSw
            try dsimp only at hSw
            go_simp <;> with_reducible rfl
          try simp only [List.getElem_toArray, List.getElem_cons_zero, List.getElem_cons_succ, Act.put, List.setIfInBounds_toArray, List.set_cons_zero, List.set_cons_succ]
          refine wpAnyH_take (i := 7) (v := ?_) rfl (by kernel_rfl) (by kernel_rfl) (by kernel_rfl) (fun _ _ _ h => h) (Or.inl ⟨by kernel_rfl, ?_⟩) (by assumption) ?_
          rotate_left
          · intro wx hSw
            try dsimp only at hSw
            go_simp <;> with_reducible rfl
          try simp only [List.getElem_toArray, List.getElem_cons_zero, List.getElem_cons_succ, Act.put, List.setIfInBounds_toArray, List.set_cons_zero, List.set_cons_succ]
          refine wpAnyH_take (i := 8) (v := ?_) rfl (by kernel_rfl) (by kernel_rfl) (by kernel_rfl) (fun _ _ _ h => h) (Or.inl ⟨by kernel_rfl, ?_⟩) (by assumption) ?_
          rotate_left
          · intro wx hSw
            try dsimp only at hSw
            go_simp <;> with_reducible rfl
          try simp only [List.getElem_toArray, List.getElem_cons_zero, List.getElem_cons_succ, Act.put, List.setIfInBounds_toArray, List.set_cons_zero, List.set_cons_succ]
          refine wpAnyH_take (i := 10) (v := ?_) rfl (by kernel_rfl) (by kernel_rfl) (by kernel_rfl) (fun _ _ _ h => h) (Or.inl ⟨by kernel_rfl, ?_⟩) (by assumption) ?_
          rotate_left
          · intro wx hSw
            try dsimp only at hSw
            go_simp <;> with_reducible rfl
          try simp only [List.getElem_toArray, List.getElem_cons_zero, List.getElem_cons_succ, Act.put, List.setIfInBounds_toArray, List.set_cons_zero, List.set_cons_succ]
          refine wpAnyH_take (i := 11) (v := ?_) rfl (by kernel_rfl) (by kernel_rfl) (by kernel_rfl) (fun _ _ _ h => h) (Or.inl ⟨by kernel_rfl, ?_⟩) (by assumption) ?_
          rotate_left
          · intro wx hSw
            try dsimp only at hSw
            go_simp <;> with_reducible rfl
          try simp only [List.getElem_toArray, List.getElem_cons_zero, List.getElem_cons_succ, Act.put, List.setIfInBounds_toArray, List.set_cons_zero, List.set_cons_succ]
          refine wpAnyH_take (i := 12) (v := ?_) rfl (by kernel_rfl) (by kernel_rfl) (by kernel_rfl) (fun _ _ _ h => h) (Or.inl ⟨by kernel_rfl, ?_⟩) (by assumption) ?_
          rotate_left
          · intro wx hSw
            try dsimp only at hSw
            go_simp <;> with_reducible rfl
          try simp only [List.getElem_toArray, List.getElem_cons_zero, List.getElem_cons_succ, Act.put, List.setIfInBounds_toArray, List.set_cons_zero, List.set_cons_succ]
          refine wpAnyH_take (i := 13) (v := ?_) rfl (by kernel_rfl) (by kernel_rfl) (by kernel_rfl) (fun _ _ _ h => h) (Or.inl ⟨by kernel_rfl, ?_⟩) (by assumption) ?_
          rotate_left
          · intro wx hSw
            try dsimp only at hSw
            go_simp <;> with_reducible rfl
          try simp only [List.getElem_toArray, List.getElem_cons_zero, List.getElem_cons_succ, Act.put, List.setIfInBounds_toArray, List.set_cons_zero, List.set_cons_succ]
          refine wpAnyH_take (i := 14) (v := ?_) rfl (by kernel_rfl) (by kernel_rfl) (by kernel_rfl) (fun _ _ _ h => h) (Or.inl ⟨by kernel_rfl, ?_⟩) (by assumption) ?_
          rotate_left
          · intro wx hSw
            try dsimp only at hSw
            go_simp <;> with_reducible rfl
          try simp only [List.getElem_toArray, List.getElem_cons_zero, List.getElem_cons_succ, Act.put, List.setIfInBounds_toArray, List.set_cons_zero, List.set_cons_succ]
          refine wpAnyH_ready (rs := [9]) (by kernel_rfl) (by simp) ?_
          refine AllReadyH.cons rfl (fun K hK' => ?_) AllReadyH.nil
          have hK := Lib.hid hK'
          clear hK'
          try rw [if_pos (by kernel_rfl)]
          go_simp
          go_at_call 36
          refine (HE1.out _).mono ?_
          rintro e W6 ⟨rfl, hb⟩
          have HB6 := Lib.hid (HD2.out.trans (hb.mono HD2.out.size))
          clear hb
          refine hK.out _ _ (HX5.out W6 HB6.out) (fun hS1 => ?_)
          clear hK K
          try simp only [List.getElem_toArray, List.getElem_cons_zero, List.getElem_cons_succ, Act.put, List.setIfInBounds_toArray, List.set_cons_zero, List.set_cons_succ]
          refine wpAnyH_ready (rs := [15]) (by kernel_rfl) (by simp) ?_
          refine AllReadyH.cons rfl (fun K hK' => ?_) AllReadyH.nil
          have hK := Lib.hid hK'
          clear hK'
          try rw [if_pos (by kernel_rfl)]
          go_simp
          go_at_call 36
          refine (HE2.out _).mono ?_
          rintro e W7 ⟨rfl, hb⟩
          have HB7 := Lib.hid (HB6.out.trans (hb.mono HB6.out.size))
          clear hb
          refine hK.out _ _ (HX5.out W7 HB7.out) (fun hS2 => ?_)
          clear hK K
          try simp only [List.getElem_toArray, List.getElem_cons_zero, List.getElem_cons_succ, Act.put, List.setIfInBounds_toArray, List.set_cons_zero, List.set_cons_succ]
          refine wpAnyH_take (i := 16) (v := ?_) rfl (by kernel_rfl) (by kernel_rfl) (by kernel_rfl) (fun _ _ _ h => h) (Or.inl ⟨by kernel_rfl, ?_⟩) (by assumption) ?_
          rotate_left
          · intro wx hSw
            try dsimp only at hSw
            go_simp <;> with_reducible rfl
          try simp only [List.getElem_toArray, List.getElem_cons_zero, List.getElem_cons_succ, Act.put, List.setIfInBounds_toArray, List.set_cons_zero, List.set_cons_succ]
          refine wpAnyH_take (i := 17) (v := ?_) rfl (by kernel_rfl) (by kernel_rfl) (by kernel_rfl) (fun _ _ _ h => h) (Or.inl ⟨by kernel_rfl, ?_⟩) (by assumption) ?_
          rotate_left
          · intro wx hSw
            try dsimp only at hSw
            go_simp <;> with_reducible rfl
          try simp only [List.getElem_toArray, List.getElem_cons_zero, List.getElem_cons_succ, Act.put, List.setIfInBounds_toArray, List.set_cons_zero, List.set_cons_succ]
          refine wpAnyH_take (i := 18) (v := ?_) rfl (by kernel_rfl) (by kernel_rfl) (by kernel_rfl) (fun _ _ _ h => h) (Or.inl ⟨by kernel_rfl, ?_⟩) (by assumption) ?_
          rotate_left
          · intro wx hSw
            try dsimp only at hSw
            go_simp <;> with_reducible rfl
          try simp only [List.getElem_toArray, List.getElem_cons_zero, List.getElem_cons_succ, Act.put, List.setIfInBounds_toArray, List.set_cons_zero, List.set_cons_succ]
          refine wpAnyH_done (by kernel_rfl) ?_ _
          · have HBF := Lib.hid (HB1.out.trans (HB7.out.mono HB1.out.size))
            by_cases cE : e1 < e2
            · have HZ1 := Lib.hid (HZ.out (k : Int) (by rw [if_pos cE]))
              go_wp2
              go_roundw
              case rel => exact HNX.out _ _ HZ1.out HBF.out
              case measure => have := HKN.out; simp [intOf]; omega
            · have HZ1 := Lib.hid (HZ.out (m : Int) (by rw [if_neg cE]))
              go_wp2
              go_roundw
              case rel => exact HNX.out _ _ HZ1.out HBF.out
              case measure => have := HKN.out; simp [intOf]; omega
      · have hz : bstR l t r (k + 1) = bstR l t r k := by rw [hst, if_neg (fun h => hr0 h.1)]
        have HZ := Lib.hid hz
        obtain ⟨bz, hbz⟩ : ∃ z, bstR l t r k = z := ⟨_, rfl⟩
        rw [hbz] at HZ
        rw [hbz]
        have hrr : decide (0 < rk) = false := decide_eq_false hr0
        clear hst hrg hx hrk h1 h2 h3 h4 hb1 hx1 hk hz hbz
        go_upto_region 5 with fail
        obtain ⟨Q, hQ⟩ : ∃ Q, W0.heap.size = Q := ⟨_, rfl⟩
        obtain ⟨W1, hW1⟩ : ∃ X, W0.alloc (.cells #[.int .i64 s, .int .i64 p, .int .i64 a, .int .i64 rk] 66) = X := ⟨_, rfl⟩
        rw [hW1, hQ] at HX1
        rw [hW1] at HB1
        rw [hW1, hQ]
        have z3 : W1.cell? ⟨Q, 3, none⟩ = some (.int .i64 rk) := by rw [cell_of_row _ _ _ _ _ _ HX1.out]; rfl
        clear hW1 hQ y0 y1 y2 y3
        go_quiet (fail)
        go_wp2
        go_roundw
        case rel => exact HNX.out _ _ HZ.out ⟨HB1.out.os, HB1.out.tape, HB1.out.output, HB1.out.size, HB1.out.block⟩
        case measure => have := HKN.out; simp [intOf]; omega
    · obtain rfl : k = n := by omega
      have hsp := bst_spec l t r k
      rw [HBZ.out] at hsp ⊢
      rcases hsp with ⟨rfl, _⟩ | ⟨m, hm, rfl, hr1, _⟩
      · obtain rfl : idz = -1 := by rw [← HIDZ.out]; unfold idR; rw [if_pos (by omega)]
        have HF : Hid (BR g 66 (jD l ru k) W0) := by
          have h := HBR.out
          rw [jD_congr l (r' := ru) k (fun i hi => by rw [← HRU.out]; unfold updR; rw [if_neg (by omega)])] at h
          exact h
        have HJF := Lib.hid (Just.of_below (g := g) HB.out)
        clear HBR HB
        go_wp2
        go_ret
        exact ⟨rfl, HF.out, HJF.out⟩
      · have hmb := (HRO.out m (by rw [HN.out]; exact hm))
        have hmp := HP.out m (by rw [HN.out]; exact hm)
        have hid : (nd l m).s = idz := by rw [← HIDZ.out]; unfold idR; rw [if_neg (by omega)]; rfl
        have HPK := Lib.hid (fun v => jpoke HBR.out hm v)
        have hup : (fun i => if i = m then r m - 1 else r i) = ru := by
          rw [← HRU.out]
          funext i
          unfold updR
          by_cases c : i = m
          · subst c; rw [if_pos rfl, if_pos rfl]
          · rw [if_neg (show ¬ (i : Int) = (m : Int) by omega), if_neg c]
        obtain ⟨y0, y1, y2, y3⟩ := jcells HBR.out hm
        have z4 := HBR.out.thaw (m * 4 + 3)
        obtain ⟨rm, hrm⟩ : ∃ x, r m = x := ⟨_, rfl⟩
        rw [hrm] at y3 hmb hr1 hup
        have HPK1 := Lib.hid (HPK.out (rm - 1))
        rw [hup] at HPK1
        have y5 := (jcells HPK1.out.1 hm).1
        rw [hid] at y0 y5
        have hw1 : IntKind.i64.wrap (rm - 1) = rm - 1 := IntWalk.i64_in _ (by omega)
        have hm1 : (0 : Int) ≤ m := by omega
        have hm2 : (m : Int) < k := by omega
        have hm3 : ¬ (m : Int) < 0 := by omega
        have HJF := Lib.hid ((Just.of_below (g := g) HB.out).trans HPK1.out.2)
        have HBF := Lib.hid HPK1.out.1
        clear hmb hmp hid HPK hup hrm hr1
        go_wp2
        go_ret
        exact ⟨rfl, HBF.out, HJF.out⟩
end Go.Proofs.YtpjillclladjaaaDoor.Pln
