/- The function PairsReach returns true for every slice of pairs, every number and every pair. Condition: none. This text: the walk through the Go text; the row is in the text without the W at its name's end. -/
import Derived.Test.YtnngldkpkhabeaaMg01
import Derived.Test.YtnngldkpkhabeaaMg34
import Derived.Deep.RegionHeld3
import Derived.Deep.RegionLaw
namespace Go.Proofs.Ytnngldkpkhabeaa.pairsReach

open Go.RowKit Go.PlainAid Go.Proofs.Ytnngldkpkhabeaa.Args

set_option linter.unusedVariables false

open Go.Proofs.Ytnngldkpkhabeaa.Pai

open Go.Proofs.Ytnngldkpkhabeaa.Rel (has10_any hasB phas_any)

set_option linter.unusedSimpArgs false

theorem p2_of {w : World} {a : Array Value} (h : IsAgg w [.one (.int .i64), .one (.int .i64)] a) : ∃ x : P2, a = #[.int .i64 x.f, .int .i64 x.t] := by
  obtain ⟨hs, hc⟩ := h
  obtain ⟨v0, e0, s, rfl, hs0⟩ := hc 0 _ rfl
  obtain ⟨v1, e1, t, rfl, hs1⟩ := hc 1 _ rfl
  refine ⟨⟨s, t⟩, ?_⟩
  simp at hs
  apply Array.ext
  · simp [hs]
  · intro i h1 h2
    match i, h1, h2 with
    | 0, h1, h2 => rw [Array.getElem?_eq_getElem h1] at e0; exact Option.some.inj e0
    | 1, h1, h2 => rw [Array.getElem?_eq_getElem h1] at e1; exact Option.some.inj e1
    | i + 2, h1, h2 => simp at h2; omega
/-- Numbers of a call's own. -/
def OwnI (xs : List Int) (V : Value) (w : World) : Prop := ∃ B, w.ownsRow B 3 1 V xs.length (xs.map (Value.int .i64))
theorem OwnI.keep {xs : List Int} {V : Value} {w w' : World} (h : OwnI xs V w) (b : Below w.heap.size w w') : OwnI xs V w' := by
  obtain ⟨B, h⟩ := h
  exact ⟨B, own_keepP h b⟩
set_option maxRecDepth 8000 in
set_option maxHeartbeats 1600000 in
theorem sameI_yes (w : World) (V1 V2 : Value) (xs : List Int) (hl : xs.length ≤ 1000000) (h1 : OwnI xs V1 w) (h2 : OwnI xs V2 w) :
    Calls Try.prog 12 #[V1, V2] w fun e w' => e = .returned (.bool true) ∧ Below w.heap.size w w' := by
  obtain ⟨B1, h1⟩ := h1
  obtain ⟨B2, h2⟩ := h2
  obtain ⟨A1, c1, rfl⟩ := Cel.own_slice h1
  obtain ⟨A2, c2, rfl⟩ := Cel.own_slice h2
  have H1 := Lib.hid h1
  have H2 := Lib.hid h2
  obtain ⟨n, hn⟩ : ∃ n, xs.length = n := ⟨_, rfl⟩
  have HN := Lib.hid hn
  rw [hn] at hl H1 H2
  rw [hn]
  have tne : ((n : Int) != (n : Int)) = false := by simp
  clear h1 h2 hn
  go_enter Try.func12, Try.ntmps12
  go_wp2
  go_loopw [5] (fun i wr => ∃ k m : Nat, k ≤ n ∧ i = .int .i64 k ∧ wr = w.drewN m) (fun i _ => n - (intOf i).toNat)
  case atStart => exact ⟨0, 0, Nat.zero_le _, rfl, rfl⟩
  case round =>
    obtain ⟨k, mm, hk, rfl, hw⟩ := hrel
    have HW := Lib.hid hw
    by_cases hlt : k < n
    · obtain ⟨x, hx⟩ : ∃ x, xs[k]? = some x := ⟨_, List.getElem?_eq_getElem (by have := HN.out; omega)⟩
      obtain ⟨g1, d1, q1, _, _, _⟩ := own_some H1.out (by omega)
      obtain ⟨g2, d2, q2, _, _, _⟩ := own_some H2.out (by omega)
      simp only [Value.slice.injEq] at q1 q2
      obtain ⟨rfl, _, rfl⟩ := q1
      obtain ⟨rfl, _, rfl⟩ := q2
      have c1' : wr.cell? ⟨g1, k, none⟩ = some (.int .i64 x) := by rw [hw]; exact (H1.out.cellAt k (by omega)).trans (by simp [hx])
      have c2' : wr.cell? ⟨g2, k, none⟩ = some (.int .i64 x) := by rw [hw]; exact (H2.out.cellAt k (by omega)).trans (by simp [hx])
      have tx : (x != x) = false := by simp
      have hki : (0 : Int) ≤ k := by omega
      have hka : (k : Int) < n := by omega
      clear hw hx H1 H2
      go_wp2
      go_quiet (fail)
      go_wp2
      go_roundw
      case rel => exact ⟨k + 1, mm + nq, by omega, by go_num, by rw [HW.out, World.drewN_drewN]⟩
      case measure => simp [intOf]; omega
    · obtain rfl : k = n := by omega
      clear hw
      go_wp2
      go_ret
      exact ⟨rfl, by rw [HW.out]; exact below_drewN (Below.refl _ _) mm⟩
set_option maxRecDepth 16000 in
set_option maxHeartbeats 12800000 in
theorem walk (a0 : Option Addr) (len0 cap0 : Nat) (a1 : Int) (a2 : Array Value) (w : World) (w0 : IsRecs w a0 len0 cap0 [.int .i64, .int .i64]) (w1 : (Lit.int .i64 a1).wf = true) (w2 : IsAgg w [.one (.int .i64), .one (.int .i64)] a2) :
    Calls Try.prog 3 #[.slice a0 len0 cap0, .int .i64 a1, .agg a2] w fun e w' => e = .returned (.bool true) ∧ Below w.heap.size w w' := by
  obtain ⟨L, hll, hprs, hwide, hlc, hcm⟩ := pairs_of w0
  obtain ⟨p, rfl⟩ := p2_of w2
  have hnil : a0 = none → cap0 = 0 := fun e => by
    rcases w0 with ⟨_, _, h⟩ | ⟨y, h, _⟩
    · exact h
    · rw [e] at h; cases h
  by_cases hbig : 24 < len0
  · have t1 : decide ((24 : Int) < (len0 : Int)) = true := decide_eq_true (by omega)
    have t1n : decide (24 < len0) = true := decide_eq_true hbig
    have HAW := Lib.hid (fun w => awake_any w)
    have HB0 : Hid (Below w.heap.size w (w.alloc (.cells #[.int .i64 p.f, .int .i64 p.t] 24))) := (Below.refl _ _).alloc (Nat.le_refl _) _
    clear w0 w1 w2 hll hprs hwide hlc hcm hbig hnil
    go_enter Try.func3, Try.ntmps3
    go_wp2_with (go_at_call 6; refine (HAW.out _).mono ?_; rintro e w9 ⟨rfl, hb9⟩)
    go_ret
    exact ⟨rfl, HB0.out.trans (hb9.mono HB0.out.size)⟩
  have t1 : decide ((24 : Int) < (len0 : Int)) = false := decide_eq_false (by omega)
  have t1n : decide (24 < len0) = false := decide_eq_false hbig
  have h24 : len0 ≤ 24 := by omega
  have HB0 : Hid (Below w.heap.size w (w.alloc (.cells #[.int .i64 p.f, .int .i64 p.t] 24))) := (Below.refl _ _).alloc (Nat.le_refl _) _
  have HBX0 := Lib.hid (heap_alloc_new w (.cells #[.int .i64 p.f, .int .i64 p.t] 24))
  have HPRS := Lib.hid hprs
  have H7 : Hid (∀ W, Below w.heap.size w W → Calls Try.prog 7 #[.slice a0 len0 cap0] W (PuPost (srtD L) W)) := fun W b => rsort10_any a0 cap0 len0 L W (hprs.kept b) hll h24
  have H8 : Hid (∀ W, Below w.heap.size w W → Calls Try.prog 8 #[.slice a0 len0 cap0] W (ClPost L W)) := fun W b => rclosed10_any a0 cap0 len0 L W (hprs.kept b) hll h24
  have H10A : Hid (∀ W, Below w.heap.size w W → Calls Try.prog 10 #[.slice a0 len0 cap0] W (PuPost (srtD L) W)) := fun W b => by
    refine (psort_any a0 cap0 len0 L W (hprs.kept b) hnil hlc hll (by omega)).mono ?_
    rintro e w' ⟨C, A, n, c, ho, rfl, hown, hb⟩
    obtain rfl := ho.one (srtD_ord L)
    exact ⟨_, rfl, ⟨A, c, by rw [hown.1], hown.pairs, hown.nil_, by rw [hown.1]; exact hown.2.1⟩, hb⟩
  have H11A : Hid (∀ W, Below w.heap.size w W → Calls Try.prog 11 #[.slice a0 len0 cap0] W (PClPost L W)) := fun W b => pclosed_any a0 len0 cap0 L W (hprs.kept b) hnil hlc hll h24 hwide
  have H13A : Hid (∀ W, Below w.heap.size w W → Calls Try.prog 13 #[.slice a0 len0 cap0, .int .i64 a1] W fun e w' => ∃ C, Ord L C ∧ IntPost (tgt C a1) W e w') := fun W b => ptargets_any a0 len0 cap0 L a1 W (hprs.kept b) hnil hlc hll (by omega)
  have H15A : Hid (∀ W, Below w.heap.size w W → Calls Try.prog 15 #[.slice a0 len0 cap0, .int .i64 a1] W (RePost L a1 W)) := fun W b => preach_any a0 len0 cap0 L a1 W (hprs.kept b) hnil hlc hll (by omega) hwide
  have H16A : Hid (∀ W, Below w.heap.size w W → Calls Try.prog 16 #[.slice a0 len0 cap0, .agg #[.int .i64 p.f, .int .i64 p.t]] W fun e w' => e = .returned (.bool (hasB L p)) ∧ Below W.heap.size W w') := fun W b => phas_any a0 cap0 len0 L p W (hprs.kept b) hll (by omega)
  have H17A : Hid (∀ W, Below w.heap.size w W → Calls Try.prog 17 #[.slice a0 len0 cap0, .agg #[.int .i64 p.f, .int .i64 p.t]] W fun e w' => e = .returned (.bool (hasB L p)) ∧ Below W.heap.size W w') := fun W b => has10_any a0 cap0 len0 L p W (hprs.kept b) hll (by omega)
  have HAW := Lib.hid (fun w => awake_any w)
  have HLL : Hid (L.length = len0 ∧ len0 ≤ 24) := ⟨hll, h24⟩
  obtain ⟨hb_, hhb⟩ : ∃ b, hasB L p = b := ⟨_, rfl⟩
  rw [hhb] at H16A H17A
  have teq : (hb_ == hb_) = true := by simp
  clear w0 w1 w2 hll hprs hwide hlc hcm hbig hnil h24 hhb
  go_enter Try.func3, Try.ntmps3
  go_wp2_with fail
  refine (H7.out _ HB0.out).mono ?_
  rintro e w3 ⟨V7, rfl, hp7, hb7⟩
  have HP7' := Lib.hid hp7
  have HB7 := Lib.hid (HB0.out.trans (hb7.mono HB0.out.size))
  have HBX7 := Lib.hid (box_kept HBX0.out hb7)
  clear hp7 hb7
  go_wp2_with fail
  refine (H8.out _ HB7.out).mono ?_
  rintro e w4 ⟨D, V8, hD, rfl, hp8, hb8⟩
  have HD := Lib.hid hD
  have HB3 := Lib.hid (HB7.out.trans (hb8.mono HB7.out.size))
  have HBX := Lib.hid (box_kept HBX7.out hb8)
  have HP7 : Hid (∀ W, Below w4.heap.size w4 W → Prs (srtD L) V7 W) := fun W b => (HP7'.out.keep hb8).keep b
  have HP8 : Hid (∀ W, Below w4.heap.size w4 W → Prs D V8 W) := fun W b => hp8.keep b
  have HDL : Hid (D.length ≤ 576) := Nat.le_trans (conn_len hD.rise fun x hx => (hD.mem x).1 hx) (by rw [HLL.out.1]; exact sq_576 HLL.out.2)
  have HSL : Hid ((srtD L).length ≤ 24) := Nat.le_trans (srtD_ord L).len (by have := HLL.out; omega)
  have up : ∀ W, Below w4.heap.size w4 W → Below w.heap.size w W := fun W b => HB3.out.trans (b.mono HB3.out.size)
  have H10 : Hid (∀ W, Below w4.heap.size w4 W → Calls Try.prog 10 #[.slice a0 len0 cap0] W fun e w' => ∃ V, e = .returned V ∧ Prs (srtD L) V w' ∧ Below W.heap.size W w') := fun W b => H10A.out W (up W b)
  have H11 : Hid (∀ W, Below w4.heap.size w4 W → Calls Try.prog 11 #[.slice a0 len0 cap0] W fun e w' => ∃ V, e = .returned V ∧ Prs D V w' ∧ Below W.heap.size W w') := fun W b => (H11A.out W (up W b)).mono (by
    rintro e w' ⟨D', V, hD', rfl, h1, h2⟩
    obtain rfl := hD'.one HD.out
    exact ⟨V, rfl, h1, h2⟩)
  have H9 : Hid (∀ W (C : List P2) V1 V2, C.length ≤ 1000000 → Prs C V1 W → Prs C V2 W → Calls Try.prog 9 #[V1, V2] W fun e w' => e = .returned (.bool true) ∧ Below W.heap.size W w') := fun W C V1 V2 hl h1 h2 => by
    obtain ⟨A1, c1, rfl, p1, _, q1⟩ := h1
    obtain ⟨A2, c2, rfl, p2, _, _⟩ := h2
    refine (same10_yes A1 A2 c1 c2 C W p1 p2 (by unfold maxLen; omega)).mono ?_
    rintro e w' ⟨rfl, n, rfl⟩
    exact ⟨rfl, below_drewN (Below.refl _ _) n⟩
  have H13 : Hid (∀ W, Below w4.heap.size w4 W → Calls Try.prog 13 #[.slice a0 len0 cap0, .int .i64 a1] W fun e w' => ∃ V, e = .returned V ∧ OwnI (tgt (srtD L) a1) V w' ∧ Below W.heap.size W w') := fun W b => (H13A.out W (up W b)).mono (by
    rintro e w' ⟨C, ho, V, rfl, h1, h2⟩
    obtain rfl := ho.one (srtD_ord L)
    exact ⟨V, rfl, ⟨_, h1⟩, h2⟩)
  have H14S : Hid (∀ W, Below w4.heap.size w4 W → Calls Try.prog 14 #[V7, .int .i64 a1] W fun e w' => ∃ V, e = .returned V ∧ OwnI (tgt (srtD L) a1) V w' ∧ Below W.heap.size W w') := fun W b => by
    obtain ⟨A1, c1, rfl, p1, _, q1⟩ := HP7.out W b
    refine (tos10_any A1 c1 _ (srtD L) a1 W p1 rfl (by have := HSL.out; omega)).mono ?_
    rintro e w' ⟨V, rfl, h1, h2⟩
    exact ⟨V, rfl, ⟨_, h1⟩, h2⟩
  have H14D : Hid (∀ W, Below w4.heap.size w4 W → Calls Try.prog 14 #[V8, .int .i64 a1] W fun e w' => ∃ V, e = .returned V ∧ OwnI (tgt D a1) V w' ∧ Below W.heap.size W w') := fun W b => by
    obtain ⟨A1, c1, rfl, p1, _, q1⟩ := HP8.out W b
    refine (tos10_any A1 c1 _ D a1 W p1 rfl (by have := HDL.out; omega)).mono ?_
    rintro e w' ⟨V, rfl, h1, h2⟩
    exact ⟨V, rfl, ⟨_, h1⟩, h2⟩
  have H15 : Hid (∀ W, Below w4.heap.size w4 W → Calls Try.prog 15 #[.slice a0 len0 cap0, .int .i64 a1] W fun e w' => ∃ V, e = .returned V ∧ OwnI (tgt D a1) V w' ∧ Below W.heap.size W w') := fun W b => (H15A.out W (up W b)).mono (by
    rintro e w' ⟨V, F, rfl, hr, h1, h2⟩
    obtain rfl := hr.one (HD.out.tgt a1)
    exact ⟨V, rfl, ⟨_, h1⟩, h2⟩)
  have HS9 : Hid ((srtD L).length ≤ 1000000) := by have := HSL.out; show _ ≤ _; omega
  have HD9 : Hid (D.length ≤ 1000000) := by have := HDL.out; show _ ≤ _; omega
  have H12 := Lib.hid (fun W V1 V2 xs hl h1 h2 => sameI_yes W V1 V2 xs hl h1 h2)
  have H16 := Lib.hid (fun W b => H16A.out W (up W b))
  have H17 := Lib.hid (fun W b => H17A.out W (up W b))
  have HLT : Hid ((tgt (srtD L) a1).length ≤ 1000000) := Nat.le_trans (tgt_len _ _) (by have := HSL.out; omega)
  have HLD : Hid ((tgt D a1).length ≤ 1000000) := Nat.le_trans (tgt_len _ _) (by have := HDL.out; omega)
  have HBX2 : Hid (∀ W, Below w4.heap.size w4 W → W.cell? ⟨w.heap.size, 0, none⟩ = some (.int .i64 p.f) ∧ W.cell? ⟨w.heap.size, 1, none⟩ = some (.int .i64 p.t)) := fun W b => by
    have h := box_kept HBX.out b
    exact ⟨(cell_of_row _ _ _ _ _ _ h).trans rfl, (cell_of_row _ _ _ _ _ _ h).trans rfl⟩
  have HPR2 : Hid (∀ W, Below w4.heap.size w4 W → PairsAt W a0 L) := fun W b => HPRS.out.kept (up W b)
  clear hD hp8 hb8 HP7' HB7 HBX7 HB0 HBX0 up H7 H8 H10A H11A H13A H15A H16A H17A
  have HBD : Hid (Below w4.heap.size w4 w4.drew) := ⟨rfl, rfl, rfl, Nat.le_refl _, fun _ _ => rfl⟩
  cases hLc : L with
  | nil =>
    have hl0 : len0 = 0 := by have h := HLL.out.1; rw [hLc] at h; exact h.symm
    have HQC : Hid (∀ W, Below w4.heap.size w4 W → W.cell? ⟨w.heap.size, 0, none⟩ = some (.int .i64 p.f) ∧ W.cell? ⟨w.heap.size, 1, none⟩ = some (.int .i64 p.t)) := fun W b => HBX2.out W b
    have tz : ((len0 : Int) == 0) = true := by rw [hl0]; rfl
    have tzn : (len0 == 0) = true := by rw [hl0]; rfl
    clear hLc hl0
    · go_upto_region 4 with fail
      refine wp_region_held_drew (S := (fun wx => wx.cell? ⟨w.heap.size, 0, none⟩ = some (.int .i64 p.f) ∧ wx.cell? ⟨w.heap.size, 1, none⟩ = some (.int .i64 p.t))) (by kernel_rfl) (HQC.out w4.drew HBD.out) (fun hS => ?_)
      refine wpAnyH_take (i := 0) (v := ?_) rfl (by kernel_rfl) (by kernel_rfl) (by kernel_rfl) (fun _ _ _ h => h) (Or.inl ⟨by kernel_rfl, ?_⟩) (by assumption) ?_
      rotate_left
      · intro wx hSw
        try dsimp only at hSw
        go_simp <;> with_reducible rfl
      try simp only [List.getElem_toArray, List.getElem_cons_zero, List.getElem_cons_succ, Act.put, List.setIfInBounds_toArray, List.set_cons_zero, List.set_cons_succ]
      refine wpAnyH_take (i := 2) (v := ?_) rfl (by kernel_rfl) (by kernel_rfl) (by kernel_rfl) (fun _ _ _ h => h) (Or.inl ⟨by kernel_rfl, ?_⟩) (by assumption) ?_
      rotate_left
      · intro wx hSw
        try dsimp only at hSw
        go_simp <;> with_reducible rfl
      try simp only [List.getElem_toArray, List.getElem_cons_zero, List.getElem_cons_succ, Act.put, List.setIfInBounds_toArray, List.set_cons_zero, List.set_cons_succ]
      refine wpAnyH_ready (rs := [1]) (by kernel_rfl) (by simp) ?_
      refine AllReadyH.cons rfl (fun K hK' => ?_) AllReadyH.nil
      have hK := Lib.hid hK'
      clear hK'
      try rw [if_pos (by kernel_rfl)]
      go_simp
      go_at_call 10
      refine (H10.out w4.drew HBD.out).mono ?_
      rintro e x1 ⟨V10, rfl, hp, hb⟩
      have HX1 := Lib.hid (HBD.out.trans (hb.mono HBD.out.size))
      have HP10 := Lib.hid hp
      clear hp
      clear hb
      refine hK.out _ _ (HQC.out x1 HX1.out) (fun hS1 => ?_)
      clear hK K
      try simp only [List.getElem_toArray, List.getElem_cons_zero, List.getElem_cons_succ, Act.put, List.setIfInBounds_toArray, List.set_cons_zero, List.set_cons_succ]
      refine wpAnyH_ready (rs := [3]) (by kernel_rfl) (by simp) ?_
      refine AllReadyH.cons rfl (fun K hK' => ?_) AllReadyH.nil
      have hK := Lib.hid hK'
      clear hK'
      try rw [if_pos (by kernel_rfl)]
      go_simp
      go_at_call 9
      refine (H9.out _ _ _ _ HS9.out HP10.out (HP7.out _ HX1.out)).mono ?_
      rintro e x2 ⟨rfl, hb⟩
      have HX2 := Lib.hid (HX1.out.trans (hb.mono HX1.out.size))
      clear HP10
      clear hb
      refine hK.out _ _ (HQC.out x2 HX2.out) (fun hS2 => ?_)
      clear hK K
      try simp only [List.getElem_toArray, List.getElem_cons_zero, List.getElem_cons_succ, Act.put, List.setIfInBounds_toArray, List.set_cons_zero, List.set_cons_succ]
      refine wpAnyH_take (i := 4) (v := ?_) rfl (by kernel_rfl) (by kernel_rfl) (by kernel_rfl) (fun _ _ _ h => h) (Or.inl ⟨by kernel_rfl, ?_⟩) (by assumption) ?_
      rotate_left
      · intro wx hSw
        try dsimp only at hSw
        go_simp <;> with_reducible rfl
      try simp only [List.getElem_toArray, List.getElem_cons_zero, List.getElem_cons_succ, Act.put, List.setIfInBounds_toArray, List.set_cons_zero, List.set_cons_succ]
      refine wpAnyH_take (i := 5) (v := ?_) rfl (by kernel_rfl) (by kernel_rfl) (by kernel_rfl) (fun _ _ _ h => h) (Or.inl ⟨by kernel_rfl, ?_⟩) (by assumption) ?_
      rotate_left
      · intro wx hSw
        try dsimp only at hSw
        go_simp <;> with_reducible rfl
      try simp only [List.getElem_toArray, List.getElem_cons_zero, List.getElem_cons_succ, Act.put, List.setIfInBounds_toArray, List.set_cons_zero, List.set_cons_succ]
      refine wpAnyH_take (i := 7) (v := ?_) rfl (by kernel_rfl) (by kernel_rfl) (by kernel_rfl) (fun _ _ _ h => h) (Or.inl ⟨by kernel_rfl, ?_⟩) (by assumption) ?_
      rotate_left
      · intro wx hSw
        try dsimp only at hSw
        go_simp <;> with_reducible rfl
      try simp only [List.getElem_toArray, List.getElem_cons_zero, List.getElem_cons_succ, Act.put, List.setIfInBounds_toArray, List.set_cons_zero, List.set_cons_succ]
      refine wpAnyH_ready (rs := [6]) (by kernel_rfl) (by simp) ?_
      refine AllReadyH.cons rfl (fun K hK' => ?_) AllReadyH.nil
      have hK := Lib.hid hK'
      clear hK'
      try rw [if_pos (by kernel_rfl)]
      go_simp
      go_at_call 11
      refine (H11.out x2 HX2.out).mono ?_
      rintro e x3 ⟨V11, rfl, hp, hb⟩
      have HX3 := Lib.hid (HX2.out.trans (hb.mono HX2.out.size))
      have HP11 := Lib.hid hp
      clear hp
      clear hb
      refine hK.out _ _ (HQC.out x3 HX3.out) (fun hS3 => ?_)
      clear hK K
      try simp only [List.getElem_toArray, List.getElem_cons_zero, List.getElem_cons_succ, Act.put, List.setIfInBounds_toArray, List.set_cons_zero, List.set_cons_succ]
      refine wpAnyH_ready (rs := [8]) (by kernel_rfl) (by simp) ?_
      refine AllReadyH.cons rfl (fun K hK' => ?_) AllReadyH.nil
      have hK := Lib.hid hK'
      clear hK'
      try rw [if_pos (by kernel_rfl)]
      go_simp
      go_at_call 9
      refine (H9.out _ _ _ _ HD9.out HP11.out (HP8.out _ HX3.out)).mono ?_
      rintro e x4 ⟨rfl, hb⟩
      have HX4 := Lib.hid (HX3.out.trans (hb.mono HX3.out.size))
      clear HP11
      clear hb
      refine hK.out _ _ (HQC.out x4 HX4.out) (fun hS4 => ?_)
      clear hK K
      try simp only [List.getElem_toArray, List.getElem_cons_zero, List.getElem_cons_succ, Act.put, List.setIfInBounds_toArray, List.set_cons_zero, List.set_cons_succ]
      refine wpAnyH_take (i := 9) (v := ?_) rfl (by kernel_rfl) (by kernel_rfl) (by kernel_rfl) (fun _ _ _ h => h) (Or.inl ⟨by kernel_rfl, ?_⟩) (by assumption) ?_
      rotate_left
      · intro wx hSw
        try dsimp only at hSw
        go_simp <;> with_reducible rfl
      try simp only [List.getElem_toArray, List.getElem_cons_zero, List.getElem_cons_succ, Act.put, List.setIfInBounds_toArray, List.set_cons_zero, List.set_cons_succ]
      refine wpAnyH_take (i := 10) (v := ?_) rfl (by kernel_rfl) (by kernel_rfl) (by kernel_rfl) (fun _ _ _ h => h) (Or.inl ⟨by kernel_rfl, ?_⟩) (by assumption) ?_
      rotate_left
      · intro wx hSw
        try dsimp only at hSw
        go_simp <;> with_reducible rfl
      try simp only [List.getElem_toArray, List.getElem_cons_zero, List.getElem_cons_succ, Act.put, List.setIfInBounds_toArray, List.set_cons_zero, List.set_cons_succ]
      refine wpAnyH_take (i := 11) (v := ?_) rfl (by kernel_rfl) (by kernel_rfl) (by kernel_rfl) (fun _ _ _ h => h) (Or.inl ⟨by kernel_rfl, ?_⟩) (by assumption) ?_
      rotate_left
      · intro wx hSw
        try dsimp only at hSw
        go_simp <;> with_reducible rfl
      try simp only [List.getElem_toArray, List.getElem_cons_zero, List.getElem_cons_succ, Act.put, List.setIfInBounds_toArray, List.set_cons_zero, List.set_cons_succ]
      refine wpAnyH_take (i := 12) (v := ?_) rfl (by kernel_rfl) (by kernel_rfl) (by kernel_rfl) (fun _ _ _ h => h) (Or.inl ⟨by kernel_rfl, ?_⟩) (by assumption) ?_
      rotate_left
      · intro wx hSw
        try dsimp only at hSw
        go_simp <;> with_reducible rfl
      try simp only [List.getElem_toArray, List.getElem_cons_zero, List.getElem_cons_succ, Act.put, List.setIfInBounds_toArray, List.set_cons_zero, List.set_cons_succ]
      refine wpAnyH_take (i := 14) (v := ?_) rfl (by kernel_rfl) (by kernel_rfl) (by kernel_rfl) (fun _ _ _ h => h) (Or.inl ⟨by kernel_rfl, ?_⟩) (by assumption) ?_
      rotate_left
      · intro wx hSw
        try dsimp only at hSw
        go_simp <;> with_reducible rfl
      try simp only [List.getElem_toArray, List.getElem_cons_zero, List.getElem_cons_succ, Act.put, List.setIfInBounds_toArray, List.set_cons_zero, List.set_cons_succ]
      refine wpAnyH_take (i := 15) (v := ?_) rfl (by kernel_rfl) (by kernel_rfl) (by kernel_rfl) (fun _ _ _ h => h) (Or.inl ⟨by kernel_rfl, ?_⟩) (by assumption) ?_
      rotate_left
      · intro wx hSw
        try dsimp only at hSw
        go_simp <;> with_reducible rfl
      try simp only [List.getElem_toArray, List.getElem_cons_zero, List.getElem_cons_succ, Act.put, List.setIfInBounds_toArray, List.set_cons_zero, List.set_cons_succ]
      refine wpAnyH_ready (rs := [13]) (by kernel_rfl) (by simp) ?_
      refine AllReadyH.cons rfl (fun K hK' => ?_) AllReadyH.nil
      have hK := Lib.hid hK'
      clear hK'
      try rw [if_pos (by kernel_rfl)]
      go_simp
      go_at_call 13
      refine (H13.out x4 HX4.out).mono ?_
      rintro e x5 ⟨V13, rfl, ho, hb⟩
      have HX5 := Lib.hid (HX4.out.trans (hb.mono HX4.out.size))
      have HO13 := Lib.hid ho
      clear ho
      clear hb
      refine hK.out _ _ (HQC.out x5 HX5.out) (fun hS5 => ?_)
      clear hK K
      try simp only [List.getElem_toArray, List.getElem_cons_zero, List.getElem_cons_succ, Act.put, List.setIfInBounds_toArray, List.set_cons_zero, List.set_cons_succ]
      refine wpAnyH_ready (rs := [16]) (by kernel_rfl) (by simp) ?_
      refine AllReadyH.cons rfl (fun K hK' => ?_) AllReadyH.nil
      have hK := Lib.hid hK'
      clear hK'
      try rw [if_pos (by kernel_rfl)]
      go_simp
      go_at_call 14
      refine (H14S.out x5 HX5.out).mono ?_
      rintro e x6 ⟨V14, rfl, ho, hb⟩
      have HX6 := Lib.hid (HX5.out.trans (hb.mono HX5.out.size))
      have HO14 := Lib.hid ho
      have HO13 := Lib.hid (HO13.out.keep hb)
      clear ho
      clear hb
      refine hK.out _ _ (HQC.out x6 HX6.out) (fun hS6 => ?_)
      clear hK K
      try simp only [List.getElem_toArray, List.getElem_cons_zero, List.getElem_cons_succ, Act.put, List.setIfInBounds_toArray, List.set_cons_zero, List.set_cons_succ]
      refine wpAnyH_ready (rs := [17]) (by kernel_rfl) (by simp) ?_
      refine AllReadyH.cons rfl (fun K hK' => ?_) AllReadyH.nil
      have hK := Lib.hid hK'
      clear hK'
      try rw [if_pos (by kernel_rfl)]
      go_simp
      go_at_call 12
      refine (H12.out _ _ _ _ HLT.out HO13.out HO14.out).mono ?_
      rintro e x7 ⟨rfl, hb⟩
      have HX7 := Lib.hid (HX6.out.trans (hb.mono HX6.out.size))
      clear HO13 HO14
      clear hb
      refine hK.out _ _ (HQC.out x7 HX7.out) (fun hS7 => ?_)
      clear hK K
      try simp only [List.getElem_toArray, List.getElem_cons_zero, List.getElem_cons_succ, Act.put, List.setIfInBounds_toArray, List.set_cons_zero, List.set_cons_succ]
      refine wpAnyH_take (i := 18) (v := ?_) rfl (by kernel_rfl) (by kernel_rfl) (by kernel_rfl) (fun _ _ _ h => h) (Or.inl ⟨by kernel_rfl, ?_⟩) (by assumption) ?_
      rotate_left
      · intro wx hSw
        try dsimp only at hSw
        go_simp <;> with_reducible rfl
      try simp only [List.getElem_toArray, List.getElem_cons_zero, List.getElem_cons_succ, Act.put, List.setIfInBounds_toArray, List.set_cons_zero, List.set_cons_succ]
      refine wpAnyH_take (i := 19) (v := ?_) rfl (by kernel_rfl) (by kernel_rfl) (by kernel_rfl) (fun _ _ _ h => h) (Or.inl ⟨by kernel_rfl, ?_⟩) (by assumption) ?_
      rotate_left
      · intro wx hSw
        try dsimp only at hSw
        go_simp <;> with_reducible rfl
      try simp only [List.getElem_toArray, List.getElem_cons_zero, List.getElem_cons_succ, Act.put, List.setIfInBounds_toArray, List.set_cons_zero, List.set_cons_succ]
      refine wpAnyH_take (i := 20) (v := ?_) rfl (by kernel_rfl) (by kernel_rfl) (by kernel_rfl) (fun _ _ _ h => h) (Or.inl ⟨by kernel_rfl, ?_⟩) (by assumption) ?_
      rotate_left
      · intro wx hSw
        try dsimp only at hSw
        go_simp <;> with_reducible rfl
      try simp only [List.getElem_toArray, List.getElem_cons_zero, List.getElem_cons_succ, Act.put, List.setIfInBounds_toArray, List.set_cons_zero, List.set_cons_succ]
      refine wpAnyH_take (i := 21) (v := ?_) rfl (by kernel_rfl) (by kernel_rfl) (by kernel_rfl) (fun _ _ _ h => h) (Or.inl ⟨by kernel_rfl, ?_⟩) (by assumption) ?_
      rotate_left
      · intro wx hSw
        try dsimp only at hSw
        go_simp <;> with_reducible rfl
      try simp only [List.getElem_toArray, List.getElem_cons_zero, List.getElem_cons_succ, Act.put, List.setIfInBounds_toArray, List.set_cons_zero, List.set_cons_succ]
      refine wpAnyH_take (i := 23) (v := ?_) rfl (by kernel_rfl) (by kernel_rfl) (by kernel_rfl) (fun _ _ _ h => h) (Or.inl ⟨by kernel_rfl, ?_⟩) (by assumption) ?_
      rotate_left
      · intro wx hSw
        try dsimp only at hSw
        go_simp <;> with_reducible rfl
      try simp only [List.getElem_toArray, List.getElem_cons_zero, List.getElem_cons_succ, Act.put, List.setIfInBounds_toArray, List.set_cons_zero, List.set_cons_succ]
      refine wpAnyH_take (i := 24) (v := ?_) rfl (by kernel_rfl) (by kernel_rfl) (by kernel_rfl) (fun _ _ _ h => h) (Or.inl ⟨by kernel_rfl, ?_⟩) (by assumption) ?_
      rotate_left
      · intro wx hSw
        try dsimp only at hSw
        go_simp <;> with_reducible rfl
      try simp only [List.getElem_toArray, List.getElem_cons_zero, List.getElem_cons_succ, Act.put, List.setIfInBounds_toArray, List.set_cons_zero, List.set_cons_succ]
      refine wpAnyH_ready (rs := [22]) (by kernel_rfl) (by simp) ?_
      refine AllReadyH.cons rfl (fun K hK' => ?_) AllReadyH.nil
      have hK := Lib.hid hK'
      clear hK'
      try rw [if_pos (by kernel_rfl)]
      go_simp
      go_at_call 15
      refine (H15.out x7 HX7.out).mono ?_
      rintro e x8 ⟨V15, rfl, ho, hb⟩
      have HX8 := Lib.hid (HX7.out.trans (hb.mono HX7.out.size))
      have HO15 := Lib.hid ho
      clear ho
      clear hb
      refine hK.out _ _ (HQC.out x8 HX8.out) (fun hS8 => ?_)
      clear hK K
      try simp only [List.getElem_toArray, List.getElem_cons_zero, List.getElem_cons_succ, Act.put, List.setIfInBounds_toArray, List.set_cons_zero, List.set_cons_succ]
      refine wpAnyH_ready (rs := [25]) (by kernel_rfl) (by simp) ?_
      refine AllReadyH.cons rfl (fun K hK' => ?_) AllReadyH.nil
      have hK := Lib.hid hK'
      clear hK'
      try rw [if_pos (by kernel_rfl)]
      go_simp
      go_at_call 14
      refine (H14D.out x8 HX8.out).mono ?_
      rintro e x9 ⟨V16, rfl, ho, hb⟩
      have HX9 := Lib.hid (HX8.out.trans (hb.mono HX8.out.size))
      have HO16 := Lib.hid ho
      have HO15 := Lib.hid (HO15.out.keep hb)
      clear ho
      clear hb
      refine hK.out _ _ (HQC.out x9 HX9.out) (fun hS9 => ?_)
      clear hK K
      try simp only [List.getElem_toArray, List.getElem_cons_zero, List.getElem_cons_succ, Act.put, List.setIfInBounds_toArray, List.set_cons_zero, List.set_cons_succ]
      refine wpAnyH_ready (rs := [26]) (by kernel_rfl) (by simp) ?_
      refine AllReadyH.cons rfl (fun K hK' => ?_) AllReadyH.nil
      have hK := Lib.hid hK'
      clear hK'
      try rw [if_pos (by kernel_rfl)]
      go_simp
      go_at_call 12
      refine (H12.out _ _ _ _ HLD.out HO15.out HO16.out).mono ?_
      rintro e x10 ⟨rfl, hb⟩
      have HX10 := Lib.hid (HX9.out.trans (hb.mono HX9.out.size))
      clear HO15 HO16
      clear hb
      refine hK.out _ _ (HQC.out x10 HX10.out) (fun hS10 => ?_)
      clear hK K
      try simp only [List.getElem_toArray, List.getElem_cons_zero, List.getElem_cons_succ, Act.put, List.setIfInBounds_toArray, List.set_cons_zero, List.set_cons_succ]
      refine wpAnyH_take (i := 27) (v := ?_) rfl (by kernel_rfl) (by kernel_rfl) (by kernel_rfl) (fun _ _ _ h => h) (Or.inl ⟨by kernel_rfl, ?_⟩) (by assumption) ?_
      rotate_left
      · intro wx hSw
        try dsimp only at hSw
        go_simp <;> with_reducible rfl
      try simp only [List.getElem_toArray, List.getElem_cons_zero, List.getElem_cons_succ, Act.put, List.setIfInBounds_toArray, List.set_cons_zero, List.set_cons_succ]
      refine wpAnyH_take (i := 28) (v := ?_) rfl (by kernel_rfl) (by kernel_rfl) (by kernel_rfl) (fun _ _ _ h => h) (Or.inl ⟨by kernel_rfl, ?_⟩) (by assumption) ?_
      rotate_left
      · intro wx hSw
        try dsimp only at hSw
        go_simp <;> with_reducible rfl
      try simp only [List.getElem_toArray, List.getElem_cons_zero, List.getElem_cons_succ, Act.put, List.setIfInBounds_toArray, List.set_cons_zero, List.set_cons_succ]
      refine wpAnyH_take (i := 29) (v := ?_) rfl (by kernel_rfl) (by kernel_rfl) (by kernel_rfl) (fun _ _ _ h => h) (Or.inl ⟨by kernel_rfl, ?_⟩) (by assumption) ?_
      rotate_left
      · intro wx hSw
        try dsimp only at hSw
        go_simp <;> with_reducible rfl
      try simp only [List.getElem_toArray, List.getElem_cons_zero, List.getElem_cons_succ, Act.put, List.setIfInBounds_toArray, List.set_cons_zero, List.set_cons_succ]
      refine wpAnyH_take (i := 30) (v := ?_) rfl (by kernel_rfl) (by kernel_rfl) (by kernel_rfl) (fun _ _ _ h => h) (Or.inl ⟨by kernel_rfl, ?_⟩) (by assumption) ?_
      rotate_left
      · intro wx hSw
        try dsimp only at hSw
        go_simp <;> with_reducible rfl
      try simp only [List.getElem_toArray, List.getElem_cons_zero, List.getElem_cons_succ, Act.put, List.setIfInBounds_toArray, List.set_cons_zero, List.set_cons_succ]
      refine wpAnyH_take (i := 32) (v := ?_) rfl (by kernel_rfl) (by kernel_rfl) (by kernel_rfl) (fun _ _ _ h => h) (Or.inl ⟨by kernel_rfl, ?_⟩) (by assumption) ?_
      rotate_left
      · intro wx hSw
        try dsimp only at hSw
        go_simp <;> with_reducible rfl
      try simp only [List.getElem_toArray, List.getElem_cons_zero, List.getElem_cons_succ, Act.put, List.setIfInBounds_toArray, List.set_cons_zero, List.set_cons_succ]
      refine wpAnyH_take (i := 33) (v := ?_) rfl (by kernel_rfl) (by kernel_rfl) (by kernel_rfl) (fun _ _ _ h => h) (Or.inl ⟨by kernel_rfl, ?_⟩) (by assumption) ?_
      rotate_left
      · intro wx hSw
        try dsimp only at hSw
        go_simp <;> with_reducible rfl
      try simp only [List.getElem_toArray, List.getElem_cons_zero, List.getElem_cons_succ, Act.put, List.setIfInBounds_toArray, List.set_cons_zero, List.set_cons_succ]
      refine wpAnyH_ready (rs := [31]) (by kernel_rfl) (by simp) ?_
      refine AllReadyH.cons rfl (fun K hK' => ?_) AllReadyH.nil
      have hK := Lib.hid hK'
      clear hK'
      try rw [if_pos (by kernel_rfl)]
      go_simp
      go_at_call 16
      refine (H16.out x10 HX10.out).mono ?_
      rintro e x11 ⟨rfl, hb⟩
      have HX11 := Lib.hid (HX10.out.trans (hb.mono HX10.out.size))
      clear hb
      refine hK.out _ _ (HQC.out x11 HX11.out) (fun hS11 => ?_)
      clear hK K
      try simp only [List.getElem_toArray, List.getElem_cons_zero, List.getElem_cons_succ, Act.put, List.setIfInBounds_toArray, List.set_cons_zero, List.set_cons_succ]
      refine wpAnyH_ready (rs := [34]) (by kernel_rfl) (by simp) ?_
      refine AllReadyH.cons rfl (fun K hK' => ?_) AllReadyH.nil
      have hK := Lib.hid hK'
      clear hK'
      try rw [if_pos (by kernel_rfl)]
      go_simp
      go_at_call 17
      refine (H17.out x11 HX11.out).mono ?_
      rintro e x12 ⟨rfl, hb⟩
      have HX12 := Lib.hid (HX11.out.trans (hb.mono HX11.out.size))
      clear hb
      refine hK.out _ _ (HQC.out x12 HX12.out) (fun hS12 => ?_)
      clear hK K
      try simp only [List.getElem_toArray, List.getElem_cons_zero, List.getElem_cons_succ, Act.put, List.setIfInBounds_toArray, List.set_cons_zero, List.set_cons_succ]
      refine wpAnyH_take (i := 35) (v := ?_) rfl (by kernel_rfl) (by kernel_rfl) (by kernel_rfl) (fun _ _ _ h => h) (Or.inl ⟨by kernel_rfl, ?_⟩) (by assumption) ?_
      rotate_left
      · intro wx hSw
        try dsimp only at hSw
        go_simp <;> with_reducible rfl
      try simp only [List.getElem_toArray, List.getElem_cons_zero, List.getElem_cons_succ, Act.put, List.setIfInBounds_toArray, List.set_cons_zero, List.set_cons_succ]
      refine wpAnyH_take (i := 36) (v := ?_) rfl (by kernel_rfl) (by kernel_rfl) (by kernel_rfl) (fun _ _ _ h => h) (Or.inl ⟨by kernel_rfl, ?_⟩) (by assumption) ?_
      rotate_left
      · intro wx hSw
        try dsimp only at hSw
        go_simp <;> with_reducible rfl
      try simp only [List.getElem_toArray, List.getElem_cons_zero, List.getElem_cons_succ, Act.put, List.setIfInBounds_toArray, List.set_cons_zero, List.set_cons_succ]
      refine wpAnyH_take (i := 37) (v := ?_) rfl (by kernel_rfl) (by kernel_rfl) (by kernel_rfl) (fun _ _ _ h => h) (Or.inl ⟨by kernel_rfl, ?_⟩) (by assumption) ?_
      rotate_left
      · intro wx hSw
        try dsimp only at hSw
        go_simp <;> with_reducible rfl
      try simp only [List.getElem_toArray, List.getElem_cons_zero, List.getElem_cons_succ, Act.put, List.setIfInBounds_toArray, List.set_cons_zero, List.set_cons_succ]
      refine wpAnyH_take (i := 38) (v := ?_) rfl (by kernel_rfl) (by kernel_rfl) (by kernel_rfl) (fun _ _ _ h => h) (Or.inl ⟨by kernel_rfl, ?_⟩) (by assumption) ?_
      rotate_left
      · intro wx hSw
        try dsimp only at hSw
        go_simp <;> with_reducible rfl
      try simp only [List.getElem_toArray, List.getElem_cons_zero, List.getElem_cons_succ, Act.put, List.setIfInBounds_toArray, List.set_cons_zero, List.set_cons_succ]
      refine wpAnyH_take (i := 39) (v := ?_) rfl (by kernel_rfl) (by kernel_rfl) (by kernel_rfl) (fun _ _ _ h => h) (Or.inl ⟨by kernel_rfl, ?_⟩) (by assumption) ?_
      rotate_left
      · intro wx hSw
        try dsimp only at hSw
        go_simp <;> with_reducible rfl
      try simp only [List.getElem_toArray, List.getElem_cons_zero, List.getElem_cons_succ, Act.put, List.setIfInBounds_toArray, List.set_cons_zero, List.set_cons_succ]
      refine wpAnyH_take (i := 40) (v := ?_) rfl (by kernel_rfl) (by kernel_rfl) (by kernel_rfl) (fun _ _ _ h => h) (Or.inl ⟨by kernel_rfl, ?_⟩) (by assumption) ?_
      rotate_left
      · intro wx hSw
        try dsimp only at hSw
        go_simp <;> with_reducible rfl
      try simp only [List.getElem_toArray, List.getElem_cons_zero, List.getElem_cons_succ, Act.put, List.setIfInBounds_toArray, List.set_cons_zero, List.set_cons_succ]
      refine wpAnyH_take (i := 41) (v := ?_) rfl (by kernel_rfl) (by kernel_rfl) (by kernel_rfl) (fun _ _ _ h => h) (Or.inl ⟨by kernel_rfl, ?_⟩) (by assumption) ?_
      rotate_left
      · intro wx hSw
        try dsimp only at hSw
        go_simp <;> with_reducible rfl
      try simp only [List.getElem_toArray, List.getElem_cons_zero, List.getElem_cons_succ, Act.put, List.setIfInBounds_toArray, List.set_cons_zero, List.set_cons_succ]
      refine wpAnyH_take (i := 42) (v := undef) rfl (by kernel_rfl) (by kernel_rfl) (by kernel_rfl) (fun _ _ _ h => h) (Or.inr ⟨by kernel_rfl, rfl⟩) (by assumption) ?_
      try simp only [List.getElem_toArray, List.getElem_cons_zero, List.getElem_cons_succ, Act.put, List.setIfInBounds_toArray, List.set_cons_zero, List.set_cons_succ]
      refine wpAnyH_take (i := 43) (v := undef) rfl (by kernel_rfl) (by kernel_rfl) (by kernel_rfl) (fun _ _ _ h => h) (Or.inr ⟨by kernel_rfl, rfl⟩) (by assumption) ?_
      try simp only [List.getElem_toArray, List.getElem_cons_zero, List.getElem_cons_succ, Act.put, List.setIfInBounds_toArray, List.set_cons_zero, List.set_cons_succ]
      refine wpAnyH_take (i := 44) (v := undef) rfl (by kernel_rfl) (by kernel_rfl) (by kernel_rfl) (fun _ _ _ h => h) (Or.inr ⟨by kernel_rfl, rfl⟩) (by assumption) ?_
      try simp only [List.getElem_toArray, List.getElem_cons_zero, List.getElem_cons_succ, Act.put, List.setIfInBounds_toArray, List.set_cons_zero, List.set_cons_succ]
      refine wpAnyH_take (i := 45) (v := undef) rfl (by kernel_rfl) (by kernel_rfl) (by kernel_rfl) (fun _ _ _ h => h) (Or.inr ⟨by kernel_rfl, rfl⟩) (by assumption) ?_
      try simp only [List.getElem_toArray, List.getElem_cons_zero, List.getElem_cons_succ, Act.put, List.setIfInBounds_toArray, List.set_cons_zero, List.set_cons_succ]
      refine wpAnyH_take (i := 46) (v := undef) rfl (by kernel_rfl) (by kernel_rfl) (by kernel_rfl) (fun _ _ _ h => h) (Or.inr ⟨by kernel_rfl, rfl⟩) (by assumption) ?_
      try simp only [List.getElem_toArray, List.getElem_cons_zero, List.getElem_cons_succ, Act.put, List.setIfInBounds_toArray, List.set_cons_zero, List.set_cons_succ]
      refine wpAnyH_take (i := 47) (v := undef) rfl (by kernel_rfl) (by kernel_rfl) (by kernel_rfl) (fun _ _ _ h => h) (Or.inr ⟨by kernel_rfl, rfl⟩) (by assumption) ?_
      try simp only [List.getElem_toArray, List.getElem_cons_zero, List.getElem_cons_succ, Act.put, List.setIfInBounds_toArray, List.set_cons_zero, List.set_cons_succ]
      refine wpAnyH_take (i := 48) (v := undef) rfl (by kernel_rfl) (by kernel_rfl) (by kernel_rfl) (fun _ _ _ h => h) (Or.inr ⟨by kernel_rfl, rfl⟩) (by assumption) ?_
      try simp only [List.getElem_toArray, List.getElem_cons_zero, List.getElem_cons_succ, Act.put, List.setIfInBounds_toArray, List.set_cons_zero, List.set_cons_succ]
      refine wpAnyH_take (i := 49) (v := undef) rfl (by kernel_rfl) (by kernel_rfl) (by kernel_rfl) (fun _ _ _ h => h) (Or.inr ⟨by kernel_rfl, rfl⟩) (by assumption) ?_
      try simp only [List.getElem_toArray, List.getElem_cons_zero, List.getElem_cons_succ, Act.put, List.setIfInBounds_toArray, List.set_cons_zero, List.set_cons_succ]
      refine wpAnyH_take (i := 50) (v := undef) rfl (by kernel_rfl) (by kernel_rfl) (by kernel_rfl) (fun _ _ _ h => h) (Or.inr ⟨by kernel_rfl, rfl⟩) (by assumption) ?_
      try simp only [List.getElem_toArray, List.getElem_cons_zero, List.getElem_cons_succ, Act.put, List.setIfInBounds_toArray, List.set_cons_zero, List.set_cons_succ]
      refine wpAnyH_take (i := 51) (v := undef) rfl (by kernel_rfl) (by kernel_rfl) (by kernel_rfl) (fun _ _ _ h => h) (Or.inr ⟨by kernel_rfl, rfl⟩) (by assumption) ?_
      try simp only [List.getElem_toArray, List.getElem_cons_zero, List.getElem_cons_succ, Act.put, List.setIfInBounds_toArray, List.set_cons_zero, List.set_cons_succ]
      refine wpAnyH_take (i := 52) (v := undef) rfl (by kernel_rfl) (by kernel_rfl) (by kernel_rfl) (fun _ _ _ h => h) (Or.inr ⟨by kernel_rfl, rfl⟩) (by assumption) ?_
      try simp only [List.getElem_toArray, List.getElem_cons_zero, List.getElem_cons_succ, Act.put, List.setIfInBounds_toArray, List.set_cons_zero, List.set_cons_succ]
      refine wpAnyH_take (i := 53) (v := ?_) rfl (by kernel_rfl) (by kernel_rfl) (by kernel_rfl) (fun _ _ _ h => h) (Or.inl ⟨by kernel_rfl, ?_⟩) (by assumption) ?_
      rotate_left
      · intro wx hSw
        try dsimp only at hSw
        go_simp <;> with_reducible rfl
      try simp only [List.getElem_toArray, List.getElem_cons_zero, List.getElem_cons_succ, Act.put, List.setIfInBounds_toArray, List.set_cons_zero, List.set_cons_succ]
      refine wpAnyH_take (i := 54) (v := ?_) rfl (by kernel_rfl) (by kernel_rfl) (by kernel_rfl) (fun _ _ _ h => h) (Or.inl ⟨by kernel_rfl, ?_⟩) (by assumption) ?_
      rotate_left
      · intro wx hSw
        try dsimp only at hSw
        go_simp <;> with_reducible rfl
      try simp only [List.getElem_toArray, List.getElem_cons_zero, List.getElem_cons_succ, Act.put, List.setIfInBounds_toArray, List.set_cons_zero, List.set_cons_succ]
      refine wpAnyH_take (i := 55) (v := ?_) rfl (by kernel_rfl) (by kernel_rfl) (by kernel_rfl) (fun _ _ _ h => h) (Or.inl ⟨by kernel_rfl, ?_⟩) (by assumption) ?_
      rotate_left
      · intro wx hSw
        try dsimp only at hSw
        go_simp <;> with_reducible rfl
      try simp only [List.getElem_toArray, List.getElem_cons_zero, List.getElem_cons_succ, Act.put, List.setIfInBounds_toArray, List.set_cons_zero, List.set_cons_succ]
      refine wpAnyH_ready (rs := [56]) (by kernel_rfl) (by simp) ?_
      refine AllReadyH.cons rfl (fun K hK' => ?_) AllReadyH.nil
      have hK := Lib.hid hK'
      clear hK'
      try rw [if_pos (by kernel_rfl)]
      go_simp
      go_at_call 6
      refine (HAW.out x12).mono ?_
      rintro e x13 ⟨rfl, hb⟩
      have HX13 := Lib.hid (HX12.out.trans (hb.mono HX12.out.size))
      clear hb
      refine hK.out _ _ (HQC.out x13 HX13.out) (fun hS13 => ?_)
      clear hK K
      try simp only [List.getElem_toArray, List.getElem_cons_zero, List.getElem_cons_succ, Act.put, List.setIfInBounds_toArray, List.set_cons_zero, List.set_cons_succ]
      refine wpAnyH_take (i := 57) (v := ?_) rfl (by kernel_rfl) (by kernel_rfl) (by kernel_rfl) (fun _ _ _ h => h) (Or.inl ⟨by kernel_rfl, ?_⟩) (by assumption) ?_
      rotate_left
      · intro wx hSw
        try dsimp only at hSw
        go_simp <;> with_reducible rfl
      try simp only [List.getElem_toArray, List.getElem_cons_zero, List.getElem_cons_succ, Act.put, List.setIfInBounds_toArray, List.set_cons_zero, List.set_cons_succ]
      refine wpAnyH_take (i := 58) (v := ?_) rfl (by kernel_rfl) (by kernel_rfl) (by kernel_rfl) (fun _ _ _ h => h) (Or.inl ⟨by kernel_rfl, ?_⟩) (by assumption) ?_
      rotate_left
      · intro wx hSw
        try dsimp only at hSw
        go_simp <;> with_reducible rfl
      try simp only [List.getElem_toArray, List.getElem_cons_zero, List.getElem_cons_succ, Act.put, List.setIfInBounds_toArray, List.set_cons_zero, List.set_cons_succ]
      refine wpAnyH_done (by kernel_rfl) ?_ _
      go_wp2
      go_ret
      exact ⟨rfl, HB3.out.trans (HX13.out.mono HB3.out.size)⟩
  | cons l0 L' =>
    have hl0 : 0 < len0 := by have h := HLL.out.1; rw [hLc] at h; simp at h; omega
    obtain ⟨ay, rfl, d1, d2⟩ := HPR2.out w4.drew HBD.out 0 l0 (by rw [hLc]; rfl)
    have HQC : Hid (∀ W, Below w4.heap.size w4 W → W.cell? ⟨w.heap.size, 0, none⟩ = some (.int .i64 p.f) ∧ W.cell? ⟨w.heap.size, 1, none⟩ = some (.int .i64 p.t) ∧ W.cell? ay = some (.int .i64 l0.f) ∧ W.cell? ⟨ay.block, ay.off + 1, none⟩ = some (.int .i64 l0.t)) := fun W b => by
      obtain ⟨ay', e, h1, h2⟩ := HPR2.out W b 0 l0 (by rw [hLc]; rfl)
      obtain rfl := Option.some.inj e
      have e0 : ay.add (0 * 2) = ay := by simp [Addr.add]
      rw [e0] at h1 h2
      exact ⟨(HBX2.out W b).1, (HBX2.out W b).2, h1, h2⟩
    have tz : ((len0 : Int) == 0) = false := by simp; omega
    have tzn : (len0 == 0) = false := by simp; omega
    have tb : (0 : Int) < len0 := by omega
    have H18 : Hid (∀ W, Calls Try.prog 18 #[.agg #[.int .i64 l0.f, .int .i64 l0.t], .agg #[.int .i64 p.f, .int .i64 p.t]] W fun e w' => e = .returned (.bool (lessB l0 p)) ∧ Below W.heap.size W w') := fun W => less_any l0 p W
    have H19 : Hid (∀ W, Calls Try.prog 19 #[.agg #[.int .i64 l0.f, .int .i64 l0.t], .agg #[.int .i64 p.f, .int .i64 p.t]] W fun e w' => e = .returned (.bool (lessB l0 p)) ∧ Below W.heap.size W w') := fun W => less10_any l0 p W
    obtain ⟨lb, hlb⟩ : ∃ b, lessB l0 p = b := ⟨_, rfl⟩
    rw [hlb] at H18 H19
    have tlb : (lb == lb) = true := by simp
    clear hLc d1 d2 hlb
    · go_upto_region 4 with fail
      refine wp_region_held_drew (S := (fun wx => wx.cell? ⟨w.heap.size, 0, none⟩ = some (.int .i64 p.f) ∧ wx.cell? ⟨w.heap.size, 1, none⟩ = some (.int .i64 p.t) ∧ wx.cell? ay = some (.int .i64 l0.f) ∧ wx.cell? ⟨ay.block, ay.off + 1, none⟩ = some (.int .i64 l0.t))) (by kernel_rfl) (HQC.out w4.drew HBD.out) (fun hS => ?_)
      refine wpAnyH_take (i := 0) (v := ?_) rfl (by kernel_rfl) (by kernel_rfl) (by kernel_rfl) (fun _ _ _ h => h) (Or.inl ⟨by kernel_rfl, ?_⟩) (by assumption) ?_
      rotate_left
      · intro wx hSw
        try dsimp only at hSw
        go_simp <;> with_reducible rfl
      try simp only [List.getElem_toArray, List.getElem_cons_zero, List.getElem_cons_succ, Act.put, List.setIfInBounds_toArray, List.set_cons_zero, List.set_cons_succ]
      refine wpAnyH_take (i := 2) (v := ?_) rfl (by kernel_rfl) (by kernel_rfl) (by kernel_rfl) (fun _ _ _ h => h) (Or.inl ⟨by kernel_rfl, ?_⟩) (by assumption) ?_
      rotate_left
      · intro wx hSw
        try dsimp only at hSw
        go_simp <;> with_reducible rfl
      try simp only [List.getElem_toArray, List.getElem_cons_zero, List.getElem_cons_succ, Act.put, List.setIfInBounds_toArray, List.set_cons_zero, List.set_cons_succ]
      refine wpAnyH_ready (rs := [1]) (by kernel_rfl) (by simp) ?_
      refine AllReadyH.cons rfl (fun K hK' => ?_) AllReadyH.nil
      have hK := Lib.hid hK'
      clear hK'
      try rw [if_pos (by kernel_rfl)]
      go_simp
      go_at_call 10
      refine (H10.out w4.drew HBD.out).mono ?_
      rintro e x1 ⟨V10, rfl, hp, hb⟩
      have HX1 := Lib.hid (HBD.out.trans (hb.mono HBD.out.size))
      have HP10 := Lib.hid hp
      clear hp
      clear hb
      refine hK.out _ _ (HQC.out x1 HX1.out) (fun hS1 => ?_)
      clear hK K
      try simp only [List.getElem_toArray, List.getElem_cons_zero, List.getElem_cons_succ, Act.put, List.setIfInBounds_toArray, List.set_cons_zero, List.set_cons_succ]
      refine wpAnyH_ready (rs := [3]) (by kernel_rfl) (by simp) ?_
      refine AllReadyH.cons rfl (fun K hK' => ?_) AllReadyH.nil
      have hK := Lib.hid hK'
      clear hK'
      try rw [if_pos (by kernel_rfl)]
      go_simp
      go_at_call 9
      refine (H9.out _ _ _ _ HS9.out HP10.out (HP7.out _ HX1.out)).mono ?_
      rintro e x2 ⟨rfl, hb⟩
      have HX2 := Lib.hid (HX1.out.trans (hb.mono HX1.out.size))
      clear HP10
      clear hb
      refine hK.out _ _ (HQC.out x2 HX2.out) (fun hS2 => ?_)
      clear hK K
      try simp only [List.getElem_toArray, List.getElem_cons_zero, List.getElem_cons_succ, Act.put, List.setIfInBounds_toArray, List.set_cons_zero, List.set_cons_succ]
      refine wpAnyH_take (i := 4) (v := ?_) rfl (by kernel_rfl) (by kernel_rfl) (by kernel_rfl) (fun _ _ _ h => h) (Or.inl ⟨by kernel_rfl, ?_⟩) (by assumption) ?_
      rotate_left
      · intro wx hSw
        try dsimp only at hSw
        go_simp <;> with_reducible rfl
      try simp only [List.getElem_toArray, List.getElem_cons_zero, List.getElem_cons_succ, Act.put, List.setIfInBounds_toArray, List.set_cons_zero, List.set_cons_succ]
      refine wpAnyH_take (i := 5) (v := ?_) rfl (by kernel_rfl) (by kernel_rfl) (by kernel_rfl) (fun _ _ _ h => h) (Or.inl ⟨by kernel_rfl, ?_⟩) (by assumption) ?_
      rotate_left
      · intro wx hSw
        try dsimp only at hSw
        go_simp <;> with_reducible rfl
      try simp only [List.getElem_toArray, List.getElem_cons_zero, List.getElem_cons_succ, Act.put, List.setIfInBounds_toArray, List.set_cons_zero, List.set_cons_succ]
      refine wpAnyH_take (i := 7) (v := ?_) rfl (by kernel_rfl) (by kernel_rfl) (by kernel_rfl) (fun _ _ _ h => h) (Or.inl ⟨by kernel_rfl, ?_⟩) (by assumption) ?_
      rotate_left
      · intro wx hSw
        try dsimp only at hSw
        go_simp <;> with_reducible rfl
      try simp only [List.getElem_toArray, List.getElem_cons_zero, List.getElem_cons_succ, Act.put, List.setIfInBounds_toArray, List.set_cons_zero, List.set_cons_succ]
      refine wpAnyH_ready (rs := [6]) (by kernel_rfl) (by simp) ?_
      refine AllReadyH.cons rfl (fun K hK' => ?_) AllReadyH.nil
      have hK := Lib.hid hK'
      clear hK'
      try rw [if_pos (by kernel_rfl)]
      go_simp
      go_at_call 11
      refine (H11.out x2 HX2.out).mono ?_
      rintro e x3 ⟨V11, rfl, hp, hb⟩
      have HX3 := Lib.hid (HX2.out.trans (hb.mono HX2.out.size))
      have HP11 := Lib.hid hp
      clear hp
      clear hb
      refine hK.out _ _ (HQC.out x3 HX3.out) (fun hS3 => ?_)
      clear hK K
      try simp only [List.getElem_toArray, List.getElem_cons_zero, List.getElem_cons_succ, Act.put, List.setIfInBounds_toArray, List.set_cons_zero, List.set_cons_succ]
      refine wpAnyH_ready (rs := [8]) (by kernel_rfl) (by simp) ?_
      refine AllReadyH.cons rfl (fun K hK' => ?_) AllReadyH.nil
      have hK := Lib.hid hK'
      clear hK'
      try rw [if_pos (by kernel_rfl)]
      go_simp
      go_at_call 9
      refine (H9.out _ _ _ _ HD9.out HP11.out (HP8.out _ HX3.out)).mono ?_
      rintro e x4 ⟨rfl, hb⟩
      have HX4 := Lib.hid (HX3.out.trans (hb.mono HX3.out.size))
      clear HP11
      clear hb
      refine hK.out _ _ (HQC.out x4 HX4.out) (fun hS4 => ?_)
      clear hK K
      try simp only [List.getElem_toArray, List.getElem_cons_zero, List.getElem_cons_succ, Act.put, List.setIfInBounds_toArray, List.set_cons_zero, List.set_cons_succ]
      refine wpAnyH_take (i := 9) (v := ?_) rfl (by kernel_rfl) (by kernel_rfl) (by kernel_rfl) (fun _ _ _ h => h) (Or.inl ⟨by kernel_rfl, ?_⟩) (by assumption) ?_
      rotate_left
      · intro wx hSw
        try dsimp only at hSw
        go_simp <;> with_reducible rfl
      try simp only [List.getElem_toArray, List.getElem_cons_zero, List.getElem_cons_succ, Act.put, List.setIfInBounds_toArray, List.set_cons_zero, List.set_cons_succ]
      refine wpAnyH_take (i := 10) (v := ?_) rfl (by kernel_rfl) (by kernel_rfl) (by kernel_rfl) (fun _ _ _ h => h) (Or.inl ⟨by kernel_rfl, ?_⟩) (by assumption) ?_
      rotate_left
      · intro wx hSw
        try dsimp only at hSw
        go_simp <;> with_reducible rfl
      try simp only [List.getElem_toArray, List.getElem_cons_zero, List.getElem_cons_succ, Act.put, List.setIfInBounds_toArray, List.set_cons_zero, List.set_cons_succ]
      refine wpAnyH_take (i := 11) (v := ?_) rfl (by kernel_rfl) (by kernel_rfl) (by kernel_rfl) (fun _ _ _ h => h) (Or.inl ⟨by kernel_rfl, ?_⟩) (by assumption) ?_
      rotate_left
      · intro wx hSw
        try dsimp only at hSw
        go_simp <;> with_reducible rfl
      try simp only [List.getElem_toArray, List.getElem_cons_zero, List.getElem_cons_succ, Act.put, List.setIfInBounds_toArray, List.set_cons_zero, List.set_cons_succ]
      refine wpAnyH_take (i := 12) (v := ?_) rfl (by kernel_rfl) (by kernel_rfl) (by kernel_rfl) (fun _ _ _ h => h) (Or.inl ⟨by kernel_rfl, ?_⟩) (by assumption) ?_
      rotate_left
      · intro wx hSw
        try dsimp only at hSw
        go_simp <;> with_reducible rfl
      try simp only [List.getElem_toArray, List.getElem_cons_zero, List.getElem_cons_succ, Act.put, List.setIfInBounds_toArray, List.set_cons_zero, List.set_cons_succ]
      refine wpAnyH_take (i := 14) (v := ?_) rfl (by kernel_rfl) (by kernel_rfl) (by kernel_rfl) (fun _ _ _ h => h) (Or.inl ⟨by kernel_rfl, ?_⟩) (by assumption) ?_
      rotate_left
      · intro wx hSw
        try dsimp only at hSw
        go_simp <;> with_reducible rfl
      try simp only [List.getElem_toArray, List.getElem_cons_zero, List.getElem_cons_succ, Act.put, List.setIfInBounds_toArray, List.set_cons_zero, List.set_cons_succ]
      refine wpAnyH_take (i := 15) (v := ?_) rfl (by kernel_rfl) (by kernel_rfl) (by kernel_rfl) (fun _ _ _ h => h) (Or.inl ⟨by kernel_rfl, ?_⟩) (by assumption) ?_
      rotate_left
      · intro wx hSw
        try dsimp only at hSw
        go_simp <;> with_reducible rfl
      try simp only [List.getElem_toArray, List.getElem_cons_zero, List.getElem_cons_succ, Act.put, List.setIfInBounds_toArray, List.set_cons_zero, List.set_cons_succ]
      refine wpAnyH_ready (rs := [13]) (by kernel_rfl) (by simp) ?_
      refine AllReadyH.cons rfl (fun K hK' => ?_) AllReadyH.nil
      have hK := Lib.hid hK'
      clear hK'
      try rw [if_pos (by kernel_rfl)]
      go_simp
      go_at_call 13
      refine (H13.out x4 HX4.out).mono ?_
      rintro e x5 ⟨V13, rfl, ho, hb⟩
      have HX5 := Lib.hid (HX4.out.trans (hb.mono HX4.out.size))
      have HO13 := Lib.hid ho
      clear ho
      clear hb
      refine hK.out _ _ (HQC.out x5 HX5.out) (fun hS5 => ?_)
      clear hK K
      try simp only [List.getElem_toArray, List.getElem_cons_zero, List.getElem_cons_succ, Act.put, List.setIfInBounds_toArray, List.set_cons_zero, List.set_cons_succ]
      refine wpAnyH_ready (rs := [16]) (by kernel_rfl) (by simp) ?_
      refine AllReadyH.cons rfl (fun K hK' => ?_) AllReadyH.nil
      have hK := Lib.hid hK'
      clear hK'
      try rw [if_pos (by kernel_rfl)]
      go_simp
      go_at_call 14
      refine (H14S.out x5 HX5.out).mono ?_
      rintro e x6 ⟨V14, rfl, ho, hb⟩
      have HX6 := Lib.hid (HX5.out.trans (hb.mono HX5.out.size))
      have HO14 := Lib.hid ho
      have HO13 := Lib.hid (HO13.out.keep hb)
      clear ho
      clear hb
      refine hK.out _ _ (HQC.out x6 HX6.out) (fun hS6 => ?_)
      clear hK K
      try simp only [List.getElem_toArray, List.getElem_cons_zero, List.getElem_cons_succ, Act.put, List.setIfInBounds_toArray, List.set_cons_zero, List.set_cons_succ]
      refine wpAnyH_ready (rs := [17]) (by kernel_rfl) (by simp) ?_
      refine AllReadyH.cons rfl (fun K hK' => ?_) AllReadyH.nil
      have hK := Lib.hid hK'
      clear hK'
      try rw [if_pos (by kernel_rfl)]
      go_simp
      go_at_call 12
      refine (H12.out _ _ _ _ HLT.out HO13.out HO14.out).mono ?_
      rintro e x7 ⟨rfl, hb⟩
      have HX7 := Lib.hid (HX6.out.trans (hb.mono HX6.out.size))
      clear HO13 HO14
      clear hb
      refine hK.out _ _ (HQC.out x7 HX7.out) (fun hS7 => ?_)
      clear hK K
      try simp only [List.getElem_toArray, List.getElem_cons_zero, List.getElem_cons_succ, Act.put, List.setIfInBounds_toArray, List.set_cons_zero, List.set_cons_succ]
      refine wpAnyH_take (i := 18) (v := ?_) rfl (by kernel_rfl) (by kernel_rfl) (by kernel_rfl) (fun _ _ _ h => h) (Or.inl ⟨by kernel_rfl, ?_⟩) (by assumption) ?_
      rotate_left
      · intro wx hSw
        try dsimp only at hSw
        go_simp <;> with_reducible rfl
      try simp only [List.getElem_toArray, List.getElem_cons_zero, List.getElem_cons_succ, Act.put, List.setIfInBounds_toArray, List.set_cons_zero, List.set_cons_succ]
      refine wpAnyH_take (i := 19) (v := ?_) rfl (by kernel_rfl) (by kernel_rfl) (by kernel_rfl) (fun _ _ _ h => h) (Or.inl ⟨by kernel_rfl, ?_⟩) (by assumption) ?_
      rotate_left
      · intro wx hSw
        try dsimp only at hSw
        go_simp <;> with_reducible rfl
      try simp only [List.getElem_toArray, List.getElem_cons_zero, List.getElem_cons_succ, Act.put, List.setIfInBounds_toArray, List.set_cons_zero, List.set_cons_succ]
      refine wpAnyH_take (i := 20) (v := ?_) rfl (by kernel_rfl) (by kernel_rfl) (by kernel_rfl) (fun _ _ _ h => h) (Or.inl ⟨by kernel_rfl, ?_⟩) (by assumption) ?_
      rotate_left
      · intro wx hSw
        try dsimp only at hSw
        go_simp <;> with_reducible rfl
      try simp only [List.getElem_toArray, List.getElem_cons_zero, List.getElem_cons_succ, Act.put, List.setIfInBounds_toArray, List.set_cons_zero, List.set_cons_succ]
      refine wpAnyH_take (i := 21) (v := ?_) rfl (by kernel_rfl) (by kernel_rfl) (by kernel_rfl) (fun _ _ _ h => h) (Or.inl ⟨by kernel_rfl, ?_⟩) (by assumption) ?_
      rotate_left
      · intro wx hSw
        try dsimp only at hSw
        go_simp <;> with_reducible rfl
      try simp only [List.getElem_toArray, List.getElem_cons_zero, List.getElem_cons_succ, Act.put, List.setIfInBounds_toArray, List.set_cons_zero, List.set_cons_succ]
      refine wpAnyH_take (i := 23) (v := ?_) rfl (by kernel_rfl) (by kernel_rfl) (by kernel_rfl) (fun _ _ _ h => h) (Or.inl ⟨by kernel_rfl, ?_⟩) (by assumption) ?_
      rotate_left
      · intro wx hSw
        try dsimp only at hSw
        go_simp <;> with_reducible rfl
      try simp only [List.getElem_toArray, List.getElem_cons_zero, List.getElem_cons_succ, Act.put, List.setIfInBounds_toArray, List.set_cons_zero, List.set_cons_succ]
      refine wpAnyH_take (i := 24) (v := ?_) rfl (by kernel_rfl) (by kernel_rfl) (by kernel_rfl) (fun _ _ _ h => h) (Or.inl ⟨by kernel_rfl, ?_⟩) (by assumption) ?_
      rotate_left
      · intro wx hSw
        try dsimp only at hSw
        go_simp <;> with_reducible rfl
      try simp only [List.getElem_toArray, List.getElem_cons_zero, List.getElem_cons_succ, Act.put, List.setIfInBounds_toArray, List.set_cons_zero, List.set_cons_succ]
      refine wpAnyH_ready (rs := [22]) (by kernel_rfl) (by simp) ?_
      refine AllReadyH.cons rfl (fun K hK' => ?_) AllReadyH.nil
      have hK := Lib.hid hK'
      clear hK'
      try rw [if_pos (by kernel_rfl)]
      go_simp
      go_at_call 15
      refine (H15.out x7 HX7.out).mono ?_
      rintro e x8 ⟨V15, rfl, ho, hb⟩
      have HX8 := Lib.hid (HX7.out.trans (hb.mono HX7.out.size))
      have HO15 := Lib.hid ho
      clear ho
      clear hb
      refine hK.out _ _ (HQC.out x8 HX8.out) (fun hS8 => ?_)
      clear hK K
      try simp only [List.getElem_toArray, List.getElem_cons_zero, List.getElem_cons_succ, Act.put, List.setIfInBounds_toArray, List.set_cons_zero, List.set_cons_succ]
      refine wpAnyH_ready (rs := [25]) (by kernel_rfl) (by simp) ?_
      refine AllReadyH.cons rfl (fun K hK' => ?_) AllReadyH.nil
      have hK := Lib.hid hK'
      clear hK'
      try rw [if_pos (by kernel_rfl)]
      go_simp
      go_at_call 14
      refine (H14D.out x8 HX8.out).mono ?_
      rintro e x9 ⟨V16, rfl, ho, hb⟩
      have HX9 := Lib.hid (HX8.out.trans (hb.mono HX8.out.size))
      have HO16 := Lib.hid ho
      have HO15 := Lib.hid (HO15.out.keep hb)
      clear ho
      clear hb
      refine hK.out _ _ (HQC.out x9 HX9.out) (fun hS9 => ?_)
      clear hK K
      try simp only [List.getElem_toArray, List.getElem_cons_zero, List.getElem_cons_succ, Act.put, List.setIfInBounds_toArray, List.set_cons_zero, List.set_cons_succ]
      refine wpAnyH_ready (rs := [26]) (by kernel_rfl) (by simp) ?_
      refine AllReadyH.cons rfl (fun K hK' => ?_) AllReadyH.nil
      have hK := Lib.hid hK'
      clear hK'
      try rw [if_pos (by kernel_rfl)]
      go_simp
      go_at_call 12
      refine (H12.out _ _ _ _ HLD.out HO15.out HO16.out).mono ?_
      rintro e x10 ⟨rfl, hb⟩
      have HX10 := Lib.hid (HX9.out.trans (hb.mono HX9.out.size))
      clear HO15 HO16
      clear hb
      refine hK.out _ _ (HQC.out x10 HX10.out) (fun hS10 => ?_)
      clear hK K
      try simp only [List.getElem_toArray, List.getElem_cons_zero, List.getElem_cons_succ, Act.put, List.setIfInBounds_toArray, List.set_cons_zero, List.set_cons_succ]
      refine wpAnyH_take (i := 27) (v := ?_) rfl (by kernel_rfl) (by kernel_rfl) (by kernel_rfl) (fun _ _ _ h => h) (Or.inl ⟨by kernel_rfl, ?_⟩) (by assumption) ?_
      rotate_left
      · intro wx hSw
        try dsimp only at hSw
        go_simp <;> with_reducible rfl
      try simp only [List.getElem_toArray, List.getElem_cons_zero, List.getElem_cons_succ, Act.put, List.setIfInBounds_toArray, List.set_cons_zero, List.set_cons_succ]
      refine wpAnyH_take (i := 28) (v := ?_) rfl (by kernel_rfl) (by kernel_rfl) (by kernel_rfl) (fun _ _ _ h => h) (Or.inl ⟨by kernel_rfl, ?_⟩) (by assumption) ?_
      rotate_left
      · intro wx hSw
        try dsimp only at hSw
        go_simp <;> with_reducible rfl
      try simp only [List.getElem_toArray, List.getElem_cons_zero, List.getElem_cons_succ, Act.put, List.setIfInBounds_toArray, List.set_cons_zero, List.set_cons_succ]
      refine wpAnyH_take (i := 29) (v := ?_) rfl (by kernel_rfl) (by kernel_rfl) (by kernel_rfl) (fun _ _ _ h => h) (Or.inl ⟨by kernel_rfl, ?_⟩) (by assumption) ?_
      rotate_left
      · intro wx hSw
        try dsimp only at hSw
        go_simp <;> with_reducible rfl
      try simp only [List.getElem_toArray, List.getElem_cons_zero, List.getElem_cons_succ, Act.put, List.setIfInBounds_toArray, List.set_cons_zero, List.set_cons_succ]
      refine wpAnyH_take (i := 30) (v := ?_) rfl (by kernel_rfl) (by kernel_rfl) (by kernel_rfl) (fun _ _ _ h => h) (Or.inl ⟨by kernel_rfl, ?_⟩) (by assumption) ?_
      rotate_left
      · intro wx hSw
        try dsimp only at hSw
        go_simp <;> with_reducible rfl
      try simp only [List.getElem_toArray, List.getElem_cons_zero, List.getElem_cons_succ, Act.put, List.setIfInBounds_toArray, List.set_cons_zero, List.set_cons_succ]
      refine wpAnyH_take (i := 32) (v := ?_) rfl (by kernel_rfl) (by kernel_rfl) (by kernel_rfl) (fun _ _ _ h => h) (Or.inl ⟨by kernel_rfl, ?_⟩) (by assumption) ?_
      rotate_left
      · intro wx hSw
        try dsimp only at hSw
        go_simp <;> with_reducible rfl
      try simp only [List.getElem_toArray, List.getElem_cons_zero, List.getElem_cons_succ, Act.put, List.setIfInBounds_toArray, List.set_cons_zero, List.set_cons_succ]
      refine wpAnyH_take (i := 33) (v := ?_) rfl (by kernel_rfl) (by kernel_rfl) (by kernel_rfl) (fun _ _ _ h => h) (Or.inl ⟨by kernel_rfl, ?_⟩) (by assumption) ?_
      rotate_left
      · intro wx hSw
        try dsimp only at hSw
        go_simp <;> with_reducible rfl
      try simp only [List.getElem_toArray, List.getElem_cons_zero, List.getElem_cons_succ, Act.put, List.setIfInBounds_toArray, List.set_cons_zero, List.set_cons_succ]
      refine wpAnyH_ready (rs := [31]) (by kernel_rfl) (by simp) ?_
      refine AllReadyH.cons rfl (fun K hK' => ?_) AllReadyH.nil
      have hK := Lib.hid hK'
      clear hK'
      try rw [if_pos (by kernel_rfl)]
      go_simp
      go_at_call 16
      refine (H16.out x10 HX10.out).mono ?_
      rintro e x11 ⟨rfl, hb⟩
      have HX11 := Lib.hid (HX10.out.trans (hb.mono HX10.out.size))
      clear hb
      refine hK.out _ _ (HQC.out x11 HX11.out) (fun hS11 => ?_)
      clear hK K
      try simp only [List.getElem_toArray, List.getElem_cons_zero, List.getElem_cons_succ, Act.put, List.setIfInBounds_toArray, List.set_cons_zero, List.set_cons_succ]
      refine wpAnyH_ready (rs := [34]) (by kernel_rfl) (by simp) ?_
      refine AllReadyH.cons rfl (fun K hK' => ?_) AllReadyH.nil
      have hK := Lib.hid hK'
      clear hK'
      try rw [if_pos (by kernel_rfl)]
      go_simp
      go_at_call 17
      refine (H17.out x11 HX11.out).mono ?_
      rintro e x12 ⟨rfl, hb⟩
      have HX12 := Lib.hid (HX11.out.trans (hb.mono HX11.out.size))
      clear hb
      refine hK.out _ _ (HQC.out x12 HX12.out) (fun hS12 => ?_)
      clear hK K
      try simp only [List.getElem_toArray, List.getElem_cons_zero, List.getElem_cons_succ, Act.put, List.setIfInBounds_toArray, List.set_cons_zero, List.set_cons_succ]
      refine wpAnyH_take (i := 35) (v := ?_) rfl (by kernel_rfl) (by kernel_rfl) (by kernel_rfl) (fun _ _ _ h => h) (Or.inl ⟨by kernel_rfl, ?_⟩) (by assumption) ?_
      rotate_left
      · intro wx hSw
        try dsimp only at hSw
        go_simp <;> with_reducible rfl
      try simp only [List.getElem_toArray, List.getElem_cons_zero, List.getElem_cons_succ, Act.put, List.setIfInBounds_toArray, List.set_cons_zero, List.set_cons_succ]
      refine wpAnyH_take (i := 36) (v := ?_) rfl (by kernel_rfl) (by kernel_rfl) (by kernel_rfl) (fun _ _ _ h => h) (Or.inl ⟨by kernel_rfl, ?_⟩) (by assumption) ?_
      rotate_left
      · intro wx hSw
        try dsimp only at hSw
        go_simp <;> with_reducible rfl
      try simp only [List.getElem_toArray, List.getElem_cons_zero, List.getElem_cons_succ, Act.put, List.setIfInBounds_toArray, List.set_cons_zero, List.set_cons_succ]
      refine wpAnyH_take (i := 37) (v := ?_) rfl (by kernel_rfl) (by kernel_rfl) (by kernel_rfl) (fun _ _ _ h => h) (Or.inl ⟨by kernel_rfl, ?_⟩) (by assumption) ?_
      rotate_left
      · intro wx hSw
        try dsimp only at hSw
        go_simp <;> with_reducible rfl
      try simp only [List.getElem_toArray, List.getElem_cons_zero, List.getElem_cons_succ, Act.put, List.setIfInBounds_toArray, List.set_cons_zero, List.set_cons_succ]
      refine wpAnyH_take (i := 38) (v := ?_) rfl (by kernel_rfl) (by kernel_rfl) (by kernel_rfl) (fun _ _ _ h => h) (Or.inl ⟨by kernel_rfl, ?_⟩) (by assumption) ?_
      rotate_left
      · intro wx hSw
        try dsimp only at hSw
        go_simp <;> with_reducible rfl
      try simp only [List.getElem_toArray, List.getElem_cons_zero, List.getElem_cons_succ, Act.put, List.setIfInBounds_toArray, List.set_cons_zero, List.set_cons_succ]
      refine wpAnyH_take (i := 39) (v := ?_) rfl (by kernel_rfl) (by kernel_rfl) (by kernel_rfl) (fun _ _ _ h => h) (Or.inl ⟨by kernel_rfl, ?_⟩) (by assumption) ?_
      rotate_left
      · intro wx hSw
        try dsimp only at hSw
        go_simp <;> with_reducible rfl
      try simp only [List.getElem_toArray, List.getElem_cons_zero, List.getElem_cons_succ, Act.put, List.setIfInBounds_toArray, List.set_cons_zero, List.set_cons_succ]
      refine wpAnyH_take (i := 40) (v := ?_) rfl (by kernel_rfl) (by kernel_rfl) (by kernel_rfl) (fun _ _ _ h => h) (Or.inl ⟨by kernel_rfl, ?_⟩) (by assumption) ?_
      rotate_left
      · intro wx hSw
        try dsimp only at hSw
        go_simp <;> with_reducible rfl
      try simp only [List.getElem_toArray, List.getElem_cons_zero, List.getElem_cons_succ, Act.put, List.setIfInBounds_toArray, List.set_cons_zero, List.set_cons_succ]
      refine wpAnyH_take (i := 41) (v := ?_) rfl (by kernel_rfl) (by kernel_rfl) (by kernel_rfl) (fun _ _ _ h => h) (Or.inl ⟨by kernel_rfl, ?_⟩) (by assumption) ?_
      rotate_left
      · intro wx hSw
        try dsimp only at hSw
        go_simp <;> with_reducible rfl
      try simp only [List.getElem_toArray, List.getElem_cons_zero, List.getElem_cons_succ, Act.put, List.setIfInBounds_toArray, List.set_cons_zero, List.set_cons_succ]
      refine wpAnyH_take (i := 42) (v := ?_) rfl (by kernel_rfl) (by kernel_rfl) (by kernel_rfl) (fun _ _ _ h => h) (Or.inl ⟨by kernel_rfl, ?_⟩) (by assumption) ?_
      rotate_left
      · intro wx hSw
        try dsimp only at hSw
        go_simp <;> with_reducible rfl
      try simp only [List.getElem_toArray, List.getElem_cons_zero, List.getElem_cons_succ, Act.put, List.setIfInBounds_toArray, List.set_cons_zero, List.set_cons_succ]
      refine wpAnyH_take (i := 43) (v := ?_) rfl (by kernel_rfl) (by kernel_rfl) (by kernel_rfl) (fun _ _ _ h => h) (Or.inl ⟨by kernel_rfl, ?_⟩) (by assumption) ?_
      rotate_left
      · intro wx hSw
        try dsimp only at hSw
        go_simp <;> with_reducible rfl
      try simp only [List.getElem_toArray, List.getElem_cons_zero, List.getElem_cons_succ, Act.put, List.setIfInBounds_toArray, List.set_cons_zero, List.set_cons_succ]
      refine wpAnyH_take (i := 44) (v := ?_) rfl (by kernel_rfl) (by kernel_rfl) (by kernel_rfl) (fun _ _ _ h => h) (Or.inl ⟨by kernel_rfl, ?_⟩) (by assumption) ?_
      rotate_left
      · intro wx hSw
        try dsimp only at hSw
        go_simp <;> with_reducible rfl
      try simp only [List.getElem_toArray, List.getElem_cons_zero, List.getElem_cons_succ, Act.put, List.setIfInBounds_toArray, List.set_cons_zero, List.set_cons_succ]
      refine wpAnyH_take (i := 45) (v := ?_) rfl (by kernel_rfl) (by kernel_rfl) (by kernel_rfl) (fun _ _ _ h => h) (Or.inl ⟨by kernel_rfl, ?_⟩) (by assumption) ?_
      rotate_left
      · intro wx hSw
        try dsimp only at hSw
        go_simp <;> with_reducible rfl
      try simp only [List.getElem_toArray, List.getElem_cons_zero, List.getElem_cons_succ, Act.put, List.setIfInBounds_toArray, List.set_cons_zero, List.set_cons_succ]
      refine wpAnyH_take (i := 47) (v := ?_) rfl (by kernel_rfl) (by kernel_rfl) (by kernel_rfl) (fun _ _ _ h => h) (Or.inl ⟨by kernel_rfl, ?_⟩) (by assumption) ?_
      rotate_left
      · intro wx hSw
        try dsimp only at hSw
        go_simp <;> with_reducible rfl
      try simp only [List.getElem_toArray, List.getElem_cons_zero, List.getElem_cons_succ, Act.put, List.setIfInBounds_toArray, List.set_cons_zero, List.set_cons_succ]
      refine wpAnyH_take (i := 48) (v := ?_) rfl (by kernel_rfl) (by kernel_rfl) (by kernel_rfl) (fun _ _ _ h => h) (Or.inl ⟨by kernel_rfl, ?_⟩) (by assumption) ?_
      rotate_left
      · intro wx hSw
        try dsimp only at hSw
        go_simp <;> with_reducible rfl
      try simp only [List.getElem_toArray, List.getElem_cons_zero, List.getElem_cons_succ, Act.put, List.setIfInBounds_toArray, List.set_cons_zero, List.set_cons_succ]
      refine wpAnyH_take (i := 49) (v := ?_) rfl (by kernel_rfl) (by kernel_rfl) (by kernel_rfl) (fun _ _ _ h => h) (Or.inl ⟨by kernel_rfl, ?_⟩) (by assumption) ?_
      rotate_left
      · intro wx hSw
        try dsimp only at hSw
        go_simp <;> with_reducible rfl
      try simp only [List.getElem_toArray, List.getElem_cons_zero, List.getElem_cons_succ, Act.put, List.setIfInBounds_toArray, List.set_cons_zero, List.set_cons_succ]
      refine wpAnyH_take (i := 50) (v := ?_) rfl (by kernel_rfl) (by kernel_rfl) (by kernel_rfl) (fun _ _ _ h => h) (Or.inl ⟨by kernel_rfl, ?_⟩) (by assumption) ?_
      rotate_left
      · intro wx hSw
        try dsimp only at hSw
        go_simp <;> with_reducible rfl
      try simp only [List.getElem_toArray, List.getElem_cons_zero, List.getElem_cons_succ, Act.put, List.setIfInBounds_toArray, List.set_cons_zero, List.set_cons_succ]
      refine wpAnyH_ready (rs := [46]) (by kernel_rfl) (by simp) ?_
      refine AllReadyH.cons rfl (fun K hK' => ?_) AllReadyH.nil
      have hK := Lib.hid hK'
      clear hK'
      try rw [if_pos (by kernel_rfl)]
      go_simp
      go_at_call 18
      refine (H18.out x12).mono ?_
      rintro e x13 ⟨rfl, hb⟩
      have HX13 := Lib.hid (HX12.out.trans (hb.mono HX12.out.size))
      clear hb
      refine hK.out _ _ (HQC.out x13 HX13.out) (fun hS13 => ?_)
      clear hK K
      try simp only [List.getElem_toArray, List.getElem_cons_zero, List.getElem_cons_succ, Act.put, List.setIfInBounds_toArray, List.set_cons_zero, List.set_cons_succ]
      refine wpAnyH_ready (rs := [51]) (by kernel_rfl) (by simp) ?_
      refine AllReadyH.cons rfl (fun K hK' => ?_) AllReadyH.nil
      have hK := Lib.hid hK'
      clear hK'
      try rw [if_pos (by kernel_rfl)]
      go_simp
      go_at_call 19
      refine (H19.out x13).mono ?_
      rintro e x14 ⟨rfl, hb⟩
      have HX14 := Lib.hid (HX13.out.trans (hb.mono HX13.out.size))
      clear hb
      refine hK.out _ _ (HQC.out x14 HX14.out) (fun hS14 => ?_)
      clear hK K
      try simp only [List.getElem_toArray, List.getElem_cons_zero, List.getElem_cons_succ, Act.put, List.setIfInBounds_toArray, List.set_cons_zero, List.set_cons_succ]
      refine wpAnyH_take (i := 52) (v := ?_) rfl (by kernel_rfl) (by kernel_rfl) (by kernel_rfl) (fun _ _ _ h => h) (Or.inl ⟨by kernel_rfl, ?_⟩) (by assumption) ?_
      rotate_left
      · intro wx hSw
        try dsimp only at hSw
        go_simp <;> with_reducible rfl
      try simp only [List.getElem_toArray, List.getElem_cons_zero, List.getElem_cons_succ, Act.put, List.setIfInBounds_toArray, List.set_cons_zero, List.set_cons_succ]
      refine wpAnyH_take (i := 53) (v := ?_) rfl (by kernel_rfl) (by kernel_rfl) (by kernel_rfl) (fun _ _ _ h => h) (Or.inl ⟨by kernel_rfl, ?_⟩) (by assumption) ?_
      rotate_left
      · intro wx hSw
        try dsimp only at hSw
        go_simp <;> with_reducible rfl
      try simp only [List.getElem_toArray, List.getElem_cons_zero, List.getElem_cons_succ, Act.put, List.setIfInBounds_toArray, List.set_cons_zero, List.set_cons_succ]
      refine wpAnyH_take (i := 54) (v := ?_) rfl (by kernel_rfl) (by kernel_rfl) (by kernel_rfl) (fun _ _ _ h => h) (Or.inl ⟨by kernel_rfl, ?_⟩) (by assumption) ?_
      rotate_left
      · intro wx hSw
        try dsimp only at hSw
        go_simp <;> with_reducible rfl
      try simp only [List.getElem_toArray, List.getElem_cons_zero, List.getElem_cons_succ, Act.put, List.setIfInBounds_toArray, List.set_cons_zero, List.set_cons_succ]
      refine wpAnyH_take (i := 55) (v := ?_) rfl (by kernel_rfl) (by kernel_rfl) (by kernel_rfl) (fun _ _ _ h => h) (Or.inl ⟨by kernel_rfl, ?_⟩) (by assumption) ?_
      rotate_left
      · intro wx hSw
        try dsimp only at hSw
        go_simp <;> with_reducible rfl
      try simp only [List.getElem_toArray, List.getElem_cons_zero, List.getElem_cons_succ, Act.put, List.setIfInBounds_toArray, List.set_cons_zero, List.set_cons_succ]
      refine wpAnyH_ready (rs := [56]) (by kernel_rfl) (by simp) ?_
      refine AllReadyH.cons rfl (fun K hK' => ?_) AllReadyH.nil
      have hK := Lib.hid hK'
      clear hK'
      try rw [if_pos (by kernel_rfl)]
      go_simp
      go_at_call 6
      refine (HAW.out x14).mono ?_
      rintro e x15 ⟨rfl, hb⟩
      have HX15 := Lib.hid (HX14.out.trans (hb.mono HX14.out.size))
      clear hb
      refine hK.out _ _ (HQC.out x15 HX15.out) (fun hS15 => ?_)
      clear hK K
      try simp only [List.getElem_toArray, List.getElem_cons_zero, List.getElem_cons_succ, Act.put, List.setIfInBounds_toArray, List.set_cons_zero, List.set_cons_succ]
      refine wpAnyH_take (i := 57) (v := ?_) rfl (by kernel_rfl) (by kernel_rfl) (by kernel_rfl) (fun _ _ _ h => h) (Or.inl ⟨by kernel_rfl, ?_⟩) (by assumption) ?_
      rotate_left
      · intro wx hSw
        try dsimp only at hSw
        go_simp <;> with_reducible rfl
      try simp only [List.getElem_toArray, List.getElem_cons_zero, List.getElem_cons_succ, Act.put, List.setIfInBounds_toArray, List.set_cons_zero, List.set_cons_succ]
      refine wpAnyH_take (i := 58) (v := ?_) rfl (by kernel_rfl) (by kernel_rfl) (by kernel_rfl) (fun _ _ _ h => h) (Or.inl ⟨by kernel_rfl, ?_⟩) (by assumption) ?_
      rotate_left
      · intro wx hSw
        try dsimp only at hSw
        go_simp <;> with_reducible rfl
      try simp only [List.getElem_toArray, List.getElem_cons_zero, List.getElem_cons_succ, Act.put, List.setIfInBounds_toArray, List.set_cons_zero, List.set_cons_succ]
      refine wpAnyH_done (by kernel_rfl) ?_ _
      go_wp2
      go_ret
      exact ⟨rfl, HB3.out.trans (HX15.out.mono HB3.out.size)⟩

end Go.Proofs.Ytnngldkpkhabeaa.pairsReach
