
/- The function ActsFor returns true for every slice of acts, every number and every slice of ids. Condition: the package-level variables hold what the program lays in them (the card ties that). This text: the walk through the Go text; the row is in the text without the W at its name's end. -/

import Derived.Test.YtlbpmbdogkfecaaDoorArgs

import Derived.Test.YtlbpmbdogkfecaaDoorSrtQ

import Derived.Test.YtlbpmbdogkfecaaDoorActI

import Derived.Deep.RegionHeld3

namespace Go.Proofs.YtlbpmbdogkfecaaDoor.actsFor

open Go.RowKit Go.PlainAid Go.Proofs.YtlbpmbdogkfecaaDoor.Args

set_option linter.unusedVariables false

open Go.Proofs.YtlbpmbdogkfecaaDoor.Srt

open Go.Proofs.YtlbpmbdogkfecaaDoor.Cel (own_slice own_keep)

open Go.Proofs.YtlbpmbdogkfecaaDoor.Flt (Names)

set_option linter.unusedSimpArgs false

def cv (x : A3) : Go.Proofs.YtlbpmbdogkfecaaDoor.Act.A3 := ⟨x.s, x.p, x.a⟩
theorem row_at {g : Nat} {tl : List Value} {C : List A3} {W : World} (h : Row g tl C W) : Go.Proofs.YtlbpmbdogkfecaaDoor.Act.ActsAt W (some ⟨g, 0, none⟩) (C.map cv) := by
  intro i x hx
  rw [List.getElem?_map] at hx
  obtain ⟨z, hz, rfl⟩ := Option.map_eq_some_iff.1 hx
  refine ⟨_, rfl, ?_, ?_, ?_⟩
  · have e : (Addr.mk g 0 none).add (i * 3) = ⟨g, i * 3, none⟩ := by cases i * 3 <;> simp [Addr.add]
    rw [e, cell_of_row _ _ _ _ _ _ h, List.getElem?_toArray]; exact flatA_get C i z hz tl 0 (by omega)
  · have e : (Addr.mk g 0 none).add (i * 3) = ⟨g, i * 3, none⟩ := by cases i * 3 <;> simp [Addr.add]
    rw [e, cell_of_row _ _ _ _ _ _ h, List.getElem?_toArray]; exact flatA_get C i z hz tl 1 (by omega)
  · have e : (Addr.mk g 0 none).add (i * 3) = ⟨g, i * 3, none⟩ := by cases i * 3 <;> simp [Addr.add]
    rw [e, cell_of_row _ _ _ _ _ _ h, List.getElem?_toArray]; exact flatA_get C i z hz tl 2 (by omega)
theorem so_at {L M : List A3} {W W' : World} {e : Ending} (hM : Stab L M) (h : (e = .returned (.slice none 0 0) ∧ M = []) ∨ ∃ g c tl, e = .returned (.slice (some ⟨g, 0, none⟩) (compL M).length c) ∧ W.heap.size ≤ g ∧ (compL M).length ≤ c ∧ Row g tl (compL M) W') :
    ∃ A c, e = .returned (.slice A (srtD L).length c) ∧ Go.Proofs.YtlbpmbdogkfecaaDoor.Act.ActsAt W' A ((srtD L).map cv) := by
  have e1 := srtD_eq hM
  rcases h with ⟨rfl, rfl⟩ | ⟨g, c, tl, rfl, _, _, hr⟩
  · have e2 : srtD L = [] := by rw [← e1]; rfl
    rw [e2]
    exact ⟨none, 0, rfl, fun i x hx => by simp at hx⟩
  · rw [e1] at hr ⊢
    exact ⟨_, c, rfl, row_at hr⟩
theorem sod_at {L : List A3} {B : Nat} {W : World} {V : Value} (h : W.ownsRow B 30 3 V (srtD L).length (flatA (srtD L))) : ∃ A c, V = .slice A (srtD L).length c ∧ Go.Proofs.YtlbpmbdogkfecaaDoor.Act.ActsAt W A ((srtD L).map cv) := by
  obtain ⟨A, c, rfl⟩ := own_slice h
  refine ⟨A, c, rfl, ?_⟩
  rcases own_row h rfl with ⟨rfl, h0, _⟩ | ⟨g, tl, rfl, _, _, _, hr⟩
  · rw [List.eq_nil_of_length_eq_zero h0]
    exact fun i x hx => by simp at hx
  · exact row_at hr
theorem same_own {A B : Option Addr} {ca cb : Nat} {C : List A3} {W : World} (h1 : Go.Proofs.YtlbpmbdogkfecaaDoor.Act.ActsAt W A (C.map cv)) (h2 : Go.Proofs.YtlbpmbdogkfecaaDoor.Act.ActsAt W B (C.map cv)) (hl : C.length ≤ maxLen) :
    Calls Tryd.prog 6 #[.slice A C.length ca, .slice B C.length cb] W fun e w' => e = .returned (.bool true) ∧ ∃ n, w' = W.drewN n := by
  have h := Go.Proofs.YtlbpmbdogkfecaaDoor.Act.same_any A B ca cb (C.map cv) W h1 h2 (by rw [List.length_map]; exact hl)
  rw [List.length_map] at h
  exact h
def LRel (n : Nat) (w1 : World) (i : Value) (W : World) : Prop := ∃ k : Nat, k ≤ n ∧ i = .int .i64 (k : Int) ∧ Below w1.heap.size w1 W
set_option maxRecDepth 8000 in
set_option maxHeartbeats 12800000 in
theorem walk (a0 : Option Addr) (len0 cap0 : Nat) (a1 : Int) (a2 : Option Addr) (len2 cap2 : Nat) (z2 : List Int) (w : World) (w0 : IsRecs w a0 len0 cap0 [.int .i64, .int .i64, .int .i64]) (w1 : (Lit.int .i64 a1).wf = true) (w2 : IsRow .i64 w a2 len2 cap2 z2) (hn : Go.Proofs.YtlbpmbdogkfecaaDoor.Flt.Names w) :
    Calls Tryd.prog 3 #[.slice a0 len0 cap0, .int .i64 a1, .slice a2 len2 cap2] w fun e w' => e = .returned (.bool true) ∧ Below w.heap.size w w' := by
  have HNM := Lib.hid hn
  clear hn
  by_cases hbig : 40 < len0 ∨ 40 < len2
  · have hc : decide (40 < (len0 : Int)) = true ∨ (decide (40 < (len0 : Int)) = false ∧ decide (40 < (len2 : Int)) = true) := by
      rcases Nat.lt_or_ge 40 len0 with h | h
      · exact .inl (decide_eq_true (by omega))
      · exact .inr ⟨decide_eq_false (by omega), decide_eq_true (by omega)⟩
    have HA := Lib.hid (Go.Proofs.YtlbpmbdogkfecaaDoor.Act.awake_any w HNM.out)
    clear hbig w0 w1 w2
    rcases hc with t0 | ⟨t0, t1⟩
    all_goals
      go_enter Tryd.func3, Tryd.ntmps3
      go_wp2_with (go_at_call 4; refine HA.out.mono ?_; rintro e w' ⟨rfl, hb⟩)
      go_ret
      exact ⟨rfl, hb⟩
  have t0 : decide (40 < (len0 : Int)) = false := decide_eq_false (by omega)
  have t1 : decide (40 < (len2 : Int)) = false := decide_eq_false (by omega)
  obtain ⟨L, hL, hac, hnil, hlc, hcm⟩ := acts_in w0
  obtain ⟨hil, hia⟩ := ids_in w2
  obtain ⟨ids, hids⟩ : ∃ l, z2.take len2 = l := ⟨_, rfl⟩
  rw [hids] at hil hia
  have hL40 : L.length ≤ 40 := by omega
  have hi40 : ids.length ≤ 40 := by omega
  have hrw := row_any a0 cap0 L a1 a2 cap2 ids w hac.flat hnil (by omega) (by omega) hia (by omega)
  unfold RwPost at hrw
  have HSO : Hid (∀ {w1 : World}, Below w.heap.size w w1 → ∀ W', Below w1.heap.size w1 W' → Calls Tryd.prog 7 #[.slice a0 L.length cap0] W' (SoPost L W')) := fun {w1} hb W' b => sort_any a0 cap0 L W' (hac.kept (hb.trans (b.mono hb.size))).flat hnil (by omega) (by omega)
  have HRS : Hid (∀ {w1 : World}, Below w.heap.size w w1 → ∀ W', Below w1.heap.size w1 W' → Calls Tryd.prog 8 #[.slice a0 L.length cap0] W' (SoD L W')) := fun {w1} hb W' b => rsort_any a0 cap0 L W' (hac.kept (hb.trans (b.mono hb.size))) (by omega)
  obtain ⟨LL, hLL⟩ : ∃ m, L.length = m := ⟨_, rfl⟩
  obtain ⟨n, hn⟩ : ∃ m, ids.length = m := ⟨_, rfl⟩
  have HLN := Lib.hid hLL
  have HN2 := Lib.hid hn
  have HLL : Hid (L.length ≤ 40) := hL40
  have HN4 : Hid (n ≤ 40) := by show _ ≤ _; omega
  have HCL : Hid ((srtD L).length ≤ 40) := by have := srtD_len L; show _ ≤ _; omega
  have HAC := Lib.hid hac
  have HI := Lib.hid hia
  rw [hn, hLL] at hrw
  rw [hLL] at HSO HRS
  have HRW0 := Lib.hid hrw
  obtain rfl : LL = len0 := by omega
  obtain rfl : n = len2 := by omega
  have tnn : ((n : Int) != (n : Int)) = false := by simp
  clear hbig w0 w1 w2 hL hac hnil hlc hcm hil hia hids hL40 hi40 hrw hLL hn
  by_cases h2 : 1 < LL
  · have tl : decide (1 < (LL : Int)) = true := decide_eq_true (by omega)
    have l0 : (0 : Int) < LL := by omega
    have l1 : (1 : Int) < LL := by omega
    have l0n : 0 < LL := by omega
    have l1n : 1 < LL := h2
    obtain ⟨x0, hx0⟩ : ∃ x, L[0]? = some x := ⟨_, List.getElem?_eq_getElem (by rw [HLN.out]; omega)⟩
    obtain ⟨x1, hx1⟩ : ∃ x, L[1]? = some x := ⟨_, List.getElem?_eq_getElem (by rw [HLN.out]; omega)⟩
    obtain ⟨y, rfl, _, _, _⟩ := HAC.out 0 x0 hx0
    have HK : Hid (∀ W', Below w.heap.size w W' → (W'.cell? y = some (.int .i64 x0.s) ∧ W'.cell? ⟨y.block, y.off + 1, none⟩ = some (.int .i64 x0.p) ∧ W'.cell? ⟨y.block, y.off + 2, none⟩ = some (.int .i64 x0.a) ∧ W'.cell? ⟨y.block, y.off + 3, none⟩ = some (.int .i64 x1.s) ∧ W'.cell? ⟨y.block, y.off + 3 + 1, none⟩ = some (.int .i64 x1.p) ∧ W'.cell? ⟨y.block, y.off + 3 + 2, none⟩ = some (.int .i64 x1.a))) := fun W' b => by
      obtain ⟨y', e, g1, g2, g3⟩ := (HAC.out.kept b) 0 x0 hx0
      obtain rfl := Option.some.inj e
      obtain ⟨y', e, g4, g5, g6⟩ := (HAC.out.kept b) 1 x1 hx1
      obtain rfl := Option.some.inj e
      exact ⟨g1, g2, g3, g4, g5, g6⟩
    have HLE := Lib.hid (fun W => Go.Proofs.YtlbpmbdogkfecaaDoor.Act.less_any (cv x0) (cv x1) W)
    have HRL := Lib.hid (fun W => Go.Proofs.YtlbpmbdogkfecaaDoor.Act.less11_any (cv x0) (cv x1) W)
    obtain ⟨bl, hbl⟩ : ∃ b, Go.Proofs.YtlbpmbdogkfecaaDoor.Act.lessB (cv x0) (cv x1) = b := ⟨_, rfl⟩
    rw [hbl] at HLE HRL
    unfold Go.Proofs.YtlbpmbdogkfecaaDoor.Act.actC cv at HLE HRL
    dsimp only at HLE HRL
    have tbb : (bl != bl) = false := by simp
    clear hx0 hx1 hbl h2
    go_enter Tryd.func3, Tryd.ntmps3
    go_wp2_with fail
    refine HRW0.out.mono ?_
    rintro e w1 ⟨g, rfl, hg, hri, hb1⟩
    have HB1 := Lib.hid hb1
    have HRW := Lib.hid hri
    have HSO := Lib.hid (HSO.out hb1)
    have HRS := Lib.hid (HRS.out hb1)
    have HK6 : Hid (∀ W', Below w1.heap.size w1 W' → (W'.cell? y = some (.int .i64 x0.s) ∧ W'.cell? ⟨y.block, y.off + 1, none⟩ = some (.int .i64 x0.p) ∧ W'.cell? ⟨y.block, y.off + 2, none⟩ = some (.int .i64 x0.a) ∧ W'.cell? ⟨y.block, y.off + 3, none⟩ = some (.int .i64 x1.s) ∧ W'.cell? ⟨y.block, y.off + 3 + 1, none⟩ = some (.int .i64 x1.p) ∧ W'.cell? ⟨y.block, y.off + 3 + 2, none⟩ = some (.int .i64 x1.a))) := fun W' b => HK.out W' (HB1.out.trans (b.mono HB1.out.size))
    have HBD : Hid (Below w1.heap.size w1 w1.drew) := below_drewS (Below.refl _ _)
    clear hri hb1 hg HRW0 HK
    go_wp2_with fail
    refine wp_region_held_drew (S := (fun wx => wx.cell? y = some (.int .i64 x0.s) ∧ wx.cell? ⟨y.block, y.off + 1, none⟩ = some (.int .i64 x0.p) ∧ wx.cell? ⟨y.block, y.off + 2, none⟩ = some (.int .i64 x0.a) ∧ wx.cell? ⟨y.block, y.off + 3, none⟩ = some (.int .i64 x1.s) ∧ wx.cell? ⟨y.block, y.off + 3 + 1, none⟩ = some (.int .i64 x1.p) ∧ wx.cell? ⟨y.block, y.off + 3 + 2, none⟩ = some (.int .i64 x1.a))) (by kernel_rfl) (HK6.out w1.drew HBD.out) (fun hS => ?_)
    refine wpAnyH_take (i := 0) (v := ?_) rfl (by kernel_rfl) (by kernel_rfl) (by kernel_rfl) (fun _ _ _ h => h) (Or.inl ⟨by kernel_rfl, ?_⟩) (by assumption) ?_
    rotate_left
    · intro wx hSw
      try dsimp only at hSw
      go_simp <;> with_reducible rfl
    simp only [List.getElem_toArray, List.getElem_cons_zero, List.getElem_cons_succ, Act.put, List.setIfInBounds_toArray, List.set_cons_zero, List.set_cons_succ]
    refine wpAnyH_take (i := 1) (v := ?_) rfl (by kernel_rfl) (by kernel_rfl) (by kernel_rfl) (fun _ _ _ h => h) (Or.inl ⟨by kernel_rfl, ?_⟩) (by assumption) ?_
    rotate_left
    · intro wx hSw
      try dsimp only at hSw
      go_simp <;> with_reducible rfl
    simp only [List.getElem_toArray, List.getElem_cons_zero, List.getElem_cons_succ, Act.put, List.setIfInBounds_toArray, List.set_cons_zero, List.set_cons_succ]
    refine wpAnyH_take (i := 2) (v := ?_) rfl (by kernel_rfl) (by kernel_rfl) (by kernel_rfl) (fun _ _ _ h => h) (Or.inl ⟨by kernel_rfl, ?_⟩) (by assumption) ?_
    rotate_left
    · intro wx hSw
      try dsimp only at hSw
      go_simp <;> with_reducible rfl
    simp only [List.getElem_toArray, List.getElem_cons_zero, List.getElem_cons_succ, Act.put, List.setIfInBounds_toArray, List.set_cons_zero, List.set_cons_succ]
    refine wpAnyH_take (i := 3) (v := ?_) rfl (by kernel_rfl) (by kernel_rfl) (by kernel_rfl) (fun _ _ _ h => h) (Or.inl ⟨by kernel_rfl, ?_⟩) (by assumption) ?_
    rotate_left
    · intro wx hSw
      try dsimp only at hSw
      go_simp <;> with_reducible rfl
    simp only [List.getElem_toArray, List.getElem_cons_zero, List.getElem_cons_succ, Act.put, List.setIfInBounds_toArray, List.set_cons_zero, List.set_cons_succ]
    refine wpAnyH_take (i := 4) (v := ?_) rfl (by kernel_rfl) (by kernel_rfl) (by kernel_rfl) (fun _ _ _ h => h) (Or.inl ⟨by kernel_rfl, ?_⟩) (by assumption) ?_
    rotate_left
    · intro wx hSw
      try dsimp only at hSw
      go_simp <;> with_reducible rfl
    simp only [List.getElem_toArray, List.getElem_cons_zero, List.getElem_cons_succ, Act.put, List.setIfInBounds_toArray, List.set_cons_zero, List.set_cons_succ]
    refine wpAnyH_take (i := 5) (v := ?_) rfl (by kernel_rfl) (by kernel_rfl) (by kernel_rfl) (fun _ _ _ h => h) (Or.inl ⟨by kernel_rfl, ?_⟩) (by assumption) ?_
    rotate_left
    · intro wx hSw
      try dsimp only at hSw
      go_simp <;> with_reducible rfl
    simp only [List.getElem_toArray, List.getElem_cons_zero, List.getElem_cons_succ, Act.put, List.setIfInBounds_toArray, List.set_cons_zero, List.set_cons_succ]
    refine wpAnyH_take (i := 6) (v := ?_) rfl (by kernel_rfl) (by kernel_rfl) (by kernel_rfl) (fun _ _ _ h => h) (Or.inl ⟨by kernel_rfl, ?_⟩) (by assumption) ?_
    rotate_left
    · intro wx hSw
      try dsimp only at hSw
      go_simp <;> with_reducible rfl
    simp only [List.getElem_toArray, List.getElem_cons_zero, List.getElem_cons_succ, Act.put, List.setIfInBounds_toArray, List.set_cons_zero, List.set_cons_succ]
    refine wpAnyH_take (i := 8) (v := ?_) rfl (by kernel_rfl) (by kernel_rfl) (by kernel_rfl) (fun _ _ _ h => h) (Or.inl ⟨by kernel_rfl, ?_⟩) (by assumption) ?_
    rotate_left
    · intro wx hSw
      try dsimp only at hSw
      go_simp <;> with_reducible rfl
    simp only [List.getElem_toArray, List.getElem_cons_zero, List.getElem_cons_succ, Act.put, List.setIfInBounds_toArray, List.set_cons_zero, List.set_cons_succ]
    refine wpAnyH_ready (rs := [7]) (by kernel_rfl) (by simp) ?_
    refine AllReadyH.cons rfl (fun K hK => ?_) AllReadyH.nil
    rw [if_pos (by kernel_rfl)]
    go_simp
    go_at_call 7
    refine (HSO.out _ HBD.out).mono ?_
    rintro e w2 ⟨M, hM, hor, hb2⟩
    obtain ⟨A2, c2, rfl, hat2⟩ := so_at hM hor
    have HM2 := Lib.hid hat2
    have HB2 := Lib.hid (HBD.out.trans (hb2.mono HBD.out.size))
    clear hM hor hb2 hat2
    refine hK.out _ _ (HK6.out w2 HB2.out) (fun hS7 => ?_)
    clear hK K
    try simp only [List.getElem_toArray, List.getElem_cons_zero, List.getElem_cons_succ, Act.put, List.setIfInBounds_toArray, List.set_cons_zero, List.set_cons_succ]
    refine wpAnyH_ready (rs := [9]) (by kernel_rfl) (by simp) ?_
    refine AllReadyH.cons rfl (fun K hK => ?_) AllReadyH.nil
    rw [if_pos (by kernel_rfl)]
    go_simp
    go_at_call 8
    refine (HRS.out _ HB2.out).mono ?_
    rintro e w3 ⟨V3, rfl, ho3, hb3⟩
    obtain ⟨A3', c3, rfl, hat3⟩ := sod_at ho3
    have HM3 := Lib.hid (HM2.out.kept hb3)
    have HR3 := Lib.hid hat3
    have HB3 := Lib.hid (HB2.out.trans (hb3.mono HB2.out.size))
    clear ho3 hb3 hat3 HM2
    refine hK.out _ _ (HK6.out w3 HB3.out) (fun hS9 => ?_)
    clear hK K
    try simp only [List.getElem_toArray, List.getElem_cons_zero, List.getElem_cons_succ, Act.put, List.setIfInBounds_toArray, List.set_cons_zero, List.set_cons_succ]
    refine wpAnyH_ready (rs := [10]) (by kernel_rfl) (by simp) ?_
    refine AllReadyH.cons rfl (fun K hK => ?_) AllReadyH.nil
    rw [if_pos (by kernel_rfl)]
    go_simp
    go_at_call 6
    refine (same_own HM3.out HR3.out (by have := HCL.out; unfold maxLen; omega)).mono ?_
    rintro e w4 ⟨rfl, q4, hw4⟩
    have HB4 : Hid (Below w1.heap.size w1 w4) := by show Below _ _ _; rw [hw4]; exact below_dN HB3.out q4
    clear hw4 HM3 HR3
    refine hK.out _ _ (HK6.out w4 HB4.out) (fun hS10 => ?_)
    clear hK K
    try simp only [List.getElem_toArray, List.getElem_cons_zero, List.getElem_cons_succ, Act.put, List.setIfInBounds_toArray, List.set_cons_zero, List.set_cons_succ]
    refine wpAnyH_take (i := 11) (v := ?_) rfl (by kernel_rfl) (by kernel_rfl) (by kernel_rfl) (fun _ _ _ h => h) (Or.inl ⟨by kernel_rfl, ?_⟩) (by assumption) ?_
    rotate_left
    · intro wx hSw
      try dsimp only at hSw
      go_simp <;> with_reducible rfl
    simp only [List.getElem_toArray, List.getElem_cons_zero, List.getElem_cons_succ, Act.put, List.setIfInBounds_toArray, List.set_cons_zero, List.set_cons_succ]
    refine wpAnyH_take (i := 12) (v := ?_) rfl (by kernel_rfl) (by kernel_rfl) (by kernel_rfl) (fun _ _ _ h => h) (Or.inl ⟨by kernel_rfl, ?_⟩) (by assumption) ?_
    rotate_left
    · intro wx hSw
      try dsimp only at hSw
      go_simp <;> with_reducible rfl
    simp only [List.getElem_toArray, List.getElem_cons_zero, List.getElem_cons_succ, Act.put, List.setIfInBounds_toArray, List.set_cons_zero, List.set_cons_succ]
    refine wpAnyH_take (i := 13) (v := ?_) rfl (by kernel_rfl) (by kernel_rfl) (by kernel_rfl) (fun _ _ _ h => h) (Or.inl ⟨by kernel_rfl, ?_⟩) (by assumption) ?_
    rotate_left
    · intro wx hSw
      try dsimp only at hSw
      go_simp <;> with_reducible rfl
    simp only [List.getElem_toArray, List.getElem_cons_zero, List.getElem_cons_succ, Act.put, List.setIfInBounds_toArray, List.set_cons_zero, List.set_cons_succ]
    refine wpAnyH_take (i := 14) (v := ?_) rfl (by kernel_rfl) (by kernel_rfl) (by kernel_rfl) (fun _ _ _ h => h) (Or.inl ⟨by kernel_rfl, ?_⟩) (by assumption) ?_
    rotate_left
    · intro wx hSw
      try dsimp only at hSw
      go_simp <;> with_reducible rfl
    simp only [List.getElem_toArray, List.getElem_cons_zero, List.getElem_cons_succ, Act.put, List.setIfInBounds_toArray, List.set_cons_zero, List.set_cons_succ]
    refine wpAnyH_take (i := 15) (v := ?_) rfl (by kernel_rfl) (by kernel_rfl) (by kernel_rfl) (fun _ _ _ h => h) (Or.inl ⟨by kernel_rfl, ?_⟩) (by assumption) ?_
    rotate_left
    · intro wx hSw
      try dsimp only at hSw
      go_simp <;> with_reducible rfl
    simp only [List.getElem_toArray, List.getElem_cons_zero, List.getElem_cons_succ, Act.put, List.setIfInBounds_toArray, List.set_cons_zero, List.set_cons_succ]
    refine wpAnyH_take (i := 16) (v := ?_) rfl (by kernel_rfl) (by kernel_rfl) (by kernel_rfl) (fun _ _ _ h => h) (Or.inl ⟨by kernel_rfl, ?_⟩) (by assumption) ?_
    rotate_left
    · intro wx hSw
      try dsimp only at hSw
      go_simp <;> with_reducible rfl
    simp only [List.getElem_toArray, List.getElem_cons_zero, List.getElem_cons_succ, Act.put, List.setIfInBounds_toArray, List.set_cons_zero, List.set_cons_succ]
    refine wpAnyH_take (i := 17) (v := ?_) rfl (by kernel_rfl) (by kernel_rfl) (by kernel_rfl) (fun _ _ _ h => h) (Or.inl ⟨by kernel_rfl, ?_⟩) (by assumption) ?_
    rotate_left
    · intro wx hSw
      try dsimp only at hSw
      go_simp <;> with_reducible rfl
    simp only [List.getElem_toArray, List.getElem_cons_zero, List.getElem_cons_succ, Act.put, List.setIfInBounds_toArray, List.set_cons_zero, List.set_cons_succ]
    refine wpAnyH_take (i := 18) (v := ?_) rfl (by kernel_rfl) (by kernel_rfl) (by kernel_rfl) (fun _ _ _ h => h) (Or.inl ⟨by kernel_rfl, ?_⟩) (by assumption) ?_
    rotate_left
    · intro wx hSw
      try dsimp only at hSw
      go_simp <;> with_reducible rfl
    simp only [List.getElem_toArray, List.getElem_cons_zero, List.getElem_cons_succ, Act.put, List.setIfInBounds_toArray, List.set_cons_zero, List.set_cons_succ]
    refine wpAnyH_take (i := 19) (v := ?_) rfl (by kernel_rfl) (by kernel_rfl) (by kernel_rfl) (fun _ _ _ h => h) (Or.inl ⟨by kernel_rfl, ?_⟩) (by assumption) ?_
    rotate_left
    · intro wx hSw
      try dsimp only at hSw
      go_simp <;> with_reducible rfl
    simp only [List.getElem_toArray, List.getElem_cons_zero, List.getElem_cons_succ, Act.put, List.setIfInBounds_toArray, List.set_cons_zero, List.set_cons_succ]
    refine wpAnyH_take (i := 20) (v := ?_) rfl (by kernel_rfl) (by kernel_rfl) (by kernel_rfl) (fun _ _ _ h => h) (Or.inl ⟨by kernel_rfl, ?_⟩) (by assumption) ?_
    rotate_left
    · intro wx hSw
      try dsimp only at hSw
      go_simp <;> with_reducible rfl
    simp only [List.getElem_toArray, List.getElem_cons_zero, List.getElem_cons_succ, Act.put, List.setIfInBounds_toArray, List.set_cons_zero, List.set_cons_succ]
    refine wpAnyH_take (i := 21) (v := ?_) rfl (by kernel_rfl) (by kernel_rfl) (by kernel_rfl) (fun _ _ _ h => h) (Or.inl ⟨by kernel_rfl, ?_⟩) (by assumption) ?_
    rotate_left
    · intro wx hSw
      try dsimp only at hSw
      go_simp <;> with_reducible rfl
    simp only [List.getElem_toArray, List.getElem_cons_zero, List.getElem_cons_succ, Act.put, List.setIfInBounds_toArray, List.set_cons_zero, List.set_cons_succ]
    refine wpAnyH_take (i := 22) (v := ?_) rfl (by kernel_rfl) (by kernel_rfl) (by kernel_rfl) (fun _ _ _ h => h) (Or.inl ⟨by kernel_rfl, ?_⟩) (by assumption) ?_
    rotate_left
    · intro wx hSw
      try dsimp only at hSw
      go_simp <;> with_reducible rfl
    simp only [List.getElem_toArray, List.getElem_cons_zero, List.getElem_cons_succ, Act.put, List.setIfInBounds_toArray, List.set_cons_zero, List.set_cons_succ]
    refine wpAnyH_take (i := 23) (v := ?_) rfl (by kernel_rfl) (by kernel_rfl) (by kernel_rfl) (fun _ _ _ h => h) (Or.inl ⟨by kernel_rfl, ?_⟩) (by assumption) ?_
    rotate_left
    · intro wx hSw
      try dsimp only at hSw
      go_simp <;> with_reducible rfl
    simp only [List.getElem_toArray, List.getElem_cons_zero, List.getElem_cons_succ, Act.put, List.setIfInBounds_toArray, List.set_cons_zero, List.set_cons_succ]
    refine wpAnyH_take (i := 25) (v := ?_) rfl (by kernel_rfl) (by kernel_rfl) (by kernel_rfl) (fun _ _ _ h => h) (Or.inl ⟨by kernel_rfl, ?_⟩) (by assumption) ?_
    rotate_left
    · intro wx hSw
      try dsimp only at hSw
      go_simp <;> with_reducible rfl
    simp only [List.getElem_toArray, List.getElem_cons_zero, List.getElem_cons_succ, Act.put, List.setIfInBounds_toArray, List.set_cons_zero, List.set_cons_succ]
    refine wpAnyH_take (i := 26) (v := ?_) rfl (by kernel_rfl) (by kernel_rfl) (by kernel_rfl) (fun _ _ _ h => h) (Or.inl ⟨by kernel_rfl, ?_⟩) (by assumption) ?_
    rotate_left
    · intro wx hSw
      try dsimp only at hSw
      go_simp <;> with_reducible rfl
    simp only [List.getElem_toArray, List.getElem_cons_zero, List.getElem_cons_succ, Act.put, List.setIfInBounds_toArray, List.set_cons_zero, List.set_cons_succ]
    refine wpAnyH_take (i := 27) (v := ?_) rfl (by kernel_rfl) (by kernel_rfl) (by kernel_rfl) (fun _ _ _ h => h) (Or.inl ⟨by kernel_rfl, ?_⟩) (by assumption) ?_
    rotate_left
    · intro wx hSw
      try dsimp only at hSw
      go_simp <;> with_reducible rfl
    simp only [List.getElem_toArray, List.getElem_cons_zero, List.getElem_cons_succ, Act.put, List.setIfInBounds_toArray, List.set_cons_zero, List.set_cons_succ]
    refine wpAnyH_take (i := 28) (v := ?_) rfl (by kernel_rfl) (by kernel_rfl) (by kernel_rfl) (fun _ _ _ h => h) (Or.inl ⟨by kernel_rfl, ?_⟩) (by assumption) ?_
    rotate_left
    · intro wx hSw
      try dsimp only at hSw
      go_simp <;> with_reducible rfl
    simp only [List.getElem_toArray, List.getElem_cons_zero, List.getElem_cons_succ, Act.put, List.setIfInBounds_toArray, List.set_cons_zero, List.set_cons_succ]
    refine wpAnyH_take (i := 29) (v := ?_) rfl (by kernel_rfl) (by kernel_rfl) (by kernel_rfl) (fun _ _ _ h => h) (Or.inl ⟨by kernel_rfl, ?_⟩) (by assumption) ?_
    rotate_left
    · intro wx hSw
      try dsimp only at hSw
      go_simp <;> with_reducible rfl
    simp only [List.getElem_toArray, List.getElem_cons_zero, List.getElem_cons_succ, Act.put, List.setIfInBounds_toArray, List.set_cons_zero, List.set_cons_succ]
    refine wpAnyH_take (i := 30) (v := ?_) rfl (by kernel_rfl) (by kernel_rfl) (by kernel_rfl) (fun _ _ _ h => h) (Or.inl ⟨by kernel_rfl, ?_⟩) (by assumption) ?_
    rotate_left
    · intro wx hSw
      try dsimp only at hSw
      go_simp <;> with_reducible rfl
    simp only [List.getElem_toArray, List.getElem_cons_zero, List.getElem_cons_succ, Act.put, List.setIfInBounds_toArray, List.set_cons_zero, List.set_cons_succ]
    refine wpAnyH_ready (rs := [24]) (by kernel_rfl) (by simp) ?_
    refine AllReadyH.cons rfl (fun K hK => ?_) AllReadyH.nil
    rw [if_pos (by kernel_rfl)]
    go_simp
    go_at_call 9
    refine (HLE.out _).mono ?_
    rintro e w5 ⟨rfl, hb5⟩
    have HB5' := Lib.hid (HB4.out.trans (hb5.mono HB4.out.size))
    clear hb5
    refine hK.out _ _ (HK6.out w5 HB5'.out) (fun hS24 => ?_)
    clear hK K
    try simp only [List.getElem_toArray, List.getElem_cons_zero, List.getElem_cons_succ, Act.put, List.setIfInBounds_toArray, List.set_cons_zero, List.set_cons_succ]
    refine wpAnyH_ready (rs := [31]) (by kernel_rfl) (by simp) ?_
    refine AllReadyH.cons rfl (fun K hK => ?_) AllReadyH.nil
    rw [if_pos (by kernel_rfl)]
    go_simp
    go_at_call 10
    refine (HRL.out _).mono ?_
    rintro e w6 ⟨rfl, hb6⟩
    have HB5 := Lib.hid (HB5'.out.trans (hb6.mono HB5'.out.size))
    clear hb6
    refine hK.out _ _ (HK6.out w6 HB5.out) (fun hS31 => ?_)
    clear hK K
    try simp only [List.getElem_toArray, List.getElem_cons_zero, List.getElem_cons_succ, Act.put, List.setIfInBounds_toArray, List.set_cons_zero, List.set_cons_succ]
    refine wpAnyH_take (i := 32) (v := ?_) rfl (by kernel_rfl) (by kernel_rfl) (by kernel_rfl) (fun _ _ _ h => h) (Or.inl ⟨by kernel_rfl, ?_⟩) (by assumption) ?_
    rotate_left
    · intro wx hSw
      try dsimp only at hSw
      go_simp <;> with_reducible rfl
    simp only [List.getElem_toArray, List.getElem_cons_zero, List.getElem_cons_succ, Act.put, List.setIfInBounds_toArray, List.set_cons_zero, List.set_cons_succ]
    refine wpAnyH_take (i := 33) (v := ?_) rfl (by kernel_rfl) (by kernel_rfl) (by kernel_rfl) (fun _ _ _ h => h) (Or.inl ⟨by kernel_rfl, ?_⟩) (by assumption) ?_
    rotate_left
    · intro wx hSw
      try dsimp only at hSw
      go_simp <;> with_reducible rfl
    simp only [List.getElem_toArray, List.getElem_cons_zero, List.getElem_cons_succ, Act.put, List.setIfInBounds_toArray, List.set_cons_zero, List.set_cons_succ]
    refine wpAnyH_take (i := 34) (v := ?_) rfl (by kernel_rfl) (by kernel_rfl) (by kernel_rfl) (fun _ _ _ h => h) (Or.inl ⟨by kernel_rfl, ?_⟩) (by assumption) ?_
    rotate_left
    · intro wx hSw
      try dsimp only at hSw
      go_simp <;> with_reducible rfl
    simp only [List.getElem_toArray, List.getElem_cons_zero, List.getElem_cons_succ, Act.put, List.setIfInBounds_toArray, List.set_cons_zero, List.set_cons_succ]
    refine wpAnyH_done (by kernel_rfl) ?_ _
    obtain ⟨W5, hW5⟩ : ∃ X, w6 = X := ⟨_, rfl⟩
    rw [hW5] at HB5
    rw [hW5]
    clear HK6 HLE HRL
    clear HSO HRS HCL
    go_wp2_with fail
    go_loopw [60] (fun i W => LRel n w1 i W) (fun i _ => n - (intOf i).toNat)
    case atStart => exact ⟨0, Nat.zero_le _, rfl, HB5.out⟩
    case round =>
      rename World => W
      obtain ⟨k, hk, rfl, hb⟩ := hrel
      have HBW := Lib.hid hb
      clear hb HB5
      by_cases hlt : k < n
      · obtain ⟨z, hz⟩ : ∃ z, ids[k]? = some z := ⟨_, List.getElem?_eq_getElem (by rw [HN2.out]; exact hlt)⟩
        obtain ⟨yz, rfl, c1⟩ := (HI.out.kept (HB1.out.trans (HBW.out.mono HB1.out.size))) k z hz
        have HFO : Hid (∀ W', Below w1.heap.size w1 W' → Calls Tryd.prog 12 #[.slice (some y) LL cap0, .int .i64 a1, .int .i64 z] W' fun e w' => e = .returned (.int .i64 (forN L a1 z)) ∧ Below W'.heap.size W' w') := fun W' b => by
          have h := for_any (some y) cap0 L a1 z W' (HAC.out.kept (HB1.out.trans (b.mono HB1.out.size))) (by have := HLL.out; omega)
          rw [HLN.out] at h
          exact h
        have HRF : Hid (∀ W', Below w1.heap.size w1 W' → Calls Tryd.prog 11 #[.slice (some y) LL cap0, .int .i64 a1, .int .i64 z] W' fun e w' => e = .returned (.int .i64 (forN L a1 z)) ∧ Below W'.heap.size W' w') := fun W' b => by
          have h := rfor_any (some y) cap0 L a1 z W' (HAC.out.kept (HB1.out.trans (b.mono HB1.out.size))) (by have := HLL.out; omega)
          rw [HLN.out] at h
          exact h
        have HRC : Hid (∀ W', Below w1.heap.size w1 W' → W'.cell? ⟨g, k, none⟩ = some (.int .i64 (forN L a1 z))) := fun W' b => (HRW.out.keep b).cell (by rw [List.getElem?_map, hz]; rfl)
        obtain ⟨fz, hfz⟩ : ∃ f, forN L a1 z = f := ⟨_, rfl⟩
        rw [hfz] at HFO HRF HRC
        have hki : (0 : Int) ≤ k := by omega
        have hkb : (k : Int) < n := by omega
        have hk1 : IntKind.i64.wrap ((k : Int) + 1) = (k : Int) + 1 := IntWalk.i64_in _ (by have := HN4.out; omega)
        have tff : (fz != fz) = false := by simp
        have HWD : Hid (Below w1.heap.size w1 W.drew) := below_drewS HBW.out
        have r1 := HRC.out W HBW.out
        clear hz hfz
        go_wp2_with fail
        go_region_held3 (fun wx => wx.cell? ⟨g, k, none⟩ = some (.int .i64 fz)) (first | (go_keep; done) | exact HKP.out | assumption)
          (first
            | (go_at_call 12; refine (HFO.out _ HB7.out).mono ?_; rintro e w8 ⟨rfl, hb8⟩; have HB8 := Lib.hid (HB7.out.trans (hb8.mono HB7.out.size)); clear HKP; have HKP := Lib.hid (HRC.out _ HB8.out); clear hb8)
            | (go_at_call 11; refine (HRF.out _ HWD.out).mono ?_; rintro e w7 ⟨rfl, hb7⟩; have HB7 := Lib.hid (HWD.out.trans (hb7.mono HWD.out.size)); have HKP := Lib.hid (HRC.out _ HB7.out); clear hb7)
            | fail)
        clear HKP HFO HRF HRC r1
        go_wp2
        go_roundw
        case rel => exact ⟨k + 1, by omega, by go_num, HB8.out⟩
        case measure => simp [intOf]; omega
      · obtain rfl : k = n := by omega
        have HBF := Lib.hid (HB1.out.trans (HBW.out.mono HB1.out.size))
        go_wp2_with (go_at_call 4; refine (Go.Proofs.YtlbpmbdogkfecaaDoor.Act.awake_any _ (HNM.out.kept HBF.out)).mono ?_; rintro e w9 ⟨rfl, hb9⟩; have HB9 := Lib.hid (HBF.out.trans (hb9.mono HBF.out.size)); clear hb9)
        go_ret
        exact ⟨rfl, HB9.out⟩
  · have tl : decide (1 < (LL : Int)) = false := decide_eq_false (by omega)
    clear h2
    go_enter Tryd.func3, Tryd.ntmps3
    go_wp2_with fail
    refine HRW0.out.mono ?_
    rintro e w1 ⟨g, rfl, hg, hri, hb1⟩
    have HB1 := Lib.hid hb1
    have HRW := Lib.hid hri
    have HSO := Lib.hid (HSO.out hb1)
    have HRS := Lib.hid (HRS.out hb1)
    have HBD : Hid (Below w1.heap.size w1 w1.drew) := below_drewS (Below.refl _ _)
    clear hri hb1 hg HRW0
    go_wp2_with fail
    refine wp_region_held_drew (S := (fun _ => True)) (by kernel_rfl) trivial (fun hS => ?_)
    refine wpAnyH_take (i := 0) (v := ?_) rfl (by kernel_rfl) (by kernel_rfl) (by kernel_rfl) (fun _ _ _ h => h) (Or.inl ⟨by kernel_rfl, ?_⟩) (by assumption) ?_
    rotate_left
    · intro wx hSw
      try dsimp only at hSw
      go_simp <;> with_reducible rfl
    simp only [List.getElem_toArray, List.getElem_cons_zero, List.getElem_cons_succ, Act.put, List.setIfInBounds_toArray, List.set_cons_zero, List.set_cons_succ]
    refine wpAnyH_take (i := 1) (v := ?_) rfl (by kernel_rfl) (by kernel_rfl) (by kernel_rfl) (fun _ _ _ h => h) (Or.inl ⟨by kernel_rfl, ?_⟩) (by assumption) ?_
    rotate_left
    · intro wx hSw
      try dsimp only at hSw
      go_simp <;> with_reducible rfl
    simp only [List.getElem_toArray, List.getElem_cons_zero, List.getElem_cons_succ, Act.put, List.setIfInBounds_toArray, List.set_cons_zero, List.set_cons_succ]
    refine wpAnyH_take (i := 2) (v := ?_) rfl (by kernel_rfl) (by kernel_rfl) (by kernel_rfl) (fun _ _ _ h => h) (Or.inl ⟨by kernel_rfl, ?_⟩) (by assumption) ?_
    rotate_left
    · intro wx hSw
      try dsimp only at hSw
      go_simp <;> with_reducible rfl
    simp only [List.getElem_toArray, List.getElem_cons_zero, List.getElem_cons_succ, Act.put, List.setIfInBounds_toArray, List.set_cons_zero, List.set_cons_succ]
    refine wpAnyH_take (i := 3) (v := ?_) rfl (by kernel_rfl) (by kernel_rfl) (by kernel_rfl) (fun _ _ _ h => h) (Or.inl ⟨by kernel_rfl, ?_⟩) (by assumption) ?_
    rotate_left
    · intro wx hSw
      try dsimp only at hSw
      go_simp <;> with_reducible rfl
    simp only [List.getElem_toArray, List.getElem_cons_zero, List.getElem_cons_succ, Act.put, List.setIfInBounds_toArray, List.set_cons_zero, List.set_cons_succ]
    refine wpAnyH_take (i := 4) (v := ?_) rfl (by kernel_rfl) (by kernel_rfl) (by kernel_rfl) (fun _ _ _ h => h) (Or.inl ⟨by kernel_rfl, ?_⟩) (by assumption) ?_
    rotate_left
    · intro wx hSw
      try dsimp only at hSw
      go_simp <;> with_reducible rfl
    simp only [List.getElem_toArray, List.getElem_cons_zero, List.getElem_cons_succ, Act.put, List.setIfInBounds_toArray, List.set_cons_zero, List.set_cons_succ]
    refine wpAnyH_take (i := 5) (v := ?_) rfl (by kernel_rfl) (by kernel_rfl) (by kernel_rfl) (fun _ _ _ h => h) (Or.inl ⟨by kernel_rfl, ?_⟩) (by assumption) ?_
    rotate_left
    · intro wx hSw
      try dsimp only at hSw
      go_simp <;> with_reducible rfl
    simp only [List.getElem_toArray, List.getElem_cons_zero, List.getElem_cons_succ, Act.put, List.setIfInBounds_toArray, List.set_cons_zero, List.set_cons_succ]
    refine wpAnyH_take (i := 6) (v := ?_) rfl (by kernel_rfl) (by kernel_rfl) (by kernel_rfl) (fun _ _ _ h => h) (Or.inl ⟨by kernel_rfl, ?_⟩) (by assumption) ?_
    rotate_left
    · intro wx hSw
      try dsimp only at hSw
      go_simp <;> with_reducible rfl
    simp only [List.getElem_toArray, List.getElem_cons_zero, List.getElem_cons_succ, Act.put, List.setIfInBounds_toArray, List.set_cons_zero, List.set_cons_succ]
    refine wpAnyH_take (i := 8) (v := ?_) rfl (by kernel_rfl) (by kernel_rfl) (by kernel_rfl) (fun _ _ _ h => h) (Or.inl ⟨by kernel_rfl, ?_⟩) (by assumption) ?_
    rotate_left
    · intro wx hSw
      try dsimp only at hSw
      go_simp <;> with_reducible rfl
    simp only [List.getElem_toArray, List.getElem_cons_zero, List.getElem_cons_succ, Act.put, List.setIfInBounds_toArray, List.set_cons_zero, List.set_cons_succ]
    refine wpAnyH_ready (rs := [7]) (by kernel_rfl) (by simp) ?_
    refine AllReadyH.cons rfl (fun K hK => ?_) AllReadyH.nil
    rw [if_pos (by kernel_rfl)]
    go_simp
    go_at_call 7
    refine (HSO.out _ HBD.out).mono ?_
    rintro e w2 ⟨M, hM, hor, hb2⟩
    obtain ⟨A2, c2, rfl, hat2⟩ := so_at hM hor
    have HM2 := Lib.hid hat2
    have HB2 := Lib.hid (HBD.out.trans (hb2.mono HBD.out.size))
    clear hM hor hb2 hat2
    refine hK.out _ _ trivial (fun hS7 => ?_)
    clear hK K
    try simp only [List.getElem_toArray, List.getElem_cons_zero, List.getElem_cons_succ, Act.put, List.setIfInBounds_toArray, List.set_cons_zero, List.set_cons_succ]
    refine wpAnyH_ready (rs := [9]) (by kernel_rfl) (by simp) ?_
    refine AllReadyH.cons rfl (fun K hK => ?_) AllReadyH.nil
    rw [if_pos (by kernel_rfl)]
    go_simp
    go_at_call 8
    refine (HRS.out _ HB2.out).mono ?_
    rintro e w3 ⟨V3, rfl, ho3, hb3⟩
    obtain ⟨A3', c3, rfl, hat3⟩ := sod_at ho3
    have HM3 := Lib.hid (HM2.out.kept hb3)
    have HR3 := Lib.hid hat3
    have HB3 := Lib.hid (HB2.out.trans (hb3.mono HB2.out.size))
    clear ho3 hb3 hat3 HM2
    refine hK.out _ _ trivial (fun hS9 => ?_)
    clear hK K
    try simp only [List.getElem_toArray, List.getElem_cons_zero, List.getElem_cons_succ, Act.put, List.setIfInBounds_toArray, List.set_cons_zero, List.set_cons_succ]
    refine wpAnyH_ready (rs := [10]) (by kernel_rfl) (by simp) ?_
    refine AllReadyH.cons rfl (fun K hK => ?_) AllReadyH.nil
    rw [if_pos (by kernel_rfl)]
    go_simp
    go_at_call 6
    refine (same_own HM3.out HR3.out (by have := HCL.out; unfold maxLen; omega)).mono ?_
    rintro e w4 ⟨rfl, q4, hw4⟩
    have HB4 : Hid (Below w1.heap.size w1 w4) := by show Below _ _ _; rw [hw4]; exact below_dN HB3.out q4
    clear hw4 HM3 HR3
    refine hK.out _ _ trivial (fun hS10 => ?_)
    clear hK K
    try simp only [List.getElem_toArray, List.getElem_cons_zero, List.getElem_cons_succ, Act.put, List.setIfInBounds_toArray, List.set_cons_zero, List.set_cons_succ]
    refine wpAnyH_take (i := 11) (v := ?_) rfl (by kernel_rfl) (by kernel_rfl) (by kernel_rfl) (fun _ _ _ h => h) (Or.inl ⟨by kernel_rfl, ?_⟩) (by assumption) ?_
    rotate_left
    · intro wx hSw
      try dsimp only at hSw
      go_simp <;> with_reducible rfl
    simp only [List.getElem_toArray, List.getElem_cons_zero, List.getElem_cons_succ, Act.put, List.setIfInBounds_toArray, List.set_cons_zero, List.set_cons_succ]
    refine wpAnyH_take (i := 12) (v := ?_) rfl (by kernel_rfl) (by kernel_rfl) (by kernel_rfl) (fun _ _ _ h => h) (Or.inl ⟨by kernel_rfl, ?_⟩) (by assumption) ?_
    rotate_left
    · intro wx hSw
      try dsimp only at hSw
      go_simp <;> with_reducible rfl
    simp only [List.getElem_toArray, List.getElem_cons_zero, List.getElem_cons_succ, Act.put, List.setIfInBounds_toArray, List.set_cons_zero, List.set_cons_succ]
    refine wpAnyH_take (i := 13) (v := ?_) rfl (by kernel_rfl) (by kernel_rfl) (by kernel_rfl) (fun _ _ _ h => h) (Or.inl ⟨by kernel_rfl, ?_⟩) (by assumption) ?_
    rotate_left
    · intro wx hSw
      try dsimp only at hSw
      go_simp <;> with_reducible rfl
    simp only [List.getElem_toArray, List.getElem_cons_zero, List.getElem_cons_succ, Act.put, List.setIfInBounds_toArray, List.set_cons_zero, List.set_cons_succ]
    refine wpAnyH_take (i := 14) (v := ?_) rfl (by kernel_rfl) (by kernel_rfl) (by kernel_rfl) (fun _ _ _ h => h) (Or.inl ⟨by kernel_rfl, ?_⟩) (by assumption) ?_
    rotate_left
    · intro wx hSw
      try dsimp only at hSw
      go_simp <;> with_reducible rfl
    simp only [List.getElem_toArray, List.getElem_cons_zero, List.getElem_cons_succ, Act.put, List.setIfInBounds_toArray, List.set_cons_zero, List.set_cons_succ]
    refine wpAnyH_take (i := 15) (v := ?_) rfl (by kernel_rfl) (by kernel_rfl) (by kernel_rfl) (fun _ _ _ h => h) (Or.inl ⟨by kernel_rfl, ?_⟩) (by assumption) ?_
    rotate_left
    · intro wx hSw
      try dsimp only at hSw
      go_simp <;> with_reducible rfl
    simp only [List.getElem_toArray, List.getElem_cons_zero, List.getElem_cons_succ, Act.put, List.setIfInBounds_toArray, List.set_cons_zero, List.set_cons_succ]
    refine wpAnyH_take (i := 16) (v := ?_) rfl (by kernel_rfl) (by kernel_rfl) (by kernel_rfl) (fun _ _ _ h => h) (Or.inl ⟨by kernel_rfl, ?_⟩) (by assumption) ?_
    rotate_left
    · intro wx hSw
      try dsimp only at hSw
      go_simp <;> with_reducible rfl
    simp only [List.getElem_toArray, List.getElem_cons_zero, List.getElem_cons_succ, Act.put, List.setIfInBounds_toArray, List.set_cons_zero, List.set_cons_succ]
    refine wpAnyH_take (i := 17) (v := ?_) rfl (by kernel_rfl) (by kernel_rfl) (by kernel_rfl) (fun _ _ _ h => h) (Or.inl ⟨by kernel_rfl, ?_⟩) (by assumption) ?_
    rotate_left
    · intro wx hSw
      try dsimp only at hSw
      go_simp <;> with_reducible rfl
    simp only [List.getElem_toArray, List.getElem_cons_zero, List.getElem_cons_succ, Act.put, List.setIfInBounds_toArray, List.set_cons_zero, List.set_cons_succ]
    refine wpAnyH_take (i := 18) (v := undef) rfl (by kernel_rfl) (by kernel_rfl) (by kernel_rfl) (fun _ _ _ h => h) (Or.inr ⟨by kernel_rfl, rfl⟩) (by assumption) ?_
    simp only [List.getElem_toArray, List.getElem_cons_zero, List.getElem_cons_succ, Act.put, List.setIfInBounds_toArray, List.set_cons_zero, List.set_cons_succ]
    refine wpAnyH_take (i := 19) (v := undef) rfl (by kernel_rfl) (by kernel_rfl) (by kernel_rfl) (fun _ _ _ h => h) (Or.inr ⟨by kernel_rfl, rfl⟩) (by assumption) ?_
    simp only [List.getElem_toArray, List.getElem_cons_zero, List.getElem_cons_succ, Act.put, List.setIfInBounds_toArray, List.set_cons_zero, List.set_cons_succ]
    refine wpAnyH_take (i := 20) (v := undef) rfl (by kernel_rfl) (by kernel_rfl) (by kernel_rfl) (fun _ _ _ h => h) (Or.inr ⟨by kernel_rfl, rfl⟩) (by assumption) ?_
    simp only [List.getElem_toArray, List.getElem_cons_zero, List.getElem_cons_succ, Act.put, List.setIfInBounds_toArray, List.set_cons_zero, List.set_cons_succ]
    refine wpAnyH_take (i := 21) (v := undef) rfl (by kernel_rfl) (by kernel_rfl) (by kernel_rfl) (fun _ _ _ h => h) (Or.inr ⟨by kernel_rfl, rfl⟩) (by assumption) ?_
    simp only [List.getElem_toArray, List.getElem_cons_zero, List.getElem_cons_succ, Act.put, List.setIfInBounds_toArray, List.set_cons_zero, List.set_cons_succ]
    refine wpAnyH_take (i := 22) (v := undef) rfl (by kernel_rfl) (by kernel_rfl) (by kernel_rfl) (fun _ _ _ h => h) (Or.inr ⟨by kernel_rfl, rfl⟩) (by assumption) ?_
    simp only [List.getElem_toArray, List.getElem_cons_zero, List.getElem_cons_succ, Act.put, List.setIfInBounds_toArray, List.set_cons_zero, List.set_cons_succ]
    refine wpAnyH_take (i := 23) (v := undef) rfl (by kernel_rfl) (by kernel_rfl) (by kernel_rfl) (fun _ _ _ h => h) (Or.inr ⟨by kernel_rfl, rfl⟩) (by assumption) ?_
    simp only [List.getElem_toArray, List.getElem_cons_zero, List.getElem_cons_succ, Act.put, List.setIfInBounds_toArray, List.set_cons_zero, List.set_cons_succ]
    refine wpAnyH_take (i := 24) (v := undef) rfl (by kernel_rfl) (by kernel_rfl) (by kernel_rfl) (fun _ _ _ h => h) (Or.inr ⟨by kernel_rfl, rfl⟩) (by assumption) ?_
    simp only [List.getElem_toArray, List.getElem_cons_zero, List.getElem_cons_succ, Act.put, List.setIfInBounds_toArray, List.set_cons_zero, List.set_cons_succ]
    refine wpAnyH_take (i := 25) (v := undef) rfl (by kernel_rfl) (by kernel_rfl) (by kernel_rfl) (fun _ _ _ h => h) (Or.inr ⟨by kernel_rfl, rfl⟩) (by assumption) ?_
    simp only [List.getElem_toArray, List.getElem_cons_zero, List.getElem_cons_succ, Act.put, List.setIfInBounds_toArray, List.set_cons_zero, List.set_cons_succ]
    refine wpAnyH_take (i := 26) (v := undef) rfl (by kernel_rfl) (by kernel_rfl) (by kernel_rfl) (fun _ _ _ h => h) (Or.inr ⟨by kernel_rfl, rfl⟩) (by assumption) ?_
    simp only [List.getElem_toArray, List.getElem_cons_zero, List.getElem_cons_succ, Act.put, List.setIfInBounds_toArray, List.set_cons_zero, List.set_cons_succ]
    refine wpAnyH_take (i := 27) (v := undef) rfl (by kernel_rfl) (by kernel_rfl) (by kernel_rfl) (fun _ _ _ h => h) (Or.inr ⟨by kernel_rfl, rfl⟩) (by assumption) ?_
    simp only [List.getElem_toArray, List.getElem_cons_zero, List.getElem_cons_succ, Act.put, List.setIfInBounds_toArray, List.set_cons_zero, List.set_cons_succ]
    refine wpAnyH_take (i := 28) (v := undef) rfl (by kernel_rfl) (by kernel_rfl) (by kernel_rfl) (fun _ _ _ h => h) (Or.inr ⟨by kernel_rfl, rfl⟩) (by assumption) ?_
    simp only [List.getElem_toArray, List.getElem_cons_zero, List.getElem_cons_succ, Act.put, List.setIfInBounds_toArray, List.set_cons_zero, List.set_cons_succ]
    refine wpAnyH_take (i := 29) (v := undef) rfl (by kernel_rfl) (by kernel_rfl) (by kernel_rfl) (fun _ _ _ h => h) (Or.inr ⟨by kernel_rfl, rfl⟩) (by assumption) ?_
    simp only [List.getElem_toArray, List.getElem_cons_zero, List.getElem_cons_succ, Act.put, List.setIfInBounds_toArray, List.set_cons_zero, List.set_cons_succ]
    refine wpAnyH_take (i := 30) (v := undef) rfl (by kernel_rfl) (by kernel_rfl) (by kernel_rfl) (fun _ _ _ h => h) (Or.inr ⟨by kernel_rfl, rfl⟩) (by assumption) ?_
    simp only [List.getElem_toArray, List.getElem_cons_zero, List.getElem_cons_succ, Act.put, List.setIfInBounds_toArray, List.set_cons_zero, List.set_cons_succ]
    refine wpAnyH_take (i := 31) (v := undef) rfl (by kernel_rfl) (by kernel_rfl) (by kernel_rfl) (fun _ _ _ h => h) (Or.inr ⟨by kernel_rfl, rfl⟩) (by assumption) ?_
    simp only [List.getElem_toArray, List.getElem_cons_zero, List.getElem_cons_succ, Act.put, List.setIfInBounds_toArray, List.set_cons_zero, List.set_cons_succ]
    refine wpAnyH_take (i := 32) (v := undef) rfl (by kernel_rfl) (by kernel_rfl) (by kernel_rfl) (fun _ _ _ h => h) (Or.inr ⟨by kernel_rfl, rfl⟩) (by assumption) ?_
    simp only [List.getElem_toArray, List.getElem_cons_zero, List.getElem_cons_succ, Act.put, List.setIfInBounds_toArray, List.set_cons_zero, List.set_cons_succ]
    refine wpAnyH_take (i := 33) (v := ?_) rfl (by kernel_rfl) (by kernel_rfl) (by kernel_rfl) (fun _ _ _ h => h) (Or.inl ⟨by kernel_rfl, ?_⟩) (by assumption) ?_
    rotate_left
    · intro wx hSw
      try dsimp only at hSw
      go_simp <;> with_reducible rfl
    simp only [List.getElem_toArray, List.getElem_cons_zero, List.getElem_cons_succ, Act.put, List.setIfInBounds_toArray, List.set_cons_zero, List.set_cons_succ]
    refine wpAnyH_take (i := 34) (v := ?_) rfl (by kernel_rfl) (by kernel_rfl) (by kernel_rfl) (fun _ _ _ h => h) (Or.inl ⟨by kernel_rfl, ?_⟩) (by assumption) ?_
    rotate_left
    · intro wx hSw
      try dsimp only at hSw
      go_simp <;> with_reducible rfl
    simp only [List.getElem_toArray, List.getElem_cons_zero, List.getElem_cons_succ, Act.put, List.setIfInBounds_toArray, List.set_cons_zero, List.set_cons_succ]
    refine wpAnyH_done (by kernel_rfl) ?_ _
    obtain ⟨W5, hW5⟩ : ∃ X, w4 = X := ⟨_, rfl⟩
    rw [hW5] at HB4
    rw [hW5]
    have HB5 := HB4
    clear HSO HRS HCL
    go_wp2_with fail
    go_loopw [60] (fun i W => LRel n w1 i W) (fun i _ => n - (intOf i).toNat)
    case atStart => exact ⟨0, Nat.zero_le _, rfl, HB5.out⟩
    case round =>
      rename World => W
      obtain ⟨k, hk, rfl, hb⟩ := hrel
      have HBW := Lib.hid hb
      clear hb HB5
      by_cases hlt : k < n
      · obtain ⟨z, hz⟩ : ∃ z, ids[k]? = some z := ⟨_, List.getElem?_eq_getElem (by rw [HN2.out]; exact hlt)⟩
        obtain ⟨yz, rfl, c1⟩ := (HI.out.kept (HB1.out.trans (HBW.out.mono HB1.out.size))) k z hz
        have HFO : Hid (∀ W', Below w1.heap.size w1 W' → Calls Tryd.prog 12 #[.slice a0 LL cap0, .int .i64 a1, .int .i64 z] W' fun e w' => e = .returned (.int .i64 (forN L a1 z)) ∧ Below W'.heap.size W' w') := fun W' b => by
          have h := for_any a0 cap0 L a1 z W' (HAC.out.kept (HB1.out.trans (b.mono HB1.out.size))) (by have := HLL.out; omega)
          rw [HLN.out] at h
          exact h
        have HRF : Hid (∀ W', Below w1.heap.size w1 W' → Calls Tryd.prog 11 #[.slice a0 LL cap0, .int .i64 a1, .int .i64 z] W' fun e w' => e = .returned (.int .i64 (forN L a1 z)) ∧ Below W'.heap.size W' w') := fun W' b => by
          have h := rfor_any a0 cap0 L a1 z W' (HAC.out.kept (HB1.out.trans (b.mono HB1.out.size))) (by have := HLL.out; omega)
          rw [HLN.out] at h
          exact h
        have HRC : Hid (∀ W', Below w1.heap.size w1 W' → W'.cell? ⟨g, k, none⟩ = some (.int .i64 (forN L a1 z))) := fun W' b => (HRW.out.keep b).cell (by rw [List.getElem?_map, hz]; rfl)
        obtain ⟨fz, hfz⟩ : ∃ f, forN L a1 z = f := ⟨_, rfl⟩
        rw [hfz] at HFO HRF HRC
        have hki : (0 : Int) ≤ k := by omega
        have hkb : (k : Int) < n := by omega
        have hk1 : IntKind.i64.wrap ((k : Int) + 1) = (k : Int) + 1 := IntWalk.i64_in _ (by have := HN4.out; omega)
        have tff : (fz != fz) = false := by simp
        have HWD : Hid (Below w1.heap.size w1 W.drew) := below_drewS HBW.out
        have r1 := HRC.out W HBW.out
        clear hz hfz
        go_wp2_with fail
        go_region_held3 (fun wx => wx.cell? ⟨g, k, none⟩ = some (.int .i64 fz)) (first | (go_keep; done) | exact HKP.out | assumption)
          (first
            | (go_at_call 12; refine (HFO.out _ HB7.out).mono ?_; rintro e w8 ⟨rfl, hb8⟩; have HB8 := Lib.hid (HB7.out.trans (hb8.mono HB7.out.size)); clear HKP; have HKP := Lib.hid (HRC.out _ HB8.out); clear hb8)
            | (go_at_call 11; refine (HRF.out _ HWD.out).mono ?_; rintro e w7 ⟨rfl, hb7⟩; have HB7 := Lib.hid (HWD.out.trans (hb7.mono HWD.out.size)); have HKP := Lib.hid (HRC.out _ HB7.out); clear hb7)
            | fail)
        clear HKP HFO HRF HRC r1
        go_wp2
        go_roundw
        case rel => exact ⟨k + 1, by omega, by go_num, HB8.out⟩
        case measure => simp [intOf]; omega
      · obtain rfl : k = n := by omega
        have HBF := Lib.hid (HB1.out.trans (HBW.out.mono HB1.out.size))
        go_wp2_with (go_at_call 4; refine (Go.Proofs.YtlbpmbdogkfecaaDoor.Act.awake_any _ (HNM.out.kept HBF.out)).mono ?_; rintro e w9 ⟨rfl, hb9⟩; have HB9 := Lib.hid (HBF.out.trans (hb9.mono HBF.out.size)); clear hb9)
        go_ret
        exact ⟨rfl, HB9.out⟩

end Go.Proofs.YtlbpmbdogkfecaaDoor.actsFor
