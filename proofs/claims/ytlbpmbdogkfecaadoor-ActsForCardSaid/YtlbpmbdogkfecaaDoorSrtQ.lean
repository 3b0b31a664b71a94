
/- Acts: the document's sorting. Condition: at most a million acts. -/

import Derived.Test.YtlbpmbdogkfecaaDoorSrtO

namespace Go.Proofs.YtlbpmbdogkfecaaDoor.Srt

open Go.RowKit Go.PlainAid Go.Proofs.YtlbpmbdogkfecaaDoor.Args

open Go.Proofs.YtlbpmbdogkfecaaDoor.Cel (Two two_below own_at own_slice own_keep own_base)

set_option linter.unusedVariables false

set_option linter.unusedSimpArgs false

theorem lt_bool (x y : A3) : decide (lt x y) = (decide (x.s < y.s) || ((x.s == y.s) && decide (x.p < y.p))) := by
  rw [Bool.eq_iff_iff, decide_eq_true_iff]
  unfold lt
  simp
theorem below_dN {B : Nat} {a w : World} (h : Below B a w) (n : Nat) : Below B a (w.drewN n) := ⟨h.os, h.tape, h.output, h.size, h.block⟩
set_option maxRecDepth 4000 in
theorem rless_any (x y : A3) (w : World) :
    Calls Tryd.prog 10 #[.agg #[.int .i64 x.s, .int .i64 x.p, .int .i64 x.a], .agg #[.int .i64 y.s, .int .i64 y.p, .int .i64 y.a]] w fun e w' => e = .returned (.bool (decide (lt x y))) ∧ Below w.heap.size w w' := by
  have HB := Lib.hid (fun o1 o2 => al_two w o1 o2)
  rw [lt_bool]
  cases h1 : decide (x.s < y.s)
  · cases h2 : (x.s == y.s)
    · go_enter Tryd.func10, Tryd.ntmps10
      go_wp2
      go_ret
      exact ⟨rfl, HB.out _ _⟩
    · cases h3 : decide (x.p < y.p)
      all_goals
        go_enter Tryd.func10, Tryd.ntmps10
        go_wp2
        go_ret
        exact ⟨rfl, HB.out _ _⟩
  · go_enter Tryd.func10, Tryd.ntmps10
    go_wp2
    go_ret
    exact ⟨rfl, HB.out _ _⟩
theorem own_acts {w : World} {B n : Nat} {v : Value} {l : List A3} (h : w.ownsRow B 30 3 v n (flatA l)) (hl : l.length = n) (k : Nat) (x : A3) (hx : l[k]? = some x) : ∃ g c, v = .slice (some ⟨g, 0, none⟩) n c ∧ B ≤ g ∧ g < w.heap.size ∧ w.cell? ⟨g, k * 3, none⟩ = some (.int .i64 x.s) ∧ w.cell? ⟨g, k * 3 + 1, none⟩ = some (.int .i64 x.p) ∧ w.cell? ⟨g, k * 3 + 2, none⟩ = some (.int .i64 x.a) := by
  have hk := (List.getElem?_eq_some_iff.1 hx).1
  obtain ⟨A, c, rfl⟩ := own_slice h
  rcases own_row h hl with ⟨_, h0, _⟩ | ⟨g, tl, rfl, hg, hnc, hcm, hrow⟩
  · omega
  refine ⟨g, c, rfl, hg, lt_of_block hrow, ?_, ?_, ?_⟩
  · rw [cell_of_row _ _ _ _ _ _ hrow, List.getElem?_toArray]; exact flatA_get l k x hx tl 0 (by omega)
  · rw [cell_of_row _ _ _ _ _ _ hrow, List.getElem?_toArray]; exact flatA_get l k x hx tl 1 (by omega)
  · rw [cell_of_row _ _ _ _ _ _ hrow, List.getElem?_toArray]; exact flatA_get l k x hx tl 2 (by omega)
def SoD (l : List A3) (w : World) (e : Ending) (w' : World) : Prop := ∃ V, e = .returned V ∧ w'.ownsRow w.heap.size 30 3 V (srtD l).length (flatA (srtD l)) ∧ Below w.heap.size w w'
def ORel (l : List A3) (n : Nat) (w : World) (v i : Value) (W : World) : Prop :=
  ∃ k : Nat, k ≤ n ∧ i = .int .i64 (k : Int) ∧ W.ownsRow w.heap.size 30 3 v (srtD (l.take k)).length (flatA (srtD (l.take k))) ∧ Below w.heap.size w W
def IRel (x : A3) (C : List A3) (W0 : World) (v d i : Value) (W : World) : Prop :=
  ∃ (k : Nat) (b : Bool) (acc : List A3), k ≤ C.length ∧ i = .int .i64 (k : Int) ∧ d = .bool b ∧ acc ++ insD x b (C.drop k) = insD x false C ∧ W.ownsRow W0.heap.size 30 3 v acc.length (flatA acc) ∧ Below W0.heap.size W0 W
theorem insD_len (x : A3) : ∀ (C : List A3), (insD x false C).length ≤ C.length + 1
  | [] => by simp [insD]
  | y :: C => by
    rcases tri x y with hz | hz | hz
    · rw [insD_lt hz]; simp
    · rw [insD_same hz]; simp
    · rw [insD_gt hz]; have := insD_len x C; simp at this ⊢; exact this
set_option maxRecDepth 8000 in
set_option maxHeartbeats 12800000 in
theorem rsort_any (A : Option Addr) (cap : Nat) (L : List A3) (w : World) (h1 : AcS w A L) (hl : L.length ≤ 1000000) :
    Calls Tryd.prog 8 #[.slice A L.length cap] w (SoD L w) := by
  obtain ⟨i0, hi, hz0, hz1, hz2⟩ := info_parts infoAct
  obtain ⟨n, hn⟩ : ∃ n, L.length = n := ⟨_, rfl⟩
  have HN := Lib.hid hn
  have H1 := Lib.hid h1
  have HL : Hid (n ≤ 1000000) := by show _ ≤ _; omega
  rw [hn]
  have hb0 : Below w.heap.size w (w.alloc (.cells #[] 30)) := (Below.refl _ _).alloc (Nat.le_refl _) _
  have HB0 := Lib.hid hb0
  have HO0 : Hid ((w.alloc (.cells #[] 30)).ownsRow w.heap.size 30 3 (.slice (some ⟨w.heap.size, 0, none⟩) 0 0) 0 []) := World.ownsRow_lit w #[] 0 (Nat.le_refl _) (Nat.zero_le _) rfl
  clear h1 hl hn hb0
  go_enter Tryd.func8, Tryd.ntmps8
  go_wp2_with fail
  go_loopw [3, 4] (fun v i W => ORel L n w v i W) (fun _ i _ => n - (intOf i).toNat)
  case atStart => exact ⟨0, Nat.zero_le _, rfl, HO0.out, HB0.out⟩
  case round =>
    obtain ⟨W0, hW0⟩ : ∃ X, wr = X := ⟨_, rfl⟩
    rw [hW0] at hrel
    rw [hW0]
    clear hW0 wr
    obtain ⟨i, hiN, rfl, ho, hb⟩ := hrel
    obtain ⟨VC, cC, rfl⟩ := own_slice ho
    have HO := Lib.hid ho
    have HB := Lib.hid hb
    clear ho hb HB0 HO0
    by_cases hlt : i < n
    · obtain ⟨x, hx⟩ : ∃ x, L[i]? = some x := ⟨_, List.getElem?_eq_getElem (by rw [HN.out]; exact hlt)⟩
      obtain ⟨y, rfl, _⟩ := (H1.out.kept HB.out) i x hx
      have HX := Lib.hid hx
      have hii : (0 : Int) ≤ i := by omega
      have hib : (i : Int) < n := by omega
      have hi1 : IntKind.i64.wrap ((i : Int) + 1) = (i : Int) + 1 := IntWalk.i64_in _ (by have := HL.out; omega)
      have HSN : Hid (srtD (L.take (i + 1)) = insD x false (srtD (L.take i))) := by
        show _ = _
        rw [List.take_add_one, hx]
        exact srtD_snoc _ _
      have HCL : Hid ((srtD (L.take i)).length ≤ 1000000) := by
        have h1 := srtD_len (L.take i)
        rw [List.length_take] at h1
        have h2 := HL.out
        show _ ≤ _
        omega
      obtain ⟨C, hC⟩ : ∃ C, srtD (L.take i) = C := ⟨_, rfl⟩
      rw [hC] at HSN HCL HO
      have HEL := Lib.hid (insD_len x C)
      obtain ⟨m, hm⟩ : ∃ m, C.length = m := ⟨_, rfl⟩
      have HM := Lib.hid hm
      rw [hC, hm]
      have HK3 : Hid (∀ W', Below W0.heap.size W0 W' → W'.cell? (y.add (i * 3)) = some (.int .i64 x.s) ∧ W'.cell? ⟨(y.add (i * 3)).block, (y.add (i * 3)).off + 1, none⟩ = some (.int .i64 x.p) ∧ W'.cell? ⟨(y.add (i * 3)).block, (y.add (i * 3)).off + 2, none⟩ = some (.int .i64 x.a)) := fun W' b => by
        obtain ⟨y', e, g1, g2, g3⟩ := (H1.out.kept (HB.out.trans (b.mono HB.out.size))) i x HX.out
        obtain rfl := Option.some.inj e
        exact ⟨g1, g2, g3⟩
      have hb1 : Below W0.heap.size W0 (W0.alloc (.cells #[] 30)) := (Below.refl _ _).alloc (Nat.le_refl _) _
      have HB1 := Lib.hid hb1
      have HO1 : Hid ((W0.alloc (.cells #[] 30)).ownsRow W0.heap.size 30 3 (.slice (some ⟨W0.heap.size, 0, none⟩) 0 0) 0 []) := World.ownsRow_lit W0 #[] 0 (Nat.le_refl _) (Nat.zero_le _) rfl
      clear hx hb1 hC hm hlt hiN
      go_wp2_with fail
      go_loopw [5, 6, 7] (fun v d i W => IRel x C W0 v d i W) (fun _ _ i _ => m - (intOf i).toNat)
      case atStart => exact ⟨0, false, [], Nat.zero_le _, rfl, rfl, rfl, HO1.out, HB1.out⟩
      case round =>
        obtain ⟨k, b, AC0, hkm, rfl, rfl, heq, ho, hb⟩ := hrel
        obtain ⟨W, hW⟩ : ∃ X, wr = X := ⟨_, rfl⟩
        rw [hW] at ho hb
        rw [hW]
        clear hW wr
        obtain ⟨VN0, hVN⟩ : ∃ X, u5 = X := ⟨_, rfl⟩
        rw [hVN] at ho
        rw [hVN]
        have HOW := Lib.hid ho
        have HBW := Lib.hid hb
        have HEQ := Lib.hid heq
        have HLEN0 : Hid (AC0.length ≤ 1000001) := by
          have h1 := congrArg List.length heq
          rw [List.length_append] at h1
          have h2 := HEL.out
          have h3 := HCL.out
          show _ ≤ _
          omega
        have HKM : Hid (k ≤ C.length) := hkm
        clear ho hb heq hVN HB1 HO1 hkm
        by_cases hlt : k < m
        · obtain ⟨z, hz⟩ : ∃ z, C[k]? = some z := ⟨_, List.getElem?_eq_getElem (by rw [HM.out]; exact hlt)⟩
          obtain ⟨g, c', hv, hg1, hg2, _⟩ := own_acts HO.out rfl k z hz
          injection hv with hv1 hv2 hv3
          subst hv1
          have HK6 : Hid (∀ W', Below W0.heap.size W0 W' → W'.cell? (y.add (i * 3)) = some (.int .i64 x.s) ∧ W'.cell? ⟨(y.add (i * 3)).block, (y.add (i * 3)).off + 1, none⟩ = some (.int .i64 x.p) ∧ W'.cell? ⟨(y.add (i * 3)).block, (y.add (i * 3)).off + 2, none⟩ = some (.int .i64 x.a) ∧ W'.cell? ⟨g, k * 3, none⟩ = some (.int .i64 z.s) ∧ W'.cell? ⟨g, k * 3 + 1, none⟩ = some (.int .i64 z.p) ∧ W'.cell? ⟨g, k * 3 + 2, none⟩ = some (.int .i64 z.a)) := fun W' b => by
            obtain ⟨g1, g2, g3⟩ := HK3.out W' b
            obtain ⟨g', c2, hv', _, _, q1, q2, q3⟩ := own_acts (own_keep HO.out b) rfl k z hz
            injection hv' with hv1' hv2' hv3'
            injection hv1' with hv1'
            injection hv1' with hv1'
            subst hv1'
            exact ⟨g1, g2, g3, q1, q2, q3⟩
          have hdr : C.drop k = z :: C.drop (k + 1) := by
            rw [List.drop_eq_getElem_cons (by rw [HM.out]; exact hlt)]
            congr 1
            exact (List.getElem?_eq_some_iff.1 hz).2
          have HDR := Lib.hid hdr
          have hki : (0 : Int) ≤ k := by omega
          have hkb : (k : Int) < m := by omega
          have hk1 : IntKind.i64.wrap ((k : Int) + 1) = (k : Int) + 1 := IntWalk.i64_in _ (by have := HCL.out; have := HM.out; omega)
          have HL1 := Lib.hid (fun w => rless_any x z w)
          have HL2 := Lib.hid (fun w => rless_any z x w)
          have HINS : Hid (insD x b (C.drop k) = (if b = false ∧ lt x z then [x] else []) ++ z :: insD x (b || decide (lt x z) || (!decide (lt x z) && !decide (lt z x))) (C.drop (k + 1))) := by show _ = _; rw [hdr]; rfl
          have HDL : Hid (decide (lt x z) = true ↔ lt x z) := decide_eq_true_iff
          obtain ⟨b1, hb1⟩ : ∃ b1, decide (lt x z) = b1 := ⟨_, rfl⟩
          obtain ⟨b2, hb2⟩ : ∃ b2, decide (lt z x) = b2 := ⟨_, rfl⟩
          rw [hb1] at HL1 HINS HDL
          rw [hb2] at HL2 HINS
          have HMK : Hid (k + 1 ≤ C.length) := by have := HM.out; show _ ≤ _; omega
          clear hdr hz hg1 hg2 hv2 hv3 hb1 hb2 HKM hlt HSN
          cases b with
          | false =>
            cases b1 with
            | true =>
              go_wp2_with fail
              have HBD1 : Hid (Below W0.heap.size W0 W.drew) := below_drewS HBW.out
              have HOD1 : Hid (W.drew.ownsRow W0.heap.size 30 3 VN0 AC0.length (flatA AC0)) := own_keep HOW.out (show Below W.heap.size W W.drew from ⟨rfl, rfl, rfl, Nat.le_refl _, fun _ _ => rfl⟩)
              obtain ⟨a0, a1, a2, a3, a4, a5⟩ := HK6.out W HBW.out
              first
                | (go_region_held3 (fun wx => wx.cell? (y.add (i * 3)) = some (.int .i64 x.s) ∧ wx.cell? ⟨(y.add (i * 3)).block, (y.add (i * 3)).off + 1, none⟩ = some (.int .i64 x.p) ∧ wx.cell? ⟨(y.add (i * 3)).block, (y.add (i * 3)).off + 2, none⟩ = some (.int .i64 x.a) ∧ wx.cell? ⟨g, k * 3, none⟩ = some (.int .i64 z.s) ∧ wx.cell? ⟨g, k * 3 + 1, none⟩ = some (.int .i64 z.p) ∧ wx.cell? ⟨g, k * 3 + 2, none⟩ = some (.int .i64 z.a)) (first | (go_keep; done) | exact HKP.out | (refine ⟨?_, ?_, ?_, ?_, ?_, ?_⟩ <;> assumption))
                    (first
                      | (go_at_call 10; (with_reducible refine (HL1.out _).mono ?_); rintro e Wr10 ⟨rfl, hb⟩; have HBR10 := Lib.hid (HBD1.out.trans (hb.mono HBD1.out.size)); have HOR10 := Lib.hid (own_keep HOD1.out hb); have HKP := Lib.hid (HK6.out Wr10 HBR10.out); clear hb)
                      | fail))
                | fail
              clear HKP a0 a1 a2 a3 a4 a5
              obtain ⟨a0, a1, a2, a3, a4, a5⟩ := HK6.out Wr10 HBR10.out
              have hal2 : Below Wr10.heap.size Wr10 (Wr10.alloc (.cells #[.int .i64 x.s, .int .i64 x.p, .int .i64 x.a] 30)) := (Below.refl _ _).alloc (Nat.le_refl _) _
              have HRX2 := Lib.hid (own_keep HOR10.out hal2)
              have HBX2 := Lib.hid (HBR10.out.trans (hal2.mono HBR10.out.size))
              clear hal2
              go_wp2_with (at_builtin; refine wpList_append_own _ rfl _ _ 22 rfl W0.heap.size 30 i0 (.agg #[.int .i64 0, .int .i64 0, .int .i64 0]) 3 24 Tryd.underlying22 hi hz0 hz1 hz2 rfl (by decide) _ AC0.length _ rfl HRX2.out ⟨Wr10.heap.size, 0, none⟩ 1 1 [.int .i64 x.s, .int .i64 x.p, .int .i64 x.a] rfl rfl ?c2a ?c2b ?c2c ?c2d ?c2e ?_)
              case c2a =>
                intro j u hj
                have hrow := heap_alloc_new Wr10 (.cells #[.int .i64 x.s, .int .i64 x.p, .int .i64 x.a] 30)
                have e : (Addr.mk Wr10.heap.size 0 none).add j = ⟨Wr10.heap.size, j, none⟩ := by cases j <;> simp [Addr.add]
                rw [e, cell_of_row _ _ _ _ _ _ hrow, ← hj]
                simp
              case c2b => intro u hu; simp at hu; rcases hu with rfl | rfl | rfl <;> rfl
              case c2c => have := HLEN0.out; unfold maxLen; omega
              case c2d => have := HLEN0.out; omega
              case c2e => exact HBX2.out.size
              intro VN2 Wg2 ho2 hg2 _
              have HBG2 := Lib.hid (HBX2.out.grown hg2 HBX2.out.size (fun j hj => (HRX2.out.lt j hj).1))
              obtain ⟨AC2, hAC2⟩ : ∃ X, AC0 ++ [x] = X := ⟨_, rfl⟩
              have HACL2 : Hid (AC0.length + 1 = AC2.length) := by show _ = _; rw [← hAC2]; simp
              have HOG2 : Hid (Wg2.ownsRow W0.heap.size 30 3 VN2 AC2.length (flatA AC2)) := by
                show World.ownsRow _ _ _ _ _ _ _
                rw [← HACL2.out, ← hAC2, flatA_app]
                exact ho2
              have HAC2 := Lib.hid hAC2
              have HLEN2 : Hid (AC2.length ≤ 1000007) := by have h1 := HLEN0.out; have h2 := HACL2.out; show _ ≤ _; omega
              clear ho2 hg2 hAC2 a0 a1 a2 a3 a4 a5
              go_wp2_with fail
              have HBD3 : Hid (Below W0.heap.size W0 Wg2.drew) := below_drewS HBG2.out
              have HOD3 : Hid (Wg2.drew.ownsRow W0.heap.size 30 3 VN2 AC2.length (flatA AC2)) := own_keep HOG2.out (show Below Wg2.heap.size Wg2 Wg2.drew from ⟨rfl, rfl, rfl, Nat.le_refl _, fun _ _ => rfl⟩)
              obtain ⟨a0, a1, a2, a3, a4, a5⟩ := HK6.out Wg2 HBG2.out
              refine wp_region_held_drew (S := (fun wx => wx.cell? (y.add (i * 3)) = some (.int .i64 x.s) ∧ wx.cell? ⟨(y.add (i * 3)).block, (y.add (i * 3)).off + 1, none⟩ = some (.int .i64 x.p) ∧ wx.cell? ⟨(y.add (i * 3)).block, (y.add (i * 3)).off + 2, none⟩ = some (.int .i64 x.a) ∧ wx.cell? ⟨g, k * 3, none⟩ = some (.int .i64 z.s) ∧ wx.cell? ⟨g, k * 3 + 1, none⟩ = some (.int .i64 z.p) ∧ wx.cell? ⟨g, k * 3 + 2, none⟩ = some (.int .i64 z.a))) (by kernel_rfl) (HK6.out Wg2.drew HBD3.out) (fun hS => ?_)
              refine wpAnyH_take (i := 0) (v := ?_) rfl (by kernel_rfl) (by kernel_rfl) (by kernel_rfl) (fun _ _ _ h => h) (Or.inl ⟨by kernel_rfl, ?_⟩) (by assumption) ?_
              rotate_left
              · intro w hSw
                try dsimp only at hSw
                go_simp <;> with_reducible rfl
              simp only [List.getElem_toArray, List.getElem_cons_zero, List.getElem_cons_succ, Act.put, List.setIfInBounds_toArray, List.set_cons_zero, List.set_cons_succ]
              refine wpAnyH_take (i := 1) (v := ?_) rfl (by kernel_rfl) (by kernel_rfl) (by kernel_rfl) (fun _ _ _ h => h) (Or.inl ⟨by kernel_rfl, ?_⟩) (by assumption) ?_
              rotate_left
              · intro w hSw
                try dsimp only at hSw
                go_simp <;> with_reducible rfl
              simp only [List.getElem_toArray, List.getElem_cons_zero, List.getElem_cons_succ, Act.put, List.setIfInBounds_toArray, List.set_cons_zero, List.set_cons_succ]
              refine wpAnyH_take (i := 2) (v := ?_) rfl (by kernel_rfl) (by kernel_rfl) (by kernel_rfl) (fun _ _ _ h => h) (Or.inl ⟨by kernel_rfl, ?_⟩) (by assumption) ?_
              rotate_left
              · intro w hSw
                try dsimp only at hSw
                go_simp <;> with_reducible rfl
              simp only [List.getElem_toArray, List.getElem_cons_zero, List.getElem_cons_succ, Act.put, List.setIfInBounds_toArray, List.set_cons_zero, List.set_cons_succ]
              refine wpAnyH_take (i := 3) (v := ?_) rfl (by kernel_rfl) (by kernel_rfl) (by kernel_rfl) (fun _ _ _ h => h) (Or.inl ⟨by kernel_rfl, ?_⟩) (by assumption) ?_
              rotate_left
              · intro w hSw
                try dsimp only at hSw
                go_simp <;> with_reducible rfl
              simp only [List.getElem_toArray, List.getElem_cons_zero, List.getElem_cons_succ, Act.put, List.setIfInBounds_toArray, List.set_cons_zero, List.set_cons_succ]
              refine wpAnyH_take (i := 4) (v := ?_) rfl (by kernel_rfl) (by kernel_rfl) (by kernel_rfl) (fun _ _ _ h => h) (Or.inl ⟨by kernel_rfl, ?_⟩) (by assumption) ?_
              rotate_left
              · intro w hSw
                try dsimp only at hSw
                go_simp <;> with_reducible rfl
              simp only [List.getElem_toArray, List.getElem_cons_zero, List.getElem_cons_succ, Act.put, List.setIfInBounds_toArray, List.set_cons_zero, List.set_cons_succ]
              refine wpAnyH_take (i := 5) (v := ?_) rfl (by kernel_rfl) (by kernel_rfl) (by kernel_rfl) (fun _ _ _ h => h) (Or.inl ⟨by kernel_rfl, ?_⟩) (by assumption) ?_
              rotate_left
              · intro w hSw
                try dsimp only at hSw
                go_simp <;> with_reducible rfl
              simp only [List.getElem_toArray, List.getElem_cons_zero, List.getElem_cons_succ, Act.put, List.setIfInBounds_toArray, List.set_cons_zero, List.set_cons_succ]
              refine wpAnyH_take (i := 6) (v := ?_) rfl (by kernel_rfl) (by kernel_rfl) (by kernel_rfl) (fun _ _ _ h => h) (Or.inl ⟨by kernel_rfl, ?_⟩) (by assumption) ?_
              rotate_left
              · intro w hSw
                try dsimp only at hSw
                go_simp <;> with_reducible rfl
              simp only [List.getElem_toArray, List.getElem_cons_zero, List.getElem_cons_succ, Act.put, List.setIfInBounds_toArray, List.set_cons_zero, List.set_cons_succ]
              refine wpAnyH_take (i := 7) (v := ?_) rfl (by kernel_rfl) (by kernel_rfl) (by kernel_rfl) (fun _ _ _ h => h) (Or.inl ⟨by kernel_rfl, ?_⟩) (by assumption) ?_
              rotate_left
              · intro w hSw
                try dsimp only at hSw
                go_simp <;> with_reducible rfl
              simp only [List.getElem_toArray, List.getElem_cons_zero, List.getElem_cons_succ, Act.put, List.setIfInBounds_toArray, List.set_cons_zero, List.set_cons_succ]
              refine wpAnyH_ready (rs := [8]) (by kernel_rfl) (by simp) ?_
              refine AllReadyH.cons rfl (fun K hK => ?_) AllReadyH.nil
              rw [if_pos (by kernel_rfl)]
              go_simp
              go_at_call 10
              refine (HL1.out _).mono ?_
              rintro e Wr30 ⟨rfl, hb⟩
              have HBR30 := Lib.hid (HBD3.out.trans (hb.mono HBD3.out.size))
              have HOR30 := Lib.hid (own_keep HOD3.out hb)
              clear hb
              refine hK.out _ _ (HK6.out Wr30 HBR30.out) (fun hS2 => ?_)
              clear hK K hS
              try simp only [List.getElem_toArray, List.getElem_cons_zero, List.getElem_cons_succ, Act.put, List.setIfInBounds_toArray, List.set_cons_zero, List.set_cons_succ]
              refine wpAnyH_take (i := 9) (v := ?_) rfl (by kernel_rfl) (by kernel_rfl) (by kernel_rfl) (fun _ _ _ h => h) (Or.inl ⟨by kernel_rfl, ?_⟩) (by assumption) ?_
              rotate_left
              · intro w hSw
                try dsimp only at hSw
                go_simp <;> with_reducible rfl
              simp only [List.getElem_toArray, List.getElem_cons_zero, List.getElem_cons_succ, Act.put, List.setIfInBounds_toArray, List.set_cons_zero, List.set_cons_succ]
              refine wpAnyH_take (i := 10) (v := ?_) rfl (by kernel_rfl) (by kernel_rfl) (by kernel_rfl) (fun _ _ _ h => h) (Or.inl ⟨by kernel_rfl, ?_⟩) (by assumption) ?_
              rotate_left
              · intro w hSw
                try dsimp only at hSw
                go_simp <;> with_reducible rfl
              simp only [List.getElem_toArray, List.getElem_cons_zero, List.getElem_cons_succ, Act.put, List.setIfInBounds_toArray, List.set_cons_zero, List.set_cons_succ]
              refine wpAnyH_take (i := 11) (v := undef) rfl (by kernel_rfl) (by kernel_rfl) (by kernel_rfl) (fun _ _ _ h => h) (Or.inr ⟨by kernel_rfl, rfl⟩) (by assumption) ?_
              simp only [List.getElem_toArray, List.getElem_cons_zero, List.getElem_cons_succ, Act.put, List.setIfInBounds_toArray, List.set_cons_zero, List.set_cons_succ]
              refine wpAnyH_take (i := 12) (v := undef) rfl (by kernel_rfl) (by kernel_rfl) (by kernel_rfl) (fun _ _ _ h => h) (Or.inr ⟨by kernel_rfl, rfl⟩) (by assumption) ?_
              simp only [List.getElem_toArray, List.getElem_cons_zero, List.getElem_cons_succ, Act.put, List.setIfInBounds_toArray, List.set_cons_zero, List.set_cons_succ]
              refine wpAnyH_take (i := 13) (v := undef) rfl (by kernel_rfl) (by kernel_rfl) (by kernel_rfl) (fun _ _ _ h => h) (Or.inr ⟨by kernel_rfl, rfl⟩) (by assumption) ?_
              simp only [List.getElem_toArray, List.getElem_cons_zero, List.getElem_cons_succ, Act.put, List.setIfInBounds_toArray, List.set_cons_zero, List.set_cons_succ]
              refine wpAnyH_take (i := 14) (v := undef) rfl (by kernel_rfl) (by kernel_rfl) (by kernel_rfl) (fun _ _ _ h => h) (Or.inr ⟨by kernel_rfl, rfl⟩) (by assumption) ?_
              simp only [List.getElem_toArray, List.getElem_cons_zero, List.getElem_cons_succ, Act.put, List.setIfInBounds_toArray, List.set_cons_zero, List.set_cons_succ]
              refine wpAnyH_take (i := 15) (v := undef) rfl (by kernel_rfl) (by kernel_rfl) (by kernel_rfl) (fun _ _ _ h => h) (Or.inr ⟨by kernel_rfl, rfl⟩) (by assumption) ?_
              simp only [List.getElem_toArray, List.getElem_cons_zero, List.getElem_cons_succ, Act.put, List.setIfInBounds_toArray, List.set_cons_zero, List.set_cons_succ]
              refine wpAnyH_take (i := 16) (v := undef) rfl (by kernel_rfl) (by kernel_rfl) (by kernel_rfl) (fun _ _ _ h => h) (Or.inr ⟨by kernel_rfl, rfl⟩) (by assumption) ?_
              simp only [List.getElem_toArray, List.getElem_cons_zero, List.getElem_cons_succ, Act.put, List.setIfInBounds_toArray, List.set_cons_zero, List.set_cons_succ]
              refine wpAnyH_take (i := 17) (v := undef) rfl (by kernel_rfl) (by kernel_rfl) (by kernel_rfl) (fun _ _ _ h => h) (Or.inr ⟨by kernel_rfl, rfl⟩) (by assumption) ?_
              simp only [List.getElem_toArray, List.getElem_cons_zero, List.getElem_cons_succ, Act.put, List.setIfInBounds_toArray, List.set_cons_zero, List.set_cons_succ]
              refine wpAnyH_take (i := 18) (v := undef) rfl (by kernel_rfl) (by kernel_rfl) (by kernel_rfl) (fun _ _ _ h => h) (Or.inr ⟨by kernel_rfl, rfl⟩) (by assumption) ?_
              simp only [List.getElem_toArray, List.getElem_cons_zero, List.getElem_cons_succ, Act.put, List.setIfInBounds_toArray, List.set_cons_zero, List.set_cons_succ]
              refine wpAnyH_take (i := 19) (v := undef) rfl (by kernel_rfl) (by kernel_rfl) (by kernel_rfl) (fun _ _ _ h => h) (Or.inr ⟨by kernel_rfl, rfl⟩) (by assumption) ?_
              simp only [List.getElem_toArray, List.getElem_cons_zero, List.getElem_cons_succ, Act.put, List.setIfInBounds_toArray, List.set_cons_zero, List.set_cons_succ]
              refine wpAnyH_take (i := 20) (v := undef) rfl (by kernel_rfl) (by kernel_rfl) (by kernel_rfl) (fun _ _ _ h => h) (Or.inr ⟨by kernel_rfl, rfl⟩) (by assumption) ?_
              simp only [List.getElem_toArray, List.getElem_cons_zero, List.getElem_cons_succ, Act.put, List.setIfInBounds_toArray, List.set_cons_zero, List.set_cons_succ]
              refine wpAnyH_take (i := 21) (v := ?_) rfl (by kernel_rfl) (by kernel_rfl) (by kernel_rfl) (fun _ _ _ h => h) (Or.inl ⟨by kernel_rfl, ?_⟩) (by assumption) ?_
              rotate_left
              · intro w hSw
                try dsimp only at hSw
                go_simp <;> with_reducible rfl
              simp only [List.getElem_toArray, List.getElem_cons_zero, List.getElem_cons_succ, Act.put, List.setIfInBounds_toArray, List.set_cons_zero, List.set_cons_succ]
              refine wpAnyH_done (by kernel_rfl) ?_ _
              clear hS2 a0 a1 a2 a3 a4 a5
              obtain ⟨a0, a1, a2, a3, a4, a5⟩ := HK6.out Wr30 HBR30.out
              have hal4 : Below Wr30.heap.size Wr30 (Wr30.alloc (.cells #[.int .i64 z.s, .int .i64 z.p, .int .i64 z.a] 30)) := (Below.refl _ _).alloc (Nat.le_refl _) _
              have HRX4 := Lib.hid (own_keep HOR30.out hal4)
              have HBX4 := Lib.hid (HBR30.out.trans (hal4.mono HBR30.out.size))
              clear hal4
              go_wp2_with (at_builtin; refine wpList_append_own _ rfl _ _ 22 rfl W0.heap.size 30 i0 (.agg #[.int .i64 0, .int .i64 0, .int .i64 0]) 3 24 Tryd.underlying22 hi hz0 hz1 hz2 rfl (by decide) _ AC2.length _ rfl HRX4.out ⟨Wr30.heap.size, 0, none⟩ 1 1 [.int .i64 z.s, .int .i64 z.p, .int .i64 z.a] rfl rfl ?c4a ?c4b ?c4c ?c4d ?c4e ?_)
              case c4a =>
                intro j u hj
                have hrow := heap_alloc_new Wr30 (.cells #[.int .i64 z.s, .int .i64 z.p, .int .i64 z.a] 30)
                have e : (Addr.mk Wr30.heap.size 0 none).add j = ⟨Wr30.heap.size, j, none⟩ := by cases j <;> simp [Addr.add]
                rw [e, cell_of_row _ _ _ _ _ _ hrow, ← hj]
                simp
              case c4b => intro u hu; simp at hu; rcases hu with rfl | rfl | rfl <;> rfl
              case c4c => have := HLEN2.out; unfold maxLen; omega
              case c4d => have := HLEN2.out; omega
              case c4e => exact HBX4.out.size
              intro VN4 Wg4 ho4 hg4 _
              have HBG4 := Lib.hid (HBX4.out.grown hg4 HBX4.out.size (fun j hj => (HRX4.out.lt j hj).1))
              obtain ⟨AC4, hAC4⟩ : ∃ X, AC2 ++ [z] = X := ⟨_, rfl⟩
              have HACL4 : Hid (AC2.length + 1 = AC4.length) := by show _ = _; rw [← hAC4]; simp
              have HOG4 : Hid (Wg4.ownsRow W0.heap.size 30 3 VN4 AC4.length (flatA AC4)) := by
                show World.ownsRow _ _ _ _ _ _ _
                rw [← HACL4.out, ← hAC4, flatA_app]
                exact ho4
              have HAC4 := Lib.hid hAC4
              have HLEN4 : Hid (AC4.length ≤ 1000009) := by have h1 := HLEN2.out; have h2 := HACL4.out; show _ ≤ _; omega
              clear ho4 hg4 hAC4 a0 a1 a2 a3 a4 a5
              go_wp2
              go_roundw
              case rel =>
                refine ⟨k + 1, true, AC4, HMK.out, by go_num, rfl, ?_, HOG4.out, HBG4.out⟩
                rw [← HAC4.out, ← HAC2.out]
                have h := HEQ.out
                rw [HINS.out] at h
                rw [← h]
                have hl : lt x z := by simpa using HDL.out
                simp [hl]
              case measure => simp [intOf]; omega
            | false =>
              cases b2 with
              | true =>
                go_wp2_with fail
                have HBD1 : Hid (Below W0.heap.size W0 W.drew) := below_drewS HBW.out
                have HOD1 : Hid (W.drew.ownsRow W0.heap.size 30 3 VN0 AC0.length (flatA AC0)) := own_keep HOW.out (show Below W.heap.size W W.drew from ⟨rfl, rfl, rfl, Nat.le_refl _, fun _ _ => rfl⟩)
                obtain ⟨a0, a1, a2, a3, a4, a5⟩ := HK6.out W HBW.out
                first
                  | (go_region_held3 (fun wx => wx.cell? (y.add (i * 3)) = some (.int .i64 x.s) ∧ wx.cell? ⟨(y.add (i * 3)).block, (y.add (i * 3)).off + 1, none⟩ = some (.int .i64 x.p) ∧ wx.cell? ⟨(y.add (i * 3)).block, (y.add (i * 3)).off + 2, none⟩ = some (.int .i64 x.a) ∧ wx.cell? ⟨g, k * 3, none⟩ = some (.int .i64 z.s) ∧ wx.cell? ⟨g, k * 3 + 1, none⟩ = some (.int .i64 z.p) ∧ wx.cell? ⟨g, k * 3 + 2, none⟩ = some (.int .i64 z.a)) (first | (go_keep; done) | exact HKP.out | (refine ⟨?_, ?_, ?_, ?_, ?_, ?_⟩ <;> assumption))
                      (first
                        | (go_at_call 10; (with_reducible refine (HL1.out _).mono ?_); rintro e Wr10 ⟨rfl, hb⟩; have HBR10 := Lib.hid (HBD1.out.trans (hb.mono HBD1.out.size)); have HOR10 := Lib.hid (own_keep HOD1.out hb); have HKP := Lib.hid (HK6.out Wr10 HBR10.out); clear hb)
                        | fail))
                  | fail
                clear HKP a0 a1 a2 a3 a4 a5
                go_wp2_with fail
                have HBD2 : Hid (Below W0.heap.size W0 Wr10.drew) := below_drewS HBR10.out
                have HOD2 : Hid (Wr10.drew.ownsRow W0.heap.size 30 3 VN0 AC0.length (flatA AC0)) := own_keep HOR10.out (show Below Wr10.heap.size Wr10 Wr10.drew from ⟨rfl, rfl, rfl, Nat.le_refl _, fun _ _ => rfl⟩)
                obtain ⟨a0, a1, a2, a3, a4, a5⟩ := HK6.out Wr10 HBR10.out
                first
                  | (go_region_held3 (fun wx => wx.cell? (y.add (i * 3)) = some (.int .i64 x.s) ∧ wx.cell? ⟨(y.add (i * 3)).block, (y.add (i * 3)).off + 1, none⟩ = some (.int .i64 x.p) ∧ wx.cell? ⟨(y.add (i * 3)).block, (y.add (i * 3)).off + 2, none⟩ = some (.int .i64 x.a) ∧ wx.cell? ⟨g, k * 3, none⟩ = some (.int .i64 z.s) ∧ wx.cell? ⟨g, k * 3 + 1, none⟩ = some (.int .i64 z.p) ∧ wx.cell? ⟨g, k * 3 + 2, none⟩ = some (.int .i64 z.a)) (first | (go_keep; done) | exact HKP.out | (refine ⟨?_, ?_, ?_, ?_, ?_, ?_⟩ <;> assumption))
                      (first
                        | (go_at_call 10; (with_reducible refine (HL2.out _).mono ?_); rintro e Wr21 ⟨rfl, hb⟩; have HBR21 := Lib.hid (HBR20.out.trans (hb.mono HBR20.out.size)); have HOR21 := Lib.hid (own_keep HOR20.out hb); clear HKP; have HKP := Lib.hid (HK6.out Wr21 HBR21.out); clear hb)
                        | (go_at_call 10; (with_reducible refine (HL1.out _).mono ?_); rintro e Wr20 ⟨rfl, hb⟩; have HBR20 := Lib.hid (HBD2.out.trans (hb.mono HBD2.out.size)); have HOR20 := Lib.hid (own_keep HOD2.out hb); have HKP := Lib.hid (HK6.out Wr20 HBR20.out); clear hb)
                        | fail))
                  | fail
                clear HKP a0 a1 a2 a3 a4 a5
                obtain ⟨a0, a1, a2, a3, a4, a5⟩ := HK6.out Wr21 HBR21.out
                have hal3 : Below Wr21.heap.size Wr21 (Wr21.alloc (.cells #[.int .i64 z.s, .int .i64 z.p, .int .i64 z.a] 30)) := (Below.refl _ _).alloc (Nat.le_refl _) _
                have HRX3 := Lib.hid (own_keep HOR21.out hal3)
                have HBX3 := Lib.hid (HBR21.out.trans (hal3.mono HBR21.out.size))
                clear hal3
                go_wp2_with (at_builtin; refine wpList_append_own _ rfl _ _ 22 rfl W0.heap.size 30 i0 (.agg #[.int .i64 0, .int .i64 0, .int .i64 0]) 3 24 Tryd.underlying22 hi hz0 hz1 hz2 rfl (by decide) _ AC0.length _ rfl HRX3.out ⟨Wr21.heap.size, 0, none⟩ 1 1 [.int .i64 z.s, .int .i64 z.p, .int .i64 z.a] rfl rfl ?c3a ?c3b ?c3c ?c3d ?c3e ?_)
                case c3a =>
                  intro j u hj
                  have hrow := heap_alloc_new Wr21 (.cells #[.int .i64 z.s, .int .i64 z.p, .int .i64 z.a] 30)
                  have e : (Addr.mk Wr21.heap.size 0 none).add j = ⟨Wr21.heap.size, j, none⟩ := by cases j <;> simp [Addr.add]
                  rw [e, cell_of_row _ _ _ _ _ _ hrow, ← hj]
                  simp
                case c3b => intro u hu; simp at hu; rcases hu with rfl | rfl | rfl <;> rfl
                case c3c => have := HLEN0.out; unfold maxLen; omega
                case c3d => have := HLEN0.out; omega
                case c3e => exact HBX3.out.size
                intro VN3 Wg3 ho3 hg3 _
                have HBG3 := Lib.hid (HBX3.out.grown hg3 HBX3.out.size (fun j hj => (HRX3.out.lt j hj).1))
                obtain ⟨AC3, hAC3⟩ : ∃ X, AC0 ++ [z] = X := ⟨_, rfl⟩
                have HACL3 : Hid (AC0.length + 1 = AC3.length) := by show _ = _; rw [← hAC3]; simp
                have HOG3 : Hid (Wg3.ownsRow W0.heap.size 30 3 VN3 AC3.length (flatA AC3)) := by
                  show World.ownsRow _ _ _ _ _ _ _
                  rw [← HACL3.out, ← hAC3, flatA_app]
                  exact ho3
                have HAC3 := Lib.hid hAC3
                have HLEN3 : Hid (AC3.length ≤ 1000008) := by have h1 := HLEN0.out; have h2 := HACL3.out; show _ ≤ _; omega
                clear ho3 hg3 hAC3 a0 a1 a2 a3 a4 a5
                go_wp2
                go_roundw
                case rel =>
                  refine ⟨k + 1, false, AC3, HMK.out, by go_num, rfl, ?_, HOG3.out, HBG3.out⟩
                  rw [← HAC3.out]
                  have h := HEQ.out
                  rw [HINS.out] at h
                  rw [← h]
                  have hnl : ¬ lt x z := by simpa using HDL.out
                  simp [hnl]
                case measure => simp [intOf]; omega
              | false =>
                go_wp2_with fail
                have HBD1 : Hid (Below W0.heap.size W0 W.drew) := below_drewS HBW.out
                have HOD1 : Hid (W.drew.ownsRow W0.heap.size 30 3 VN0 AC0.length (flatA AC0)) := own_keep HOW.out (show Below W.heap.size W W.drew from ⟨rfl, rfl, rfl, Nat.le_refl _, fun _ _ => rfl⟩)
                obtain ⟨a0, a1, a2, a3, a4, a5⟩ := HK6.out W HBW.out
                first
                  | (go_region_held3 (fun wx => wx.cell? (y.add (i * 3)) = some (.int .i64 x.s) ∧ wx.cell? ⟨(y.add (i * 3)).block, (y.add (i * 3)).off + 1, none⟩ = some (.int .i64 x.p) ∧ wx.cell? ⟨(y.add (i * 3)).block, (y.add (i * 3)).off + 2, none⟩ = some (.int .i64 x.a) ∧ wx.cell? ⟨g, k * 3, none⟩ = some (.int .i64 z.s) ∧ wx.cell? ⟨g, k * 3 + 1, none⟩ = some (.int .i64 z.p) ∧ wx.cell? ⟨g, k * 3 + 2, none⟩ = some (.int .i64 z.a)) (first | (go_keep; done) | exact HKP.out | (refine ⟨?_, ?_, ?_, ?_, ?_, ?_⟩ <;> assumption))
                      (first
                        | (go_at_call 10; (with_reducible refine (HL1.out _).mono ?_); rintro e Wr10 ⟨rfl, hb⟩; have HBR10 := Lib.hid (HBD1.out.trans (hb.mono HBD1.out.size)); have HOR10 := Lib.hid (own_keep HOD1.out hb); have HKP := Lib.hid (HK6.out Wr10 HBR10.out); clear hb)
                        | fail))
                  | fail
                clear HKP a0 a1 a2 a3 a4 a5
                go_wp2_with fail
                have HBD2 : Hid (Below W0.heap.size W0 Wr10.drew) := below_drewS HBR10.out
                have HOD2 : Hid (Wr10.drew.ownsRow W0.heap.size 30 3 VN0 AC0.length (flatA AC0)) := own_keep HOR10.out (show Below Wr10.heap.size Wr10 Wr10.drew from ⟨rfl, rfl, rfl, Nat.le_refl _, fun _ _ => rfl⟩)
                obtain ⟨a0, a1, a2, a3, a4, a5⟩ := HK6.out Wr10 HBR10.out
                first
                  | (go_region_held3 (fun wx => wx.cell? (y.add (i * 3)) = some (.int .i64 x.s) ∧ wx.cell? ⟨(y.add (i * 3)).block, (y.add (i * 3)).off + 1, none⟩ = some (.int .i64 x.p) ∧ wx.cell? ⟨(y.add (i * 3)).block, (y.add (i * 3)).off + 2, none⟩ = some (.int .i64 x.a) ∧ wx.cell? ⟨g, k * 3, none⟩ = some (.int .i64 z.s) ∧ wx.cell? ⟨g, k * 3 + 1, none⟩ = some (.int .i64 z.p) ∧ wx.cell? ⟨g, k * 3 + 2, none⟩ = some (.int .i64 z.a)) (first | (go_keep; done) | exact HKP.out | (refine ⟨?_, ?_, ?_, ?_, ?_, ?_⟩ <;> assumption))
                      (first
                        | (go_at_call 10; (with_reducible refine (HL2.out _).mono ?_); rintro e Wr21 ⟨rfl, hb⟩; have HBR21 := Lib.hid (HBR20.out.trans (hb.mono HBR20.out.size)); have HOR21 := Lib.hid (own_keep HOR20.out hb); clear HKP; have HKP := Lib.hid (HK6.out Wr21 HBR21.out); clear hb)
                        | (go_at_call 10; (with_reducible refine (HL1.out _).mono ?_); rintro e Wr20 ⟨rfl, hb⟩; have HBR20 := Lib.hid (HBD2.out.trans (hb.mono HBD2.out.size)); have HOR20 := Lib.hid (own_keep HOD2.out hb); have HKP := Lib.hid (HK6.out Wr20 HBR20.out); clear hb)
                        | fail))
                  | fail
                clear HKP a0 a1 a2 a3 a4 a5
                obtain ⟨a0, a1, a2, a3, a4, a5⟩ := HK6.out Wr21 HBR21.out
                have hal3 : Below Wr21.heap.size Wr21 (Wr21.alloc (.cells #[.int .i64 z.s, .int .i64 z.p, .int .i64 z.a] 30)) := (Below.refl _ _).alloc (Nat.le_refl _) _
                have HRX3 := Lib.hid (own_keep HOR21.out hal3)
                have HBX3 := Lib.hid (HBR21.out.trans (hal3.mono HBR21.out.size))
                clear hal3
                go_wp2_with (at_builtin; refine wpList_append_own _ rfl _ _ 22 rfl W0.heap.size 30 i0 (.agg #[.int .i64 0, .int .i64 0, .int .i64 0]) 3 24 Tryd.underlying22 hi hz0 hz1 hz2 rfl (by decide) _ AC0.length _ rfl HRX3.out ⟨Wr21.heap.size, 0, none⟩ 1 1 [.int .i64 z.s, .int .i64 z.p, .int .i64 z.a] rfl rfl ?c3a ?c3b ?c3c ?c3d ?c3e ?_)
                case c3a =>
                  intro j u hj
                  have hrow := heap_alloc_new Wr21 (.cells #[.int .i64 z.s, .int .i64 z.p, .int .i64 z.a] 30)
                  have e : (Addr.mk Wr21.heap.size 0 none).add j = ⟨Wr21.heap.size, j, none⟩ := by cases j <;> simp [Addr.add]
                  rw [e, cell_of_row _ _ _ _ _ _ hrow, ← hj]
                  simp
                case c3b => intro u hu; simp at hu; rcases hu with rfl | rfl | rfl <;> rfl
                case c3c => have := HLEN0.out; unfold maxLen; omega
                case c3d => have := HLEN0.out; omega
                case c3e => exact HBX3.out.size
                intro VN3 Wg3 ho3 hg3 _
                have HBG3 := Lib.hid (HBX3.out.grown hg3 HBX3.out.size (fun j hj => (HRX3.out.lt j hj).1))
                obtain ⟨AC3, hAC3⟩ : ∃ X, AC0 ++ [z] = X := ⟨_, rfl⟩
                have HACL3 : Hid (AC0.length + 1 = AC3.length) := by show _ = _; rw [← hAC3]; simp
                have HOG3 : Hid (Wg3.ownsRow W0.heap.size 30 3 VN3 AC3.length (flatA AC3)) := by
                  show World.ownsRow _ _ _ _ _ _ _
                  rw [← HACL3.out, ← hAC3, flatA_app]
                  exact ho3
                have HAC3 := Lib.hid hAC3
                have HLEN3 : Hid (AC3.length ≤ 1000008) := by have h1 := HLEN0.out; have h2 := HACL3.out; show _ ≤ _; omega
                clear ho3 hg3 hAC3 a0 a1 a2 a3 a4 a5
                go_wp2
                go_roundw
                case rel =>
                  refine ⟨k + 1, true, AC3, HMK.out, by go_num, rfl, ?_, HOG3.out, HBG3.out⟩
                  rw [← HAC3.out]
                  have h := HEQ.out
                  rw [HINS.out] at h
                  rw [← h]
                  have hnl : ¬ lt x z := by simpa using HDL.out
                  simp [hnl]
                case measure => simp [intOf]; omega
          | true =>
            cases b1 with
            | true =>
              go_wp2_with fail
              go_quiet (fail)
              have HBD1 : Hid (Below W0.heap.size W0 (W.drewN nq)) := below_dN HBW.out nq
              have HOD1 : Hid ((W.drewN nq).ownsRow W0.heap.size 30 3 VN0 AC0.length (flatA AC0)) := own_keep HOW.out (show Below W.heap.size W (W.drewN nq) from ⟨rfl, rfl, rfl, Nat.le_refl _, fun _ _ => rfl⟩)
              obtain ⟨Wr1, hWr1⟩ : ∃ X, W.drewN nq = X := ⟨_, rfl⟩
              rw [hWr1] at HBD1 HOD1
              try rw [hWr1]
              clear hWr1
              go_wp2_with fail
              have HBD2 : Hid (Below W0.heap.size W0 Wr1.drew) := below_drewS HBD1.out
              have HOD2 : Hid (Wr1.drew.ownsRow W0.heap.size 30 3 VN0 AC0.length (flatA AC0)) := own_keep HOD1.out (show Below Wr1.heap.size Wr1 Wr1.drew from ⟨rfl, rfl, rfl, Nat.le_refl _, fun _ _ => rfl⟩)
              obtain ⟨a0, a1, a2, a3, a4, a5⟩ := HK6.out Wr1 HBD1.out
              refine wp_region_held_drew (S := (fun wx => wx.cell? (y.add (i * 3)) = some (.int .i64 x.s) ∧ wx.cell? ⟨(y.add (i * 3)).block, (y.add (i * 3)).off + 1, none⟩ = some (.int .i64 x.p) ∧ wx.cell? ⟨(y.add (i * 3)).block, (y.add (i * 3)).off + 2, none⟩ = some (.int .i64 x.a) ∧ wx.cell? ⟨g, k * 3, none⟩ = some (.int .i64 z.s) ∧ wx.cell? ⟨g, k * 3 + 1, none⟩ = some (.int .i64 z.p) ∧ wx.cell? ⟨g, k * 3 + 2, none⟩ = some (.int .i64 z.a))) (by kernel_rfl) (HK6.out Wr1.drew HBD2.out) (fun hS => ?_)
              refine wpAnyH_take (i := 0) (v := ?_) rfl (by kernel_rfl) (by kernel_rfl) (by kernel_rfl) (fun _ _ _ h => h) (Or.inl ⟨by kernel_rfl, ?_⟩) (by assumption) ?_
              rotate_left
              · intro w hSw
                try dsimp only at hSw
                go_simp <;> with_reducible rfl
              simp only [List.getElem_toArray, List.getElem_cons_zero, List.getElem_cons_succ, Act.put, List.setIfInBounds_toArray, List.set_cons_zero, List.set_cons_succ]
              refine wpAnyH_take (i := 1) (v := ?_) rfl (by kernel_rfl) (by kernel_rfl) (by kernel_rfl) (fun _ _ _ h => h) (Or.inl ⟨by kernel_rfl, ?_⟩) (by assumption) ?_
              rotate_left
              · intro w hSw
                try dsimp only at hSw
                go_simp <;> with_reducible rfl
              simp only [List.getElem_toArray, List.getElem_cons_zero, List.getElem_cons_succ, Act.put, List.setIfInBounds_toArray, List.set_cons_zero, List.set_cons_succ]
              refine wpAnyH_take (i := 2) (v := ?_) rfl (by kernel_rfl) (by kernel_rfl) (by kernel_rfl) (fun _ _ _ h => h) (Or.inl ⟨by kernel_rfl, ?_⟩) (by assumption) ?_
              rotate_left
              · intro w hSw
                try dsimp only at hSw
                go_simp <;> with_reducible rfl
              simp only [List.getElem_toArray, List.getElem_cons_zero, List.getElem_cons_succ, Act.put, List.setIfInBounds_toArray, List.set_cons_zero, List.set_cons_succ]
              refine wpAnyH_take (i := 3) (v := ?_) rfl (by kernel_rfl) (by kernel_rfl) (by kernel_rfl) (fun _ _ _ h => h) (Or.inl ⟨by kernel_rfl, ?_⟩) (by assumption) ?_
              rotate_left
              · intro w hSw
                try dsimp only at hSw
                go_simp <;> with_reducible rfl
              simp only [List.getElem_toArray, List.getElem_cons_zero, List.getElem_cons_succ, Act.put, List.setIfInBounds_toArray, List.set_cons_zero, List.set_cons_succ]
              refine wpAnyH_take (i := 4) (v := ?_) rfl (by kernel_rfl) (by kernel_rfl) (by kernel_rfl) (fun _ _ _ h => h) (Or.inl ⟨by kernel_rfl, ?_⟩) (by assumption) ?_
              rotate_left
              · intro w hSw
                try dsimp only at hSw
                go_simp <;> with_reducible rfl
              simp only [List.getElem_toArray, List.getElem_cons_zero, List.getElem_cons_succ, Act.put, List.setIfInBounds_toArray, List.set_cons_zero, List.set_cons_succ]
              refine wpAnyH_take (i := 5) (v := ?_) rfl (by kernel_rfl) (by kernel_rfl) (by kernel_rfl) (fun _ _ _ h => h) (Or.inl ⟨by kernel_rfl, ?_⟩) (by assumption) ?_
              rotate_left
              · intro w hSw
                try dsimp only at hSw
                go_simp <;> with_reducible rfl
              simp only [List.getElem_toArray, List.getElem_cons_zero, List.getElem_cons_succ, Act.put, List.setIfInBounds_toArray, List.set_cons_zero, List.set_cons_succ]
              refine wpAnyH_take (i := 6) (v := ?_) rfl (by kernel_rfl) (by kernel_rfl) (by kernel_rfl) (fun _ _ _ h => h) (Or.inl ⟨by kernel_rfl, ?_⟩) (by assumption) ?_
              rotate_left
              · intro w hSw
                try dsimp only at hSw
                go_simp <;> with_reducible rfl
              simp only [List.getElem_toArray, List.getElem_cons_zero, List.getElem_cons_succ, Act.put, List.setIfInBounds_toArray, List.set_cons_zero, List.set_cons_succ]
              refine wpAnyH_take (i := 7) (v := ?_) rfl (by kernel_rfl) (by kernel_rfl) (by kernel_rfl) (fun _ _ _ h => h) (Or.inl ⟨by kernel_rfl, ?_⟩) (by assumption) ?_
              rotate_left
              · intro w hSw
                try dsimp only at hSw
                go_simp <;> with_reducible rfl
              simp only [List.getElem_toArray, List.getElem_cons_zero, List.getElem_cons_succ, Act.put, List.setIfInBounds_toArray, List.set_cons_zero, List.set_cons_succ]
              refine wpAnyH_ready (rs := [8]) (by kernel_rfl) (by simp) ?_
              refine AllReadyH.cons rfl (fun K hK => ?_) AllReadyH.nil
              rw [if_pos (by kernel_rfl)]
              go_simp
              go_at_call 10
              refine (HL1.out _).mono ?_
              rintro e Wr20 ⟨rfl, hb⟩
              have HBR20 := Lib.hid (HBD2.out.trans (hb.mono HBD2.out.size))
              have HOR20 := Lib.hid (own_keep HOD2.out hb)
              clear hb
              refine hK.out _ _ (HK6.out Wr20 HBR20.out) (fun hS2 => ?_)
              clear hK K hS
              try simp only [List.getElem_toArray, List.getElem_cons_zero, List.getElem_cons_succ, Act.put, List.setIfInBounds_toArray, List.set_cons_zero, List.set_cons_succ]
              refine wpAnyH_take (i := 9) (v := ?_) rfl (by kernel_rfl) (by kernel_rfl) (by kernel_rfl) (fun _ _ _ h => h) (Or.inl ⟨by kernel_rfl, ?_⟩) (by assumption) ?_
              rotate_left
              · intro w hSw
                try dsimp only at hSw
                go_simp <;> with_reducible rfl
              simp only [List.getElem_toArray, List.getElem_cons_zero, List.getElem_cons_succ, Act.put, List.setIfInBounds_toArray, List.set_cons_zero, List.set_cons_succ]
              refine wpAnyH_take (i := 10) (v := ?_) rfl (by kernel_rfl) (by kernel_rfl) (by kernel_rfl) (fun _ _ _ h => h) (Or.inl ⟨by kernel_rfl, ?_⟩) (by assumption) ?_
              rotate_left
              · intro w hSw
                try dsimp only at hSw
                go_simp <;> with_reducible rfl
              simp only [List.getElem_toArray, List.getElem_cons_zero, List.getElem_cons_succ, Act.put, List.setIfInBounds_toArray, List.set_cons_zero, List.set_cons_succ]
              refine wpAnyH_take (i := 11) (v := undef) rfl (by kernel_rfl) (by kernel_rfl) (by kernel_rfl) (fun _ _ _ h => h) (Or.inr ⟨by kernel_rfl, rfl⟩) (by assumption) ?_
              simp only [List.getElem_toArray, List.getElem_cons_zero, List.getElem_cons_succ, Act.put, List.setIfInBounds_toArray, List.set_cons_zero, List.set_cons_succ]
              refine wpAnyH_take (i := 12) (v := undef) rfl (by kernel_rfl) (by kernel_rfl) (by kernel_rfl) (fun _ _ _ h => h) (Or.inr ⟨by kernel_rfl, rfl⟩) (by assumption) ?_
              simp only [List.getElem_toArray, List.getElem_cons_zero, List.getElem_cons_succ, Act.put, List.setIfInBounds_toArray, List.set_cons_zero, List.set_cons_succ]
              refine wpAnyH_take (i := 13) (v := undef) rfl (by kernel_rfl) (by kernel_rfl) (by kernel_rfl) (fun _ _ _ h => h) (Or.inr ⟨by kernel_rfl, rfl⟩) (by assumption) ?_
              simp only [List.getElem_toArray, List.getElem_cons_zero, List.getElem_cons_succ, Act.put, List.setIfInBounds_toArray, List.set_cons_zero, List.set_cons_succ]
              refine wpAnyH_take (i := 14) (v := undef) rfl (by kernel_rfl) (by kernel_rfl) (by kernel_rfl) (fun _ _ _ h => h) (Or.inr ⟨by kernel_rfl, rfl⟩) (by assumption) ?_
              simp only [List.getElem_toArray, List.getElem_cons_zero, List.getElem_cons_succ, Act.put, List.setIfInBounds_toArray, List.set_cons_zero, List.set_cons_succ]
              refine wpAnyH_take (i := 15) (v := undef) rfl (by kernel_rfl) (by kernel_rfl) (by kernel_rfl) (fun _ _ _ h => h) (Or.inr ⟨by kernel_rfl, rfl⟩) (by assumption) ?_
              simp only [List.getElem_toArray, List.getElem_cons_zero, List.getElem_cons_succ, Act.put, List.setIfInBounds_toArray, List.set_cons_zero, List.set_cons_succ]
              refine wpAnyH_take (i := 16) (v := undef) rfl (by kernel_rfl) (by kernel_rfl) (by kernel_rfl) (fun _ _ _ h => h) (Or.inr ⟨by kernel_rfl, rfl⟩) (by assumption) ?_
              simp only [List.getElem_toArray, List.getElem_cons_zero, List.getElem_cons_succ, Act.put, List.setIfInBounds_toArray, List.set_cons_zero, List.set_cons_succ]
              refine wpAnyH_take (i := 17) (v := undef) rfl (by kernel_rfl) (by kernel_rfl) (by kernel_rfl) (fun _ _ _ h => h) (Or.inr ⟨by kernel_rfl, rfl⟩) (by assumption) ?_
              simp only [List.getElem_toArray, List.getElem_cons_zero, List.getElem_cons_succ, Act.put, List.setIfInBounds_toArray, List.set_cons_zero, List.set_cons_succ]
              refine wpAnyH_take (i := 18) (v := undef) rfl (by kernel_rfl) (by kernel_rfl) (by kernel_rfl) (fun _ _ _ h => h) (Or.inr ⟨by kernel_rfl, rfl⟩) (by assumption) ?_
              simp only [List.getElem_toArray, List.getElem_cons_zero, List.getElem_cons_succ, Act.put, List.setIfInBounds_toArray, List.set_cons_zero, List.set_cons_succ]
              refine wpAnyH_take (i := 19) (v := undef) rfl (by kernel_rfl) (by kernel_rfl) (by kernel_rfl) (fun _ _ _ h => h) (Or.inr ⟨by kernel_rfl, rfl⟩) (by assumption) ?_
              simp only [List.getElem_toArray, List.getElem_cons_zero, List.getElem_cons_succ, Act.put, List.setIfInBounds_toArray, List.set_cons_zero, List.set_cons_succ]
              refine wpAnyH_take (i := 20) (v := undef) rfl (by kernel_rfl) (by kernel_rfl) (by kernel_rfl) (fun _ _ _ h => h) (Or.inr ⟨by kernel_rfl, rfl⟩) (by assumption) ?_
              simp only [List.getElem_toArray, List.getElem_cons_zero, List.getElem_cons_succ, Act.put, List.setIfInBounds_toArray, List.set_cons_zero, List.set_cons_succ]
              refine wpAnyH_take (i := 21) (v := ?_) rfl (by kernel_rfl) (by kernel_rfl) (by kernel_rfl) (fun _ _ _ h => h) (Or.inl ⟨by kernel_rfl, ?_⟩) (by assumption) ?_
              rotate_left
              · intro w hSw
                try dsimp only at hSw
                go_simp <;> with_reducible rfl
              simp only [List.getElem_toArray, List.getElem_cons_zero, List.getElem_cons_succ, Act.put, List.setIfInBounds_toArray, List.set_cons_zero, List.set_cons_succ]
              refine wpAnyH_done (by kernel_rfl) ?_ _
              clear hS2 a0 a1 a2 a3 a4 a5
              obtain ⟨a0, a1, a2, a3, a4, a5⟩ := HK6.out Wr20 HBR20.out
              have hal3 : Below Wr20.heap.size Wr20 (Wr20.alloc (.cells #[.int .i64 z.s, .int .i64 z.p, .int .i64 z.a] 30)) := (Below.refl _ _).alloc (Nat.le_refl _) _
              have HRX3 := Lib.hid (own_keep HOR20.out hal3)
              have HBX3 := Lib.hid (HBR20.out.trans (hal3.mono HBR20.out.size))
              clear hal3
              go_wp2_with (at_builtin; refine wpList_append_own _ rfl _ _ 22 rfl W0.heap.size 30 i0 (.agg #[.int .i64 0, .int .i64 0, .int .i64 0]) 3 24 Tryd.underlying22 hi hz0 hz1 hz2 rfl (by decide) _ AC0.length _ rfl HRX3.out ⟨Wr20.heap.size, 0, none⟩ 1 1 [.int .i64 z.s, .int .i64 z.p, .int .i64 z.a] rfl rfl ?c3a ?c3b ?c3c ?c3d ?c3e ?_)
              case c3a =>
                intro j u hj
                have hrow := heap_alloc_new Wr20 (.cells #[.int .i64 z.s, .int .i64 z.p, .int .i64 z.a] 30)
                have e : (Addr.mk Wr20.heap.size 0 none).add j = ⟨Wr20.heap.size, j, none⟩ := by cases j <;> simp [Addr.add]
                rw [e, cell_of_row _ _ _ _ _ _ hrow, ← hj]
                simp
              case c3b => intro u hu; simp at hu; rcases hu with rfl | rfl | rfl <;> rfl
              case c3c => have := HLEN0.out; unfold maxLen; omega
              case c3d => have := HLEN0.out; omega
              case c3e => exact HBX3.out.size
              intro VN3 Wg3 ho3 hg3 _
              have HBG3 := Lib.hid (HBX3.out.grown hg3 HBX3.out.size (fun j hj => (HRX3.out.lt j hj).1))
              obtain ⟨AC3, hAC3⟩ : ∃ X, AC0 ++ [z] = X := ⟨_, rfl⟩
              have HACL3 : Hid (AC0.length + 1 = AC3.length) := by show _ = _; rw [← hAC3]; simp
              have HOG3 : Hid (Wg3.ownsRow W0.heap.size 30 3 VN3 AC3.length (flatA AC3)) := by
                show World.ownsRow _ _ _ _ _ _ _
                rw [← HACL3.out, ← hAC3, flatA_app]
                exact ho3
              have HAC3 := Lib.hid hAC3
              have HLEN3 : Hid (AC3.length ≤ 1000008) := by have h1 := HLEN0.out; have h2 := HACL3.out; show _ ≤ _; omega
              clear ho3 hg3 hAC3 a0 a1 a2 a3 a4 a5
              go_wp2
              go_roundw
              case rel =>
                refine ⟨k + 1, true, AC3, HMK.out, by go_num, rfl, ?_, HOG3.out, HBG3.out⟩
                rw [← HAC3.out]
                have h := HEQ.out
                rw [HINS.out] at h
                rw [← h]
                have hl : lt x z := by simpa using HDL.out
                simp [hl]
              case measure => simp [intOf]; omega
            | false =>
              cases b2 with
              | true =>
                go_wp2_with fail
                go_quiet (fail)
                have HBD1 : Hid (Below W0.heap.size W0 (W.drewN nq)) := below_dN HBW.out nq
                have HOD1 : Hid ((W.drewN nq).ownsRow W0.heap.size 30 3 VN0 AC0.length (flatA AC0)) := own_keep HOW.out (show Below W.heap.size W (W.drewN nq) from ⟨rfl, rfl, rfl, Nat.le_refl _, fun _ _ => rfl⟩)
                obtain ⟨Wr1, hWr1⟩ : ∃ X, W.drewN nq = X := ⟨_, rfl⟩
                rw [hWr1] at HBD1 HOD1
                try rw [hWr1]
                clear hWr1
                go_wp2_with fail
                have HBD2 : Hid (Below W0.heap.size W0 Wr1.drew) := below_drewS HBD1.out
                have HOD2 : Hid (Wr1.drew.ownsRow W0.heap.size 30 3 VN0 AC0.length (flatA AC0)) := own_keep HOD1.out (show Below Wr1.heap.size Wr1 Wr1.drew from ⟨rfl, rfl, rfl, Nat.le_refl _, fun _ _ => rfl⟩)
                obtain ⟨a0, a1, a2, a3, a4, a5⟩ := HK6.out Wr1 HBD1.out
                first
                  | (go_region_held3 (fun wx => wx.cell? (y.add (i * 3)) = some (.int .i64 x.s) ∧ wx.cell? ⟨(y.add (i * 3)).block, (y.add (i * 3)).off + 1, none⟩ = some (.int .i64 x.p) ∧ wx.cell? ⟨(y.add (i * 3)).block, (y.add (i * 3)).off + 2, none⟩ = some (.int .i64 x.a) ∧ wx.cell? ⟨g, k * 3, none⟩ = some (.int .i64 z.s) ∧ wx.cell? ⟨g, k * 3 + 1, none⟩ = some (.int .i64 z.p) ∧ wx.cell? ⟨g, k * 3 + 2, none⟩ = some (.int .i64 z.a)) (first | (go_keep; done) | exact HKP.out | (refine ⟨?_, ?_, ?_, ?_, ?_, ?_⟩ <;> assumption))
                      (first
                        | (go_at_call 10; (with_reducible refine (HL2.out _).mono ?_); rintro e Wr21 ⟨rfl, hb⟩; have HBR21 := Lib.hid (HBR20.out.trans (hb.mono HBR20.out.size)); have HOR21 := Lib.hid (own_keep HOR20.out hb); clear HKP; have HKP := Lib.hid (HK6.out Wr21 HBR21.out); clear hb)
                        | (go_at_call 10; (with_reducible refine (HL1.out _).mono ?_); rintro e Wr20 ⟨rfl, hb⟩; have HBR20 := Lib.hid (HBD2.out.trans (hb.mono HBD2.out.size)); have HOR20 := Lib.hid (own_keep HOD2.out hb); have HKP := Lib.hid (HK6.out Wr20 HBR20.out); clear hb)
                        | fail))
                  | fail
                clear HKP a0 a1 a2 a3 a4 a5
                obtain ⟨a0, a1, a2, a3, a4, a5⟩ := HK6.out Wr21 HBR21.out
                have hal3 : Below Wr21.heap.size Wr21 (Wr21.alloc (.cells #[.int .i64 z.s, .int .i64 z.p, .int .i64 z.a] 30)) := (Below.refl _ _).alloc (Nat.le_refl _) _
                have HRX3 := Lib.hid (own_keep HOR21.out hal3)
                have HBX3 := Lib.hid (HBR21.out.trans (hal3.mono HBR21.out.size))
                clear hal3
                go_wp2_with (at_builtin; refine wpList_append_own _ rfl _ _ 22 rfl W0.heap.size 30 i0 (.agg #[.int .i64 0, .int .i64 0, .int .i64 0]) 3 24 Tryd.underlying22 hi hz0 hz1 hz2 rfl (by decide) _ AC0.length _ rfl HRX3.out ⟨Wr21.heap.size, 0, none⟩ 1 1 [.int .i64 z.s, .int .i64 z.p, .int .i64 z.a] rfl rfl ?c3a ?c3b ?c3c ?c3d ?c3e ?_)
                case c3a =>
                  intro j u hj
                  have hrow := heap_alloc_new Wr21 (.cells #[.int .i64 z.s, .int .i64 z.p, .int .i64 z.a] 30)
                  have e : (Addr.mk Wr21.heap.size 0 none).add j = ⟨Wr21.heap.size, j, none⟩ := by cases j <;> simp [Addr.add]
                  rw [e, cell_of_row _ _ _ _ _ _ hrow, ← hj]
                  simp
                case c3b => intro u hu; simp at hu; rcases hu with rfl | rfl | rfl <;> rfl
                case c3c => have := HLEN0.out; unfold maxLen; omega
                case c3d => have := HLEN0.out; omega
                case c3e => exact HBX3.out.size
                intro VN3 Wg3 ho3 hg3 _
                have HBG3 := Lib.hid (HBX3.out.grown hg3 HBX3.out.size (fun j hj => (HRX3.out.lt j hj).1))
                obtain ⟨AC3, hAC3⟩ : ∃ X, AC0 ++ [z] = X := ⟨_, rfl⟩
                have HACL3 : Hid (AC0.length + 1 = AC3.length) := by show _ = _; rw [← hAC3]; simp
                have HOG3 : Hid (Wg3.ownsRow W0.heap.size 30 3 VN3 AC3.length (flatA AC3)) := by
                  show World.ownsRow _ _ _ _ _ _ _
                  rw [← HACL3.out, ← hAC3, flatA_app]
                  exact ho3
                have HAC3 := Lib.hid hAC3
                have HLEN3 : Hid (AC3.length ≤ 1000008) := by have h1 := HLEN0.out; have h2 := HACL3.out; show _ ≤ _; omega
                clear ho3 hg3 hAC3 a0 a1 a2 a3 a4 a5
                go_wp2
                go_roundw
                case rel =>
                  refine ⟨k + 1, true, AC3, HMK.out, by go_num, rfl, ?_, HOG3.out, HBG3.out⟩
                  rw [← HAC3.out]
                  have h := HEQ.out
                  rw [HINS.out] at h
                  rw [← h]
                  have hnl : ¬ lt x z := by simpa using HDL.out
                  simp [hnl]
                case measure => simp [intOf]; omega
              | false =>
                go_wp2_with fail
                go_quiet (fail)
                have HBD1 : Hid (Below W0.heap.size W0 (W.drewN nq)) := below_dN HBW.out nq
                have HOD1 : Hid ((W.drewN nq).ownsRow W0.heap.size 30 3 VN0 AC0.length (flatA AC0)) := own_keep HOW.out (show Below W.heap.size W (W.drewN nq) from ⟨rfl, rfl, rfl, Nat.le_refl _, fun _ _ => rfl⟩)
                obtain ⟨Wr1, hWr1⟩ : ∃ X, W.drewN nq = X := ⟨_, rfl⟩
                rw [hWr1] at HBD1 HOD1
                try rw [hWr1]
                clear hWr1
                go_wp2_with fail
                have HBD2 : Hid (Below W0.heap.size W0 Wr1.drew) := below_drewS HBD1.out
                have HOD2 : Hid (Wr1.drew.ownsRow W0.heap.size 30 3 VN0 AC0.length (flatA AC0)) := own_keep HOD1.out (show Below Wr1.heap.size Wr1 Wr1.drew from ⟨rfl, rfl, rfl, Nat.le_refl _, fun _ _ => rfl⟩)
                obtain ⟨a0, a1, a2, a3, a4, a5⟩ := HK6.out Wr1 HBD1.out
                first
                  | (go_region_held3 (fun wx => wx.cell? (y.add (i * 3)) = some (.int .i64 x.s) ∧ wx.cell? ⟨(y.add (i * 3)).block, (y.add (i * 3)).off + 1, none⟩ = some (.int .i64 x.p) ∧ wx.cell? ⟨(y.add (i * 3)).block, (y.add (i * 3)).off + 2, none⟩ = some (.int .i64 x.a) ∧ wx.cell? ⟨g, k * 3, none⟩ = some (.int .i64 z.s) ∧ wx.cell? ⟨g, k * 3 + 1, none⟩ = some (.int .i64 z.p) ∧ wx.cell? ⟨g, k * 3 + 2, none⟩ = some (.int .i64 z.a)) (first | (go_keep; done) | exact HKP.out | (refine ⟨?_, ?_, ?_, ?_, ?_, ?_⟩ <;> assumption))
                      (first
                        | (go_at_call 10; (with_reducible refine (HL2.out _).mono ?_); rintro e Wr21 ⟨rfl, hb⟩; have HBR21 := Lib.hid (HBR20.out.trans (hb.mono HBR20.out.size)); have HOR21 := Lib.hid (own_keep HOR20.out hb); clear HKP; have HKP := Lib.hid (HK6.out Wr21 HBR21.out); clear hb)
                        | (go_at_call 10; (with_reducible refine (HL1.out _).mono ?_); rintro e Wr20 ⟨rfl, hb⟩; have HBR20 := Lib.hid (HBD2.out.trans (hb.mono HBD2.out.size)); have HOR20 := Lib.hid (own_keep HOD2.out hb); have HKP := Lib.hid (HK6.out Wr20 HBR20.out); clear hb)
                        | fail))
                  | fail
                clear HKP a0 a1 a2 a3 a4 a5
                obtain ⟨a0, a1, a2, a3, a4, a5⟩ := HK6.out Wr21 HBR21.out
                have hal3 : Below Wr21.heap.size Wr21 (Wr21.alloc (.cells #[.int .i64 z.s, .int .i64 z.p, .int .i64 z.a] 30)) := (Below.refl _ _).alloc (Nat.le_refl _) _
                have HRX3 := Lib.hid (own_keep HOR21.out hal3)
                have HBX3 := Lib.hid (HBR21.out.trans (hal3.mono HBR21.out.size))
                clear hal3
                go_wp2_with (at_builtin; refine wpList_append_own _ rfl _ _ 22 rfl W0.heap.size 30 i0 (.agg #[.int .i64 0, .int .i64 0, .int .i64 0]) 3 24 Tryd.underlying22 hi hz0 hz1 hz2 rfl (by decide) _ AC0.length _ rfl HRX3.out ⟨Wr21.heap.size, 0, none⟩ 1 1 [.int .i64 z.s, .int .i64 z.p, .int .i64 z.a] rfl rfl ?c3a ?c3b ?c3c ?c3d ?c3e ?_)
                case c3a =>
                  intro j u hj
                  have hrow := heap_alloc_new Wr21 (.cells #[.int .i64 z.s, .int .i64 z.p, .int .i64 z.a] 30)
                  have e : (Addr.mk Wr21.heap.size 0 none).add j = ⟨Wr21.heap.size, j, none⟩ := by cases j <;> simp [Addr.add]
                  rw [e, cell_of_row _ _ _ _ _ _ hrow, ← hj]
                  simp
                case c3b => intro u hu; simp at hu; rcases hu with rfl | rfl | rfl <;> rfl
                case c3c => have := HLEN0.out; unfold maxLen; omega
                case c3d => have := HLEN0.out; omega
                case c3e => exact HBX3.out.size
                intro VN3 Wg3 ho3 hg3 _
                have HBG3 := Lib.hid (HBX3.out.grown hg3 HBX3.out.size (fun j hj => (HRX3.out.lt j hj).1))
                obtain ⟨AC3, hAC3⟩ : ∃ X, AC0 ++ [z] = X := ⟨_, rfl⟩
                have HACL3 : Hid (AC0.length + 1 = AC3.length) := by show _ = _; rw [← hAC3]; simp
                have HOG3 : Hid (Wg3.ownsRow W0.heap.size 30 3 VN3 AC3.length (flatA AC3)) := by
                  show World.ownsRow _ _ _ _ _ _ _
                  rw [← HACL3.out, ← hAC3, flatA_app]
                  exact ho3
                have HAC3 := Lib.hid hAC3
                have HLEN3 : Hid (AC3.length ≤ 1000008) := by have h1 := HLEN0.out; have h2 := HACL3.out; show _ ≤ _; omega
                clear ho3 hg3 hAC3 a0 a1 a2 a3 a4 a5
                go_wp2
                go_roundw
                case rel =>
                  refine ⟨k + 1, true, AC3, HMK.out, by go_num, rfl, ?_, HOG3.out, HBG3.out⟩
                  rw [← HAC3.out]
                  have h := HEQ.out
                  rw [HINS.out] at h
                  rw [← h]
                  have hnl : ¬ lt x z := by simpa using HDL.out
                  simp [hnl]
                case measure => simp [intOf]; omega
        · obtain rfl : k = m := by have := HKM.out; have := HM.out; omega
          have hnil : C.drop k = [] := List.drop_eq_nil_of_le (by rw [HM.out]; omega)
          have hfin := HEQ.out
          rw [hnil] at hfin
          cases b with
          | true =>
            have HF : Hid (AC0 = insD x false C) := by show _ = _; rw [← hfin]; simp [insD]
            clear hfin hnil
            go_wp2
            go_roundw
            case rel =>
              refine ⟨i + 1, by omega, by go_num, ?_, HB.out.trans (HBW.out.mono HB.out.size)⟩
              rw [HSN.out, ← HF.out]
              exact own_base HOW.out HB.out.size
            case measure => simp [intOf]; omega
          | false =>
            have HF : Hid (AC0 ++ [x] = insD x false C) := by show _ = _; rw [← hfin]; simp [insD]
            clear hfin hnil
            obtain ⟨a0, a1, a2⟩ := HK3.out W HBW.out
            have hal81 : Below W.heap.size W (W.alloc (.cells #[.int .i64 x.s, .int .i64 x.p, .int .i64 x.a] 30)) := (Below.refl _ _).alloc (Nat.le_refl _) _
            have HRX81 := Lib.hid (own_keep HOW.out hal81)
            have HBX81 := Lib.hid (HBW.out.trans (hal81.mono HBW.out.size))
            clear hal81
            go_wp2_with (at_builtin; refine wpList_append_own _ rfl _ _ 22 rfl W0.heap.size 30 i0 (.agg #[.int .i64 0, .int .i64 0, .int .i64 0]) 3 24 Tryd.underlying22 hi hz0 hz1 hz2 rfl (by decide) _ AC0.length _ rfl HRX81.out ⟨W.heap.size, 0, none⟩ 1 1 [.int .i64 x.s, .int .i64 x.p, .int .i64 x.a] rfl rfl ?c81a ?c81b ?c81c ?c81d ?c81e ?_)
            case c81a =>
              intro j u hj
              have hrow := heap_alloc_new W (.cells #[.int .i64 x.s, .int .i64 x.p, .int .i64 x.a] 30)
              have e : (Addr.mk W.heap.size 0 none).add j = ⟨W.heap.size, j, none⟩ := by cases j <;> simp [Addr.add]
              rw [e, cell_of_row _ _ _ _ _ _ hrow, ← hj]
              simp
            case c81b => intro u hu; simp at hu; rcases hu with rfl | rfl | rfl <;> rfl
            case c81c => have := HLEN0.out; unfold maxLen; omega
            case c81d => have := HLEN0.out; omega
            case c81e => exact HBX81.out.size
            intro VN81 Wg81 ho81 hg81 _
            have HBG81 := Lib.hid (HBX81.out.grown hg81 HBX81.out.size (fun j hj => (HRX81.out.lt j hj).1))
            obtain ⟨AC81, hAC81⟩ : ∃ X, AC0 ++ [x] = X := ⟨_, rfl⟩
            have HACL81 : Hid (AC0.length + 1 = AC81.length) := by show _ = _; rw [← hAC81]; simp
            have HOG81 : Hid (Wg81.ownsRow W0.heap.size 30 3 VN81 AC81.length (flatA AC81)) := by
              show World.ownsRow _ _ _ _ _ _ _
              rw [← HACL81.out, ← hAC81, flatA_app]
              exact ho81
            have HAC81 := Lib.hid hAC81
            have HLEN81 : Hid (AC81.length ≤ 1000086) := by have h1 := HLEN0.out; have h2 := HACL81.out; show _ ≤ _; omega
            clear ho81 hg81 hAC81 a0 a1 a2
            go_wp2
            go_roundw
            case rel =>
              refine ⟨i + 1, by omega, by go_num, ?_, HB.out.trans (HBG81.out.mono HB.out.size)⟩
              rw [HSN.out, ← HF.out, HAC81.out]
              exact own_base HOG81.out HB.out.size
            case measure => simp [intOf]; omega
    · obtain rfl : i = n := by omega
      have e : L.take i = L := List.take_of_length_le (by rw [HN.out]; omega)
      rw [e] at HO ⊢
      clear e
      go_wp2
      go_ret
      exact ⟨_, rfl, HO.out, HB.out⟩
end Go.Proofs.YtlbpmbdogkfecaaDoor.Srt
