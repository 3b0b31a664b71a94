
/- A strip in memory: ticks of another owner are put behind the others; Add in general. Condition: none. -/

import Derived.Test.YtilkicbokfgjlaaDoorStpB

import Derived.Deep.RegionLaw

namespace Go.Proofs.YtilkicbokfgjlaaDoor.Stp

open Go.RowKit Go.PlainAid Go.Proofs.YtilkicbokfgjlaaDoor.Cel

set_option linter.unusedVariables false

set_option linter.unusedSimpArgs false

section

variable {w : World} {B g : Nat} {A : Option Addr} {c : Nat} {X : List RW} {i n : Int}

set_option maxRecDepth 4000 in
set_option maxHeartbeats 1600000 in
theorem add_nil (h : IsS w B g A c X) (ho : OkX X) (h0 : 0 < n) (h1 : n ≤ 1073741824 - sumR X) (hX : X = []) : Calls Tryd.prog 18 #[.pointer (some ⟨g, 0, none⟩), .int .i64 i, .int .i64 n] w (AddPost w B g X i n) := by
  obtain ⟨i0, hi, hz0, hz1, hz2⟩ := info_parts infoRun
  have s0 := ho.sum0
  have s1 := ho.sum
  have hk : okX X n = true := (okX_iff _ _).2 ⟨by omega, by omega⟩
  have hj : joinX X i n = X ++ [⟨i, n⟩] := by rw [hX, join_nil _ _ (by omega)]; rfl
  unfold AddPost
  rw [hk, add_yes _ hk, hj]
  have HB := Lib.hid h
  have HL := Lib.hid (len_any w B g _ c X h ho)
  have HLW := Lib.hid (fun (W1 : World) (hb : Below w.heap.size w W1) => len_any W1 B g _ c X (h.keep hb) ho)
  have hw : IntKind.i64.wrap (1073741824 - sumR X) = 1073741824 - sumR X := IntWalk.i64_in _ (by omega)
  have t0 : decide (n < 0) = false := decide_eq_false (by omega)
  have t1 : decide (1073741824 - sumR X < n) = false := decide_eq_false (by omega)
  have t2 : (n == 0) = false := by simp; omega
  have hl := ho.len
  have hwa : IntKind.i64.wrap (sumR X + n) = sumR X + n := IntWalk.i64_in _ (by omega)
  obtain ⟨sv, hsv⟩ : ∃ x, x = sumR X + n := ⟨_, rfl⟩
  replace hwa : IntKind.i64.wrap (sumR X + n) = sv := hwa.trans hsv.symm
  have hwl : IntKind.i64.wrap ((X.length : Int) - 1) = -1 := by rw [hX]; rfl
  have t3 : decide ((0 : Int) ≤ -1) = false := rfl
  clear hX
  have HX : Hid (∀ W1 w' A' c', Below w.heap.size w W1 → (W1.grownBy w' (Value.slice A X.length c).ownBlock) → w'.ownsRow B 78 2 (.slice A' (X.length + 1) c') (X.length + 1) (flatR (runsF 0 X) ++ [.int .i64 i, .int .i64 sv]) → IsSt (w'.setCell ⟨g, 0, none⟩ (.slice A' (X.length + 1) c')) B g (X ++ [⟨i, n⟩]) ∧ Chg B w (w'.setCell ⟨g, 0, none⟩ (.slice A' (X.length + 1) c')) ∧ w'.cell? ⟨g, 0, none⟩ = some (.slice A X.length c) ∧ w'.frozen? ⟨g, 0, none⟩ = false) := by
    intro W1 w' A' c' hb hg ho2
    rw [hsv] at ho2
    have e1 : flatR (runsF 0 X) ++ [.int .i64 i, .int .i64 (sumR X + n)] = flatR (runsF 0 (X ++ [⟨i, n⟩])) := by rw [runsF_snoc, flatR_snoc]; dsimp only; rw [show (0 : Int) + sumR X + n = sumR X + n by omega]
    have e2 : X.length + 1 = (X ++ [(⟨i, n⟩ : RW)]).length := by simp
    rw [e1, e2] at ho2
    have hp := app_post (h.keep hb) hg ho2
    rw [e2]
    exact ⟨⟨_, _, hp.1⟩, (Chg.of hb).trans hp.2.1, by rw [cell_of_row _ _ _ _ _ _ hp.2.2]; rfl, frozen_of_row _ _ _ _ _ hp.2.2⟩
  have HO : Hid (∀ W1, Below w.heap.size w W1 → W1.ownsRow B 78 2 (.slice A X.length c) X.length (flatR (runsF 0 X)) ∧ B ≤ W1.heap.size) := fun W1 hb => ⟨(h.keep hb).own, (h.keep hb).gsz⟩
  have HC : Hid (∀ W1, Below w.heap.size w W1 → W1.cell? ⟨g, 0, none⟩ = some (.slice A X.length c) ∧ W1.frozen? ⟨g, 0, none⟩ = false) := fun W1 hb => ⟨(h.keep hb).cell, (h.keep hb).free 0⟩
  obtain ⟨fl, hfl⟩ : ∃ f, flatR (runsF 0 X) = f := ⟨_, rfl⟩
  rw [hfl] at HX HO
  obtain ⟨v, hv⟩ : ∃ v, sumR X = v := ⟨_, rfl⟩
  rw [hv] at HL HLW hw t1 hwa
  obtain ⟨N, hN⟩ : ∃ N, X.length = N := ⟨_, rfl⟩
  rw [hN] at HX HO HC hl hwl
  have HH : Hid (N ≤ 1073741824) := hl
  clear h hk ho hv s0 s1 h0 h1 hj hfl hN hsv hl HB
  go_enter Tryd.func18, Tryd.ntmps18
  go_wp2_with (go_at_call 30; refine HL.out.mono ?_; rintro e w1 ⟨rfl, k, rfl⟩; have hbk : Below w.heap.size w (w.drewN k) := below_n w k; obtain ⟨cc, cf⟩ := HC.out _ hbk; have HBK := Lib.hid hbk; obtain ⟨W, hW⟩ : ∃ W, w.drewN k = W := ⟨_, rfl⟩; rw [hW] at cc cf HBK; rw [hW]; clear hW hbk)

  have hbd : Below w.heap.size w W.drew := HBK.out.trans ((below_n W 1).mono HBK.out.size)
  have HLJ := Lib.hid (HLW.out _ hbd)
  have HBD := Lib.hid hbd
  clear hbd
  go_region_law
    (first
      | (go_simp; go_at_call 30; refine HLJ.out.mono ?_; rintro e w1 ⟨rfl, k, rfl⟩; have hbj := HBD.out.trans ((below_n W.drew k).mono HBD.out.size); have HBJ := Lib.hid hbj; obtain ⟨d0, d1⟩ := HC.out _ hbj; clear hbj; obtain ⟨W1, hW1⟩ : ∃ W1, W.drew.drewN k = W1 := ⟨_, rfl⟩; rw [hW1] at HBJ d0 d1; rw [hW1]; clear hW1; have hba := HBJ.out.trans (((Below.refl W1.heap.size W1).alloc (Nat.le_refl _) (.cells #[.int .i64 i, .int .i64 sv] 78)).mono HBJ.out.size); have HBA := Lib.hid hba; obtain ⟨a0, a1⟩ := HC.out _ hba; clear hba)
      | (
          refine step_append_ownR (s := .tmp 27) (x := .tmp 34) (t := 76) rfl rfl (base := B) (e := 78) (i := i0) (z := .agg #[.int .i64 0, .int .i64 0]) (size := 2) (bytes := 16) Tryd.underlying76 hi hz0 hz1 hz2 rfl (by decide) (v := .slice A N c) (n := N) (xs := fl) rfl (HO.out _ HBA.out).1 ⟨W1.heap.size, 0, none⟩ 1 1 [.int .i64 i, .int .i64 sv] rfl rfl (new2W W1 _ _ _ _ rfl) (one2W _ _) ?_ ?_ ?_ ?_
          · have := HH.out; unfold maxLen; omega
          · have := HH.out; omega
          · exact (HO.out _ HBA.out).2
          intro v' w' ho hg
          obtain ⟨A9, c9, rfl⟩ := own_slice ho
          obtain ⟨x1, x2, b0, b1⟩ := HX.out _ w' _ _ HBA.out hg ho
          have HX1 := Lib.hid x1
          have HX2 := Lib.hid x2
          clear ho hg x1 x2))
  all_goals
    go_wp2
    go_ret
    exact ⟨rfl, HX1.out, HX2.out⟩
set_option maxRecDepth 4000 in
set_option maxHeartbeats 1600000 in
theorem add_diff {Y : List RW} {y : RW} (h : IsS w B g A c X) (ho : OkX X) (h0 : 0 < n) (h1 : n ≤ 1073741824 - sumR X) (hX : X = Y ++ [y]) (hne : ¬ y.i = i) : Calls Tryd.prog 18 #[.pointer (some ⟨g, 0, none⟩), .int .i64 i, .int .i64 n] w (AddPost w B g X i n) := by
  obtain ⟨i0, hi, hz0, hz1, hz2⟩ := info_parts infoRun
  have s0 := ho.sum0
  have s1 := ho.sum
  have hk : okX X n = true := (okX_iff _ _).2 ⟨by omega, by omega⟩
  have hj : joinX X i n = X ++ [⟨i, n⟩] := by rw [hX, join_snoc _ _ _ _ (by omega), if_neg hne]
  unfold AddPost
  rw [hk, add_yes _ hk, hj]
  have HB := Lib.hid h
  have HL := Lib.hid (len_any w B g _ c X h ho)
  have HLW := Lib.hid (fun (W1 : World) (hb : Below w.heap.size w W1) => len_any W1 B g _ c X (h.keep hb) ho)
  have hw : IntKind.i64.wrap (1073741824 - sumR X) = 1073741824 - sumR X := IntWalk.i64_in _ (by omega)
  have t0 : decide (n < 0) = false := decide_eq_false (by omega)
  have t1 : decide (1073741824 - sumR X < n) = false := decide_eq_false (by omega)
  have t2 : (n == 0) = false := by simp; omega
  have hl := ho.len
  have hwa : IntKind.i64.wrap (sumR X + n) = sumR X + n := IntWalk.i64_in _ (by omega)
  obtain ⟨sv, hsv⟩ : ∃ x, x = sumR X + n := ⟨_, rfl⟩
  replace hwa : IntKind.i64.wrap (sumR X + n) = sv := hwa.trans hsv.symm
  have hkk : (runsF 0 X)[Y.length]? = some ⟨y.i, 0 + sumR Y + y.c⟩ := by rw [hX, runsF_snoc, List.getElem?_append_right (by rw [runsF_len]; exact Nat.le_refl _), runsF_len]; simp
  obtain ⟨ax, rfl, -, -⟩ := h.rat _ _ hkk
  obtain ⟨-, hax, -, -⟩ := h.apart ax rfl
  obtain ⟨q, hq⟩ : ∃ q, ax.block = q := ⟨_, rfl⟩
  rw [hq] at hax
  subst hax
  have hNl : X.length = Y.length + 1 := by rw [hX]; simp
  obtain ⟨m, hm⟩ : ∃ m, Y.length = m := ⟨_, rfl⟩
  have hd : ∀ W1, Below w.heap.size w W1 → W1.cell? ⟨q, m * 2, none⟩ = some (.int .i64 y.i) := fun W1 hb => by
    rw [← hm]
    exact ((h.keep hb).own.cellAt _ (by omega)).trans ((flatR_get (runsF 0 X) Y.length _ 0 hkk (by omega)).trans rfl)
  have HD := Lib.hid hd
  have hwl : IntKind.i64.wrap ((X.length : Int) - 1) = (m : Int) := by rw [hNl, hm, show ((m + 1 : Nat) : Int) - 1 = (m : Int) by omega]; exact IntWalk.i64_in _ (by omega)
  have t3 : decide ((0 : Int) ≤ (m : Int)) = true := decide_eq_true (by omega)
  have t4 : (0 : Int) ≤ (m : Int) := by omega
  have hmn : (m : Int) < (X.length : Int) := by omega
  have t5 : (y.i == i) = false := by simp [hne]
  obtain ⟨yi, hyi⟩ : ∃ v, y.i = v := ⟨_, rfl⟩
  rw [hyi] at HD t5
  clear hX hkk hd hq hm hNl hne hyi
  have HX : Hid (∀ W1 w' A' c', Below w.heap.size w W1 → (W1.grownBy w' (Value.slice (some ⟨q, 0, none⟩) X.length c).ownBlock) → w'.ownsRow B 78 2 (.slice A' (X.length + 1) c') (X.length + 1) (flatR (runsF 0 X) ++ [.int .i64 i, .int .i64 sv]) → IsSt (w'.setCell ⟨g, 0, none⟩ (.slice A' (X.length + 1) c')) B g (X ++ [⟨i, n⟩]) ∧ Chg B w (w'.setCell ⟨g, 0, none⟩ (.slice A' (X.length + 1) c')) ∧ w'.cell? ⟨g, 0, none⟩ = some (.slice (some ⟨q, 0, none⟩) X.length c) ∧ w'.frozen? ⟨g, 0, none⟩ = false) := by
    intro W1 w' A' c' hb hg ho2
    rw [hsv] at ho2
    have e1 : flatR (runsF 0 X) ++ [.int .i64 i, .int .i64 (sumR X + n)] = flatR (runsF 0 (X ++ [⟨i, n⟩])) := by rw [runsF_snoc, flatR_snoc]; dsimp only; rw [show (0 : Int) + sumR X + n = sumR X + n by omega]
    have e2 : X.length + 1 = (X ++ [(⟨i, n⟩ : RW)]).length := by simp
    rw [e1, e2] at ho2
    have hp := app_post (h.keep hb) hg ho2
    rw [e2]
    exact ⟨⟨_, _, hp.1⟩, (Chg.of hb).trans hp.2.1, by rw [cell_of_row _ _ _ _ _ _ hp.2.2]; rfl, frozen_of_row _ _ _ _ _ hp.2.2⟩
  have HO : Hid (∀ W1, Below w.heap.size w W1 → W1.ownsRow B 78 2 (.slice (some ⟨q, 0, none⟩) X.length c) X.length (flatR (runsF 0 X)) ∧ B ≤ W1.heap.size) := fun W1 hb => ⟨(h.keep hb).own, (h.keep hb).gsz⟩
  have HC : Hid (∀ W1, Below w.heap.size w W1 → W1.cell? ⟨g, 0, none⟩ = some (.slice (some ⟨q, 0, none⟩) X.length c) ∧ W1.frozen? ⟨g, 0, none⟩ = false) := fun W1 hb => ⟨(h.keep hb).cell, (h.keep hb).free 0⟩
  obtain ⟨fl, hfl⟩ : ∃ f, flatR (runsF 0 X) = f := ⟨_, rfl⟩
  rw [hfl] at HX HO
  obtain ⟨v, hv⟩ : ∃ v, sumR X = v := ⟨_, rfl⟩
  rw [hv] at HL HLW hw t1 hwa
  obtain ⟨N, hN⟩ : ∃ N, X.length = N := ⟨_, rfl⟩
  rw [hN] at HX HO HC hl hwl hmn
  have HH : Hid (N ≤ 1073741824) := hl
  clear h hk ho hv s0 s1 h0 h1 hj hfl hN hsv hl HB
  go_enter Tryd.func18, Tryd.ntmps18
  go_wp2_with (go_at_call 30; refine HL.out.mono ?_; rintro e w1 ⟨rfl, k, rfl⟩; have hbk : Below w.heap.size w (w.drewN k) := below_n w k; obtain ⟨cc, cf⟩ := HC.out _ hbk; have dd := HD.out _ hbk; have HBK := Lib.hid hbk; obtain ⟨W, hW⟩ : ∃ W, w.drewN k = W := ⟨_, rfl⟩; rw [hW] at cc cf dd HBK; rw [hW]; clear hW hbk)

  have hbd : Below w.heap.size w W.drew := HBK.out.trans ((below_n W 1).mono HBK.out.size)
  have HLJ := Lib.hid (HLW.out _ hbd)
  have HBD := Lib.hid hbd
  clear hbd
  go_region_law
    (first
      | (go_simp; go_at_call 30; refine HLJ.out.mono ?_; rintro e w1 ⟨rfl, k, rfl⟩; have hbj := HBD.out.trans ((below_n W.drew k).mono HBD.out.size); have HBJ := Lib.hid hbj; obtain ⟨d0, d1⟩ := HC.out _ hbj; clear hbj; obtain ⟨W1, hW1⟩ : ∃ W1, W.drew.drewN k = W1 := ⟨_, rfl⟩; rw [hW1] at HBJ d0 d1; rw [hW1]; clear hW1; have hba := HBJ.out.trans (((Below.refl W1.heap.size W1).alloc (Nat.le_refl _) (.cells #[.int .i64 i, .int .i64 sv] 78)).mono HBJ.out.size); have HBA := Lib.hid hba; obtain ⟨a0, a1⟩ := HC.out _ hba; clear hba)
      | (
          refine step_append_ownR (s := .tmp 27) (x := .tmp 34) (t := 76) rfl rfl (base := B) (e := 78) (i := i0) (z := .agg #[.int .i64 0, .int .i64 0]) (size := 2) (bytes := 16) Tryd.underlying76 hi hz0 hz1 hz2 rfl (by decide) (v := .slice (some ⟨q, 0, none⟩) N c) (n := N) (xs := fl) rfl (HO.out _ HBA.out).1 ⟨W1.heap.size, 0, none⟩ 1 1 [.int .i64 i, .int .i64 sv] rfl rfl (new2W W1 _ _ _ _ rfl) (one2W _ _) ?_ ?_ ?_ ?_
          · have := HH.out; unfold maxLen; omega
          · have := HH.out; omega
          · exact (HO.out _ HBA.out).2
          intro v' w' ho hg
          obtain ⟨A9, c9, rfl⟩ := own_slice ho
          obtain ⟨x1, x2, b0, b1⟩ := HX.out _ w' _ _ HBA.out hg ho
          have HX1 := Lib.hid x1
          have HX2 := Lib.hid x2
          clear ho hg x1 x2))
  all_goals
    go_wp2
    go_ret
    exact ⟨rfl, HX1.out, HX2.out⟩
theorem add_any (h : IsSt w B g X) (ho : OkX X) (i n : Int) (hn : -9223372036854775808 ≤ n ∧ n ≤ 9223372036854775807) : Calls Tryd.prog 18 #[.pointer (some ⟨g, 0, none⟩), .int .i64 i, .int .i64 n] w (AddPost w B g X i n) := by
  obtain ⟨A, c, h⟩ := h
  by_cases h0 : n < 0
  · exact add_low h h0
  by_cases h1 : 1073741824 - sumR X < n
  · exact add_many h ho (by omega) h1
  by_cases h2 : n = 0
  · subst h2; exact add_zero h ho
  rcases snoc_cases X with hX | ⟨Y, y, hX⟩
  · exact add_nil h ho (by omega) (by omega) hX
  · by_cases hy : y.i = i
    · subst hX; exact add_same h ho (by omega) (by omega) hy
    · exact add_diff h ho (by omega) (by omega) hX hy
end

end Go.Proofs.YtilkicbokfgjlaaDoor.Stp
