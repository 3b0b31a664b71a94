
/- The document's strip: Add. Condition: none. -/

import Derived.Test.YtilkicbokfgjlaaDoorStpI

namespace Go.Proofs.YtilkicbokfgjlaaDoor.Stp

open Go.RowKit Go.PlainAid Go.Proofs.YtilkicbokfgjlaaDoor.Cel

set_option linter.unusedVariables false

set_option linter.unusedSimpArgs false

def RAddPost (w : World) (X : List RW) (i n : Int) (e : Ending) (w' : World) : Prop := ∃ A N c, e = .returned (.tuple #[.slice A N c, .bool (okX X n)]) ∧ (addX X i n).length = N ∧ RX w' A (addX X i n) ∧ Below w.heap.size w w' ∧ (A = none → c = 0)
theorem own_nilc {w : World} {B e s n c : Nat} {A : Option Addr} {xs : List Value} (h : w.ownsRow B e s (.slice A n c) n xs) (hA : A = none) : c = 0 := by
  rcases h.2 with ⟨h0, _⟩ | ⟨q, c', cur, h0, _⟩
  · injection h0
  · injection h0 with h1; rw [hA] at h1; cases h1
theorem set_count (Y : List RW) (y : RW) (v : Int) : (flatR (Y ++ [y])).set (Y.length * 2 + 1) (.int .i64 v) = flatR (Y ++ [⟨y.i, v⟩]) := by
  rw [flatR_snoc, flatR_snoc, List.set_append_right _ _ (by rw [flatR_len]; omega), flatR_len, Nat.add_sub_cancel_left]
  rfl
theorem new2X (w : World) (T T' : TypeId) (a b : Int) : ∀ j u, ([.int .i64 a, .int .i64 b] : List Value)[j]? = some u → ((w.alloc (.cells #[] T)).alloc (.cells #[.int .i64 a, .int .i64 b] T')).cell? ((Addr.mk (w.heap.size + 1) 0 none).add j) = some u := by
  have h := new2W (w.alloc (.cells #[] T)) _ T' a b rfl
  rwa [World.size_alloc] at h
section

variable {w : World} {A : Option Addr} {c : Nat} {X : List RW} {i n : Int}

set_option maxRecDepth 4000 in
set_option maxHeartbeats 800000 in
theorem radd_low (h : RX w A X) (hc : A = none → c = 0) (N : Nat) (hN : X.length = N) (h0 : n < 0) : Calls Tryd.prog 7 #[.slice A N c, .int .i64 i, .int .i64 n] w (RAddPost w X i n) := by
  have hk : okX X n = false := by unfold okX; rw [decide_eq_false (by omega)]; rfl
  unfold RAddPost
  rw [hk, add_no _ hk]
  have HR := Lib.hid h
  have t0 : decide (n < 0) = true := decide_eq_true h0
  have HN := Lib.hid hN
  clear h hk h0 hN
  go_enter Tryd.func7, Tryd.ntmps7
  go_wp2
  go_ret2
  exact ⟨A, N, c, rfl, HN.out, HR.out, Below.refl _ _, hc⟩
set_option maxRecDepth 4000 in
set_option maxHeartbeats 800000 in
theorem radd_many (h : RX w A X) (hc : A = none → c = 0) (ho : OkX X) (N : Nat) (hN : X.length = N) (h0 : 0 ≤ n) (h1 : 1073741824 - sumR X < n) : Calls Tryd.prog 7 #[.slice A N c, .int .i64 i, .int .i64 n] w (RAddPost w X i n) := by
  have hk : okX X n = false := by unfold okX; rw [decide_eq_false (show ¬ n ≤ 1073741824 - sumR X by omega)]; simp
  unfold RAddPost
  rw [hk, add_no _ hk]
  have HR := Lib.hid h
  have t0 : decide (n < 0) = false := decide_eq_false (by omega)
  have HL := Lib.hid (rlen_any (c := c) h ho N hN)
  have s0 := ho.sum0
  have s1 := ho.sum
  have hw : IntKind.i64.wrap (1073741824 - sumR X) = 1073741824 - sumR X := IntWalk.i64_in _ (by omega)
  have t1 : decide (1073741824 - sumR X < n) = true := decide_eq_true h1
  obtain ⟨v, hv⟩ : ∃ v, sumR X = v := ⟨_, rfl⟩
  rw [hv] at HL hw t1
  have HN := Lib.hid hN
  clear h hk h0 h1 ho hv s0 s1 hN
  go_enter Tryd.func7, Tryd.ntmps7
  go_wp2_with (go_at_call 19; refine HL.out.mono ?_; rintro e w1 ⟨rfl, rfl⟩)
  go_ret2
  exact ⟨A, N, c, rfl, HN.out, HR.out, Below.refl _ _, hc⟩
set_option maxRecDepth 4000 in
set_option maxHeartbeats 800000 in
theorem radd_zero (h : RX w A X) (hc : A = none → c = 0) (ho : OkX X) (N : Nat) (hN : X.length = N) : Calls Tryd.prog 7 #[.slice A N c, .int .i64 i, .int .i64 0] w (RAddPost w X i 0) := by
  have s0 := ho.sum0
  have s1 := ho.sum
  have hk : okX X 0 = true := (okX_iff _ _).2 ⟨by omega, by omega⟩
  unfold RAddPost
  rw [hk, add_yes _ hk, join_zero]
  have HR := Lib.hid h
  have HL := Lib.hid (rlen_any (c := c) h ho N hN)
  have hw : IntKind.i64.wrap (1073741824 - sumR X) = 1073741824 - sumR X := IntWalk.i64_in _ (by omega)
  have t1 : decide (1073741824 - sumR X < 0) = false := decide_eq_false (by omega)
  obtain ⟨v, hv⟩ : ∃ v, sumR X = v := ⟨_, rfl⟩
  rw [hv] at HL hw t1
  have HN := Lib.hid hN
  clear h hk ho hv s0 s1 hN
  go_enter Tryd.func7, Tryd.ntmps7
  go_wp2_with (go_at_call 19; refine HL.out.mono ?_; rintro e w1 ⟨rfl, rfl⟩)
  go_ret2
  exact ⟨A, N, c, rfl, HN.out, HR.out, Below.refl _ _, hc⟩
set_option maxRecDepth 4000 in
set_option maxHeartbeats 1600000 in
theorem radd_nil_none (h : RX w A X) (ho : OkX X) (N : Nat) (hN : X.length = N) (h0 : 0 < n) (h1 : n ≤ 1073741824 - sumR X) (hX : X = []) (hA : A = none) (hc : c = 0) : Calls Tryd.prog 7 #[.slice A N c, .int .i64 i, .int .i64 n] w (RAddPost w X i n) := by
  obtain ⟨i0, hi, hz0, hz1, hz2⟩ := info_parts infoR27
  have s0 := ho.sum0
  have s1 := ho.sum
  have hk : okX X n = true := (okX_iff _ _).2 ⟨by omega, by omega⟩
  have hj : joinX X i n = X ++ [⟨i, n⟩] := by rw [hX, join_nil _ _ (by omega)]; rfl
  unfold RAddPost
  rw [hk, add_yes _ hk, hj]
  have HL := Lib.hid (rlen_any (c := c) h ho N hN)
  have hw : IntKind.i64.wrap (1073741824 - sumR X) = 1073741824 - sumR X := IntWalk.i64_in _ (by omega)
  have t0 : decide (n < 0) = false := decide_eq_false (by omega)
  have t1 : decide (1073741824 - sumR X < n) = false := decide_eq_false (by omega)
  have t2 : (n == 0) = false := by simp; omega
  have hl := ho.len
  rw [hN] at hl
  have HLN : Hid (N ≤ 1073741824) := hl
  have HN := Lib.hid hN
  subst hA
  subst hc
  subst hX
  obtain rfl : 0 = N := hN
  have hwl : IntKind.i64.wrap (((0 : Nat) : Int) - 1) = -1 := rfl
  have hwl2 : IntKind.i64.wrap ((0 : Int) - 1) = -1 := rfl
  have t3 : decide ((0 : Int) ≤ -1) = false := rfl
  have hb0 : Below w.heap.size w (w.alloc (.cells #[] 54)) := below_al w _
  have HB := Lib.hid hb0
  have HO : Hid ((w.alloc (.cells #[] 54)).ownsRow w.heap.size 54 2 (.slice (some ⟨w.heap.size, 0, none⟩) 0 0) 0 []) := World.ownsRow_lit w #[] 0 (Nat.le_refl _) (Nat.zero_le _) rfl
  obtain ⟨v, hv⟩ : ∃ v, sumR ([] : List RW) = v := ⟨_, rfl⟩
  rw [hv] at HL hw t1
  clear h hk ho hv s0 s1 hl h0 h1 hj hb0
  go_enter Tryd.func7, Tryd.ntmps7
  have HRA := Lib.hid (HO.out.alloc (.cells #[.int .i64 i, .int .i64 n] 54))
  have HBR := Lib.hid (HB.out.trans ((below_al (w.alloc (.cells #[] 54)) (.cells #[.int .i64 i, .int .i64 n] 54)).mono HB.out.size))
  go_wp2_with (first | (go_at_call 19; refine HL.out.mono ?_; rintro e w1 ⟨rfl, hww⟩; have hwv := hww.symm; clear hww; subst hwv) | (at_builtin; refine wpList_append_own_none rfl _ _ 26 rfl _ 54 i0 2 Tryd.underlying26 hi _ _ _ rfl HO.out rfl ?_; clear HO) | (at_builtin; refine wpList_append_own _ rfl _ _ 26 rfl _ 54 i0 (.agg #[.int .i64 0, .int .i64 0]) 2 16 Tryd.underlying26 hi hz0 hz1 hz2 rfl (by decide) _ _ _ rfl HRA.out ⟨w.heap.size + 1, 0, none⟩ 1 1 [.int .i64 i, .int .i64 n] rfl rfl (new2X w _ _ _ _) (one2W _ _) (by unfold maxLen; omega) (by omega) HBR.out.size ?_))
  intro V3 W3 ho3 hg3 _
  have HB3 := Lib.hid (HBR.out.grown hg3 HBR.out.size (fun j hj => (HRA.out.lt j hj).1))
  have HO3 := Lib.hid ho3
  obtain ⟨A3, c3, hV3⟩ := own_slice ho3
  subst hV3
  clear ho3 hg3
  go_wp2
  go_ret2
  exact ⟨A3, 1, c3, rfl, rfl, own_rx (X := [⟨i, n⟩]) HO3.out, HB3.out, own_nilc HO3.out⟩
set_option maxRecDepth 4000 in
set_option maxHeartbeats 1600000 in
theorem radd_nil_some (h : RX w A X) (ho : OkX X) (N : Nat) (hN : X.length = N) (h0 : 0 < n) (h1 : n ≤ 1073741824 - sumR X) (hX : X = []) (ad : Addr) (hA : A = some ad) : Calls Tryd.prog 7 #[.slice A N c, .int .i64 i, .int .i64 n] w (RAddPost w X i n) := by
  obtain ⟨i0, hi, hz0, hz1, hz2⟩ := info_parts infoR27
  have s0 := ho.sum0
  have s1 := ho.sum
  have hk : okX X n = true := (okX_iff _ _).2 ⟨by omega, by omega⟩
  have hj : joinX X i n = X ++ [⟨i, n⟩] := by rw [hX, join_nil _ _ (by omega)]; rfl
  unfold RAddPost
  rw [hk, add_yes _ hk, hj]
  have HL := Lib.hid (rlen_any (c := c) h ho N hN)
  have hw : IntKind.i64.wrap (1073741824 - sumR X) = 1073741824 - sumR X := IntWalk.i64_in _ (by omega)
  have t0 : decide (n < 0) = false := decide_eq_false (by omega)
  have t1 : decide (1073741824 - sumR X < n) = false := decide_eq_false (by omega)
  have t2 : (n == 0) = false := by simp; omega
  have hl := ho.len
  rw [hN] at hl
  have HLN : Hid (N ≤ 1073741824) := hl
  have HN := Lib.hid hN
  subst hA
  subst hX
  obtain rfl : 0 = N := hN
  have hwl : IntKind.i64.wrap (((0 : Nat) : Int) - 1) = -1 := rfl
  have hwl2 : IntKind.i64.wrap ((0 : Int) - 1) = -1 := rfl
  have t3 : decide ((0 : Int) ≤ -1) = false := rfl
  have hb0 : Below w.heap.size w (w.alloc (.cells #[] 54)) := below_al w _
  have HB := Lib.hid hb0
  have HO : Hid ((w.alloc (.cells #[] 54)).ownsRow w.heap.size 54 2 (.slice (some ⟨w.heap.size, 0, none⟩) 0 0) 0 []) := World.ownsRow_lit w #[] 0 (Nat.le_refl _) (Nat.zero_le _) rfl
  have HXF := Lib.hid (cells_flat (h.keep hb0).rat)
  have hfl := flatR_len ([] : List RW)
  have HFL := Lib.hid hfl
  have HON := Lib.hid (flatR_one ([] : List RW))
  obtain ⟨ab, ao, asp⟩ := ad
  clear hfl
  obtain ⟨v, hv⟩ : ∃ v, sumR ([] : List RW) = v := ⟨_, rfl⟩
  rw [hv] at HL hw t1
  clear h hk ho hv s0 s1 hl h0 h1 hj hb0
  go_enter Tryd.func7, Tryd.ntmps7
  go_wp2_with (first | (go_at_call 19; refine HL.out.mono ?_; rintro e w1 ⟨rfl, hww⟩; have hwv := hww.symm; clear hww; subst hwv) | (at_builtin; refine wpList_append_own _ rfl _ _ 26 rfl _ 54 i0 (.agg #[.int .i64 0, .int .i64 0]) 2 16 Tryd.underlying26 hi hz0 hz1 hz2 rfl (by decide) _ 0 [] rfl HO.out ⟨ab, ao, asp⟩ 0 c (flatR ([] : List RW)) rfl HFL.out HXF.out HON.out (by have := HLN.out; unfold maxLen; omega) (by have := HLN.out; omega) HB.out.size ?_))
  intro V2 W2 ho2 hg2 _
  have hb2 := HB.out.grown hg2 (by simp) (fun j hj => (HO.out.lt j hj).1)
  try simp only [Nat.zero_add, List.nil_append] at ho2
  obtain ⟨A2, c2, hV2⟩ := own_slice ho2
  subst hV2
  have HO2 := Lib.hid ho2
  have HB2 := Lib.hid hb2
  have HR := Lib.hid (HO2.out.alloc (.cells #[.int .i64 i, .int .i64 n] 54))
  have HBR := Lib.hid (HB2.out.trans ((below_al W2 (.cells #[.int .i64 i, .int .i64 n] 54)).mono HB2.out.size))
  clear ho2 hb2 hg2 HO HB HXF HFL HON
  go_upto_region 11 with fail
  go_wp2_with (at_builtin; refine wpList_append_own _ rfl _ _ 26 rfl _ 54 i0 (.agg #[.int .i64 0, .int .i64 0]) 2 16 Tryd.underlying26 hi hz0 hz1 hz2 rfl (by decide) _ _ _ rfl HR.out ⟨W2.heap.size, 0, none⟩ 1 1 [.int .i64 i, .int .i64 n] rfl rfl (new2W W2 _ _ _ _ rfl) (one2W _ _) (by have := HLN.out; unfold maxLen; omega) (by have := HLN.out; omega) HBR.out.size ?_)
  intro V3 W3 ho3 hg3 _
  have HB3 := Lib.hid (HBR.out.grown hg3 HBR.out.size (fun j hj => (HR.out.lt j hj).1))
  have HO3 := Lib.hid ho3
  obtain ⟨A3, c3, hV3⟩ := own_slice ho3
  subst hV3
  clear ho3 hg3
  go_wp2
  go_ret2
  exact ⟨A3, 1, c3, rfl, rfl, own_rx (X := [⟨i, n⟩]) HO3.out, HB3.out, own_nilc HO3.out⟩
set_option maxRecDepth 4000 in
set_option maxHeartbeats 1600000 in
theorem radd_same (h : RX w A X) (ho : OkX X) (N : Nat) (hN : X.length = N) (h0 : 0 < n) (h1 : n ≤ 1073741824 - sumR X) (Y : List RW) (y : RW) (hX : X = Y ++ [y]) (hy : y.i = i) (ad : Addr) (hA : A = some ad) : Calls Tryd.prog 7 #[.slice A N c, .int .i64 i, .int .i64 n] w (RAddPost w X i n) := by
  obtain ⟨i0, hi, hz0, hz1, hz2⟩ := info_parts infoR27
  have s0 := ho.sum0
  have s1 := ho.sum
  have hk : okX X n = true := (okX_iff _ _).2 ⟨by omega, by omega⟩
  have hj : joinX X i n = Y ++ [⟨y.i, y.c + n⟩] := by rw [hX, join_snoc _ _ _ _ (by omega), if_pos hy]
  unfold RAddPost
  rw [hk, add_yes _ hk, hj]
  have HL := Lib.hid (rlen_any (c := c) h ho N hN)
  have hw : IntKind.i64.wrap (1073741824 - sumR X) = 1073741824 - sumR X := IntWalk.i64_in _ (by omega)
  have t0 : decide (n < 0) = false := decide_eq_false (by omega)
  have t1 : decide (1073741824 - sumR X < n) = false := decide_eq_false (by omega)
  have t2 : (n == 0) = false := by simp; omega
  have hl := ho.len
  rw [hN] at hl
  have HLN : Hid (N ≤ 1073741824) := hl
  have HN := Lib.hid hN
  subst hA
  have hNm : N = Y.length + 1 := by rw [← hN, hX]; simp
  obtain ⟨m, hm⟩ : ∃ m, Y.length = m := ⟨_, rfl⟩
  rw [hm] at hNm
  have hwl : IntKind.i64.wrap ((N : Int) - 1) = (m : Int) := by rw [show (N : Int) - 1 = (m : Int) by omega]; exact IntWalk.i64_in _ (by omega)
  have t3 : decide ((0 : Int) ≤ (m : Int)) = true := decide_eq_true (by omega)
  have t4 : (0 : Int) ≤ (m : Int) := by omega
  have t5 : (m : Int) < (N : Int) := by omega
  have HX := Lib.hid hX
  have HM := Lib.hid hm
  have HNM := Lib.hid hNm
  have t6 : (i == i) = true := by simp
  have hwa : IntKind.i64.wrap (y.c + n) = y.c + n := IntWalk.i64_in _ (by have := ho.pos y (by rw [hX]; simp); rw [hX, sumR_snoc] at h1 s0; rw [hX] at ho; have := ho.init.sum0; omega)
  have HYI := Lib.hid hy
  have hd : ∀ (W : World) (g2 c2 : Nat), W.ownsRow w.heap.size 54 2 (.slice (some ⟨g2, 0, none⟩) N c2) N (flatR X) → W.cell? ⟨g2, m * 2, none⟩ = some (.int .i64 i) ∧ W.cell? ⟨g2, m * 2 + 1, none⟩ = some (.int .i64 y.c) ∧ W.frozen? ⟨g2, m * 2 + 1, none⟩ = false := fun W g2 c2 hw => by
    have hkk : X[m]? = some y := by rw [hX, ← hm, List.getElem?_append_right (Nat.le_refl _)]; simp
    exact ⟨(hw.cellAt _ (by omega)).trans ((flatR_get X m y 0 hkk (by omega)).trans (by rw [← hy]; rfl)), (hw.cellAt _ (by omega)).trans ((flatR_get X m y 1 hkk (by omega)).trans rfl), hw.frozenAt _⟩
  have HD := Lib.hid hd
  have hb0 : Below w.heap.size w (w.alloc (.cells #[] 54)) := below_al w _
  have HB := Lib.hid hb0
  have HO : Hid ((w.alloc (.cells #[] 54)).ownsRow w.heap.size 54 2 (.slice (some ⟨w.heap.size, 0, none⟩) 0 0) 0 []) := World.ownsRow_lit w #[] 0 (Nat.le_refl _) (Nat.zero_le _) rfl
  have HXF := Lib.hid (cells_flat (h.keep hb0).rat)
  have hfl := flatR_len X
  rw [hN] at hfl
  have HFL := Lib.hid hfl
  have HON := Lib.hid (flatR_one X)
  obtain ⟨ab, ao, asp⟩ := ad
  clear hfl
  obtain ⟨v, hv⟩ : ∃ v, sumR X = v := ⟨_, rfl⟩
  rw [hv] at HL hw t1
  clear h hk ho hv s0 s1 hl hN h0 h1 hj hb0 hX hm hNm hy hd
  go_enter Tryd.func7, Tryd.ntmps7
  go_wp2_with (first | (go_at_call 19; refine HL.out.mono ?_; rintro e w1 ⟨rfl, hww⟩; have hwv := hww.symm; clear hww; subst hwv) | (at_builtin; refine wpList_append_own _ rfl _ _ 26 rfl _ 54 i0 (.agg #[.int .i64 0, .int .i64 0]) 2 16 Tryd.underlying26 hi hz0 hz1 hz2 rfl (by decide) _ 0 [] rfl HO.out ⟨ab, ao, asp⟩ N c (flatR X) rfl HFL.out HXF.out HON.out (by have := HLN.out; unfold maxLen; omega) (by have := HLN.out; omega) HB.out.size ?_))
  intro V2 W2 ho2 hg2 _
  have hb2 := HB.out.grown hg2 (by simp) (fun j hj => (HO.out.lt j hj).1)
  try simp only [Nat.zero_add, List.nil_append] at ho2
  obtain ⟨A2, c2, hV2⟩ := own_slice ho2
  subst hV2
  have hkk : X[m]? = some y := by rw [HX.out, ← HM.out, List.getElem?_append_right (Nat.le_refl _)]; simp
  obtain ⟨ax, rfl, -, -⟩ := own_rat ho2 m y hkk
  obtain ⟨hax, -, -⟩ := own_at ho2 ax rfl
  obtain ⟨g2, hg2e⟩ : ∃ q, ax.block = q := ⟨_, rfl⟩
  rw [hg2e] at hax
  subst hax
  have hdd := HD.out W2 g2 c2 ho2
  obtain ⟨d1, d2, d3⟩ := hdd
  have HO2 := Lib.hid ho2
  have HB2 := Lib.hid hb2
  clear ho2 hb2 hg2 hkk hg2e HO HB HXF HFL HON
  go_wp2
  go_ret2
  have hst := HO2.out.stored (m * 2 + 1) (.int .i64 (y.c + n))
  rw [HX.out, ← HM.out, set_count, HM.out] at hst
  refine ⟨_, N, c2, rfl, by rw [List.length_append, List.length_singleton, HM.out]; exact HNM.out.symm, own_rx hst.1, ?_, own_nilc hst.1⟩
  exact HB2.out.grown hst.2 HB2.out.size (fun j hj => (HO2.out.lt j hj).1)
set_option maxRecDepth 4000 in
set_option maxHeartbeats 1600000 in
theorem radd_diff (h : RX w A X) (ho : OkX X) (N : Nat) (hN : X.length = N) (h0 : 0 < n) (h1 : n ≤ 1073741824 - sumR X) (Y : List RW) (y : RW) (hX : X = Y ++ [y]) (hy : ¬ y.i = i) (ad : Addr) (hA : A = some ad) : Calls Tryd.prog 7 #[.slice A N c, .int .i64 i, .int .i64 n] w (RAddPost w X i n) := by
  obtain ⟨i0, hi, hz0, hz1, hz2⟩ := info_parts infoR27
  have s0 := ho.sum0
  have s1 := ho.sum
  have hk : okX X n = true := (okX_iff _ _).2 ⟨by omega, by omega⟩
  have hj : joinX X i n = X ++ [⟨i, n⟩] := by rw [hX, join_snoc _ _ _ _ (by omega), if_neg hy]
  unfold RAddPost
  rw [hk, add_yes _ hk, hj]
  have HL := Lib.hid (rlen_any (c := c) h ho N hN)
  have hw : IntKind.i64.wrap (1073741824 - sumR X) = 1073741824 - sumR X := IntWalk.i64_in _ (by omega)
  have t0 : decide (n < 0) = false := decide_eq_false (by omega)
  have t1 : decide (1073741824 - sumR X < n) = false := decide_eq_false (by omega)
  have t2 : (n == 0) = false := by simp; omega
  have hl := ho.len
  rw [hN] at hl
  have HLN : Hid (N ≤ 1073741824) := hl
  have HN := Lib.hid hN
  subst hA
  have hNm : N = Y.length + 1 := by rw [← hN, hX]; simp
  obtain ⟨m, hm⟩ : ∃ m, Y.length = m := ⟨_, rfl⟩
  rw [hm] at hNm
  have hwl : IntKind.i64.wrap ((N : Int) - 1) = (m : Int) := by rw [show (N : Int) - 1 = (m : Int) by omega]; exact IntWalk.i64_in _ (by omega)
  have t3 : decide ((0 : Int) ≤ (m : Int)) = true := decide_eq_true (by omega)
  have t4 : (0 : Int) ≤ (m : Int) := by omega
  have t5 : (m : Int) < (N : Int) := by omega
  have HX := Lib.hid hX
  have HM := Lib.hid hm
  have HNM := Lib.hid hNm
  have t6 : (y.i == i) = false := by simp [hy]
  have hd : ∀ (W : World) (g2 c2 : Nat), W.ownsRow w.heap.size 54 2 (.slice (some ⟨g2, 0, none⟩) N c2) N (flatR X) → W.cell? ⟨g2, m * 2, none⟩ = some (.int .i64 y.i) := fun W g2 c2 hw => by
    have hkk : X[m]? = some y := by rw [hX, ← hm, List.getElem?_append_right (Nat.le_refl _)]; simp
    exact (hw.cellAt _ (by omega)).trans ((flatR_get X m y 0 hkk (by omega)).trans rfl)
  have HD := Lib.hid hd
  have hb0 : Below w.heap.size w (w.alloc (.cells #[] 54)) := below_al w _
  have HB := Lib.hid hb0
  have HO : Hid ((w.alloc (.cells #[] 54)).ownsRow w.heap.size 54 2 (.slice (some ⟨w.heap.size, 0, none⟩) 0 0) 0 []) := World.ownsRow_lit w #[] 0 (Nat.le_refl _) (Nat.zero_le _) rfl
  have HXF := Lib.hid (cells_flat (h.keep hb0).rat)
  have hfl := flatR_len X
  rw [hN] at hfl
  have HFL := Lib.hid hfl
  have HON := Lib.hid (flatR_one X)
  obtain ⟨ab, ao, asp⟩ := ad
  clear hfl
  obtain ⟨v, hv⟩ : ∃ v, sumR X = v := ⟨_, rfl⟩
  rw [hv] at HL hw t1
  clear h hk ho hv s0 s1 hl hN h0 h1 hj hb0 hX hm hNm hy hd
  go_enter Tryd.func7, Tryd.ntmps7
  go_wp2_with (first | (go_at_call 19; refine HL.out.mono ?_; rintro e w1 ⟨rfl, hww⟩; have hwv := hww.symm; clear hww; subst hwv) | (at_builtin; refine wpList_append_own _ rfl _ _ 26 rfl _ 54 i0 (.agg #[.int .i64 0, .int .i64 0]) 2 16 Tryd.underlying26 hi hz0 hz1 hz2 rfl (by decide) _ 0 [] rfl HO.out ⟨ab, ao, asp⟩ N c (flatR X) rfl HFL.out HXF.out HON.out (by have := HLN.out; unfold maxLen; omega) (by have := HLN.out; omega) HB.out.size ?_))
  intro V2 W2 ho2 hg2 _
  have hb2 := HB.out.grown hg2 (by simp) (fun j hj => (HO.out.lt j hj).1)
  try simp only [Nat.zero_add, List.nil_append] at ho2
  obtain ⟨A2, c2, hV2⟩ := own_slice ho2
  subst hV2
  have hkk : X[m]? = some y := by rw [HX.out, ← HM.out, List.getElem?_append_right (Nat.le_refl _)]; simp
  obtain ⟨ax, rfl, -, -⟩ := own_rat ho2 m y hkk
  obtain ⟨hax, -, -⟩ := own_at ho2 ax rfl
  obtain ⟨g2, hg2e⟩ : ∃ q, ax.block = q := ⟨_, rfl⟩
  rw [hg2e] at hax
  subst hax
  have hdd := HD.out W2 g2 c2 ho2
  have HO2 := Lib.hid ho2
  have HB2 := Lib.hid hb2
  have HR := Lib.hid (HO2.out.alloc (.cells #[.int .i64 i, .int .i64 n] 54))
  have HBR := Lib.hid (HB2.out.trans ((below_al W2 (.cells #[.int .i64 i, .int .i64 n] 54)).mono HB2.out.size))
  clear ho2 hb2 hg2 hkk hg2e HO HB HXF HFL HON
  go_upto_region 11 with fail
  go_wp2_with (at_builtin; refine wpList_append_own _ rfl _ _ 26 rfl _ 54 i0 (.agg #[.int .i64 0, .int .i64 0]) 2 16 Tryd.underlying26 hi hz0 hz1 hz2 rfl (by decide) _ _ _ rfl HR.out ⟨W2.heap.size, 0, none⟩ 1 1 [.int .i64 i, .int .i64 n] rfl rfl (new2W W2 _ _ _ _ rfl) (one2W _ _) (by have := HLN.out; unfold maxLen; omega) (by have := HLN.out; omega) HBR.out.size ?_)
  intro V3 W3 ho3 hg3 _
  have HB3 := Lib.hid (HBR.out.grown hg3 HBR.out.size (fun j hj => (HR.out.lt j hj).1))
  have HO3 := Lib.hid ho3
  obtain ⟨A3, c3, hV3⟩ := own_slice ho3
  subst hV3
  clear ho3 hg3
  go_wp2
  go_ret2
  exact ⟨A3, N + 1, c3, rfl, by rw [List.length_append, HN.out]; rfl, own_rx (by rw [flatR_snoc]; exact HO3.out), HB3.out, own_nilc HO3.out⟩
theorem radd_any (h : RX w A X) (ho : OkX X) (hc : A = none → c = 0) (i n : Int) (N : Nat) (hN : X.length = N) : Calls Tryd.prog 7 #[.slice A N c, .int .i64 i, .int .i64 n] w (RAddPost w X i n) := by
  by_cases h0 : n < 0
  · exact radd_low h hc N hN h0
  by_cases h1 : 1073741824 - sumR X < n
  · exact radd_many h hc ho N hN (by omega) h1
  by_cases h2 : n = 0
  · subst h2; exact radd_zero h hc ho N hN
  rcases snoc_cases X with hX | ⟨Y, y, hX⟩
  · cases A with
    | none => exact radd_nil_none h ho N hN (by omega) (by omega) hX rfl (hc rfl)
    | some ad => exact radd_nil_some h ho N hN (by omega) (by omega) hX ad rfl
  · cases A with
    | none => have := h.none_nil; rw [this] at hX; simp at hX
    | some ad =>
      by_cases hy : y.i = i
      · exact radd_same h ho N hN (by omega) (by omega) Y y hX hy ad rfl
      · exact radd_diff h ho N hN (by omega) (by omega) Y y hX hy ad rfl
end

end Go.Proofs.YtilkicbokfgjlaaDoor.Stp
