
/- What stands behind the loops of the document's Get of a header. No condition. -/

import Derived.Test.YteadednglodgpaaDoorHdrH

import Derived.Test.YteadednglodgpaaDoorHdrE

namespace Go.Proofs.YteadednglodgpaaDoor.Hdr

open Go.RowKit Go.PlainAid Go.Proofs.YteadednglodgpaaDoor.Oct Go.Proofs.YteadednglodgpaaDoor.Flt Go.Proofs.YteadednglodgpaaDoor.Rdr

set_option linter.unusedVariables false

set_option linter.unusedSimpArgs false

def dropSeq : Nat → Code → Code
  | 0, c => c
  | n + 1, .seq _ b => dropSeq n b
  | _, c => c
noncomputable def tailGet : Code := dropSeq 10 ((Tryd.f19.body).getD .skip)
def VP (T : St) (h : H7) (w : World) (e : Ending) (w' : World) : Prop := e = .returned (.tuple #[.agg (rdC T), .agg (hdC h)]) ∧ Below w.heap.size w w'
set_option maxRecDepth 100000 in
set_option maxHeartbeats 1600000 in
theorem tail_bad (w wr : World) (T8 : St) (H : Nat) (h7 : H7) (c0 c4 c5 c6 c7 c9 c10 c11 c12 c13 c14 c15 c16 c17 c18 c19 c20 c21 c22 c23 c24 c25 c26 c27 c28 c29 c30 c31 c32 c33 c34 c35 c36 c37 c38 c39 c40 c41 c42 c43 c44 c45 c46 c47 c48 c49 c50 c51 c52 c53 c54 c55 c56 c57 c58 c59 c60 c61 c62 c63 c64 c65 c66 c67 c68 c69 c70 c71 c72 c73 c74 c75 c76 c77 c78 c79 c80 c81 c82 c83 c84 c85 c86 c87 c88 c89 c90 c91 c92 c93 c94 c95 c96 c97 c98 c99 c100 c101 c102 c103 c104 c105 c106 c107 c108 c109 c110 c111 c112 c113 c114 c115 c116 c117 c118 c119 c120 c121 c122 c123 c124 c125 : Value) (hg : G2 w T8 H (hdC h7) wr) (hk : T8.k ≠ 0) (R : Ending → World → Prop) (hR : ∀ e w', VP T8 hdZ w e w' → R e w') :
    Code.wp Tryd.prog tailGet (bodyPost Tryd.prog Tryd.f19 R) ⟨#[c0, .pointer (some ⟨w.heap.size, 0, none⟩), .pointer (some ⟨w.heap.size + 1, 0, none⟩), .pointer (some ⟨w.heap.size + 1 + 1, 0, none⟩), c4, c5, c6, c7, .pointer (some ⟨H, 0, none⟩), c9, c10, c11, c12, c13, c14, c15, c16, c17, c18, c19, c20, c21, c22, c23, c24, c25, c26, c27, c28, c29, c30, c31, c32, c33, c34, c35, c36, c37, c38, c39, c40, c41, c42, c43, c44, c45, c46, c47, c48, c49, c50, c51, c52, c53, c54, c55, c56, c57, c58, c59, c60, c61, c62, c63, c64, c65, c66, c67, c68, c69, c70, c71, c72, c73, c74, c75, c76, c77, c78, c79, c80, c81, c82, c83, c84, c85, c86, c87, c88, c89, c90, c91, c92, c93, c94, c95, c96, c97, c98, c99, c100, c101, c102, c103, c104, c105, c106, c107, c108, c109, c110, c111, c112, c113, c114, c115, c116, c117, c118, c119, c120, c121, c122, c123, c124, c125], []⟩ wr := by
  have hk8 : wr.cell? ⟨w.heap.size, 3, none⟩ = some (.int .i64 T8.k) := hg.gf.rows.2
  have HG5 := Lib.hid hg
  obtain ⟨KK, hKK⟩ : ∃ x : Int, (T8.k : Int) = x := ⟨_, rfl⟩
  have tn : (KK != 0) = true := by simp; omega
  rw [hKK] at hk8
  have HE1 := Lib.hid (setRow_heap wr _ _ (rdC T8) _ _ HG5.out.gf.res)
  have HE2 : Hid ((wr.setRow (w.heap.size + 1) (rdC T8)).heap[w.heap.size + 1 + 1]? = some (.cells hd0 36 (0, 0))) := (setRow_other _ _ _ _ (by omega)).trans HG5.out.gf.hres
  have HE3 := Lib.hid ((setRow_other (wr.setRow (w.heap.size + 1) (rdC T8)) (w.heap.size + 1 + 1) (w.heap.size + 1) hd0 (by omega)).trans HE1.out)
  have HE4 := Lib.hid (setRow_heap (wr.setRow (w.heap.size + 1) (rdC T8)) _ _ hd0 _ _ HE2.out)
  have HR := Lib.hid hR
  clear hKK hk hg hR
  conv => arg 2; whnf
  go_wp2_with (first
    | ((with_reducible show wpList _ _ _ _ _ _); refine wpList_load_row rfl 48 (.tmp 1) rfl w.heap.size rfl 48 (rdC T8) (0, 0) _ HG5.out.gf.row Tryd.underlying48 rfl (by rw [size_rd]; rfl) ?_)
    | ((with_reducible show wpList _ _ _ _ _ _); refine wpList_store_row rfl 48 (.tmp 2) (.tmp 122) rfl (w.heap.size + 1) (rdC T8) rfl rfl 48 rd0 HG5.out.gf.res (by rw [size_rd]; rfl) rfl (one_rd _) ?_)
    | ((with_reducible show wpList _ _ _ _ _ _); refine wpList_store_row rfl 36 (.tmp 3) (.tmp 123) rfl (w.heap.size + 1 + 1) hd0 rfl rfl 36 hd0 HE2.out (by rw [size_rhd]; rfl) rfl (one_hd hdZ) ?_))
  refine bodyPost_ret (v := .tuple #[.agg (rdC T8), .agg hd0]) (results_row_row (fn := Tryd.f19) (p := 2) (q := 3) (ty := 48) (ty' := 36) rfl _ _ (w.heap.size + 1) 48 _ (0, 0) _ rfl HE3.out Tryd.underlying48 rfl (by rw [size_rd]; rfl) (w.heap.size + 1 + 1) 36 _ (0, 0) _ rfl HE4.out Tryd.underlying36 rfl (by rw [size_rhd]; rfl)) rfl ?_
  exact HR.out _ _ ⟨rfl, below_set2 (below_set2 HG5.out.gf.below (by omega)) (by omega)⟩

set_option maxRecDepth 100000 in
set_option maxHeartbeats 1600000 in
theorem tail_ok (w wr : World) (T8 : St) (H : Nat) (h7 : H7) (c0 c4 c5 c6 c7 c9 c10 c11 c12 c13 c14 c15 c16 c17 c18 c19 c20 c21 c22 c23 c24 c25 c26 c27 c28 c29 c30 c31 c32 c33 c34 c35 c36 c37 c38 c39 c40 c41 c42 c43 c44 c45 c46 c47 c48 c49 c50 c51 c52 c53 c54 c55 c56 c57 c58 c59 c60 c61 c62 c63 c64 c65 c66 c67 c68 c69 c70 c71 c72 c73 c74 c75 c76 c77 c78 c79 c80 c81 c82 c83 c84 c85 c86 c87 c88 c89 c90 c91 c92 c93 c94 c95 c96 c97 c98 c99 c100 c101 c102 c103 c104 c105 c106 c107 c108 c109 c110 c111 c112 c113 c114 c115 c116 c117 c118 c119 c120 c121 c122 c123 c124 c125 : Value) (hg : G2 w T8 H (hdC h7) wr) (hk : T8.k = 0) (R : Ending → World → Prop) (hR : ∀ e w', VP T8 h7 w e w' → R e w') :
    Code.wp Tryd.prog tailGet (bodyPost Tryd.prog Tryd.f19 R) ⟨#[c0, .pointer (some ⟨w.heap.size, 0, none⟩), .pointer (some ⟨w.heap.size + 1, 0, none⟩), .pointer (some ⟨w.heap.size + 1 + 1, 0, none⟩), c4, c5, c6, c7, .pointer (some ⟨H, 0, none⟩), c9, c10, c11, c12, c13, c14, c15, c16, c17, c18, c19, c20, c21, c22, c23, c24, c25, c26, c27, c28, c29, c30, c31, c32, c33, c34, c35, c36, c37, c38, c39, c40, c41, c42, c43, c44, c45, c46, c47, c48, c49, c50, c51, c52, c53, c54, c55, c56, c57, c58, c59, c60, c61, c62, c63, c64, c65, c66, c67, c68, c69, c70, c71, c72, c73, c74, c75, c76, c77, c78, c79, c80, c81, c82, c83, c84, c85, c86, c87, c88, c89, c90, c91, c92, c93, c94, c95, c96, c97, c98, c99, c100, c101, c102, c103, c104, c105, c106, c107, c108, c109, c110, c111, c112, c113, c114, c115, c116, c117, c118, c119, c120, c121, c122, c123, c124, c125], []⟩ wr := by
  have hk8 : wr.cell? ⟨w.heap.size, 3, none⟩ = some (.int .i64 T8.k) := hg.gf.rows.2
  have HG5 := Lib.hid hg
  obtain ⟨KK, hKK⟩ : ∃ x : Int, (T8.k : Int) = x := ⟨_, rfl⟩
  have tn : (KK != 0) = false := by simp; omega
  rw [hKK] at hk8
  have HO26 := Lib.hid (one_hd h7)
  obtain ⟨HV7, hv7⟩ : ∃ c, hdC h7 = c := ⟨_, rfl⟩
  have HV7E := Lib.hid hv7
  have HV7S : Hid (some 7 = some HV7.size) := by show _ = _; rw [← hv7]; rfl
  have HV7S' : Hid (7 = HV7.size) := by show _ = _; rw [← hv7]; rfl
  have HV7O : Hid (HV7.all (·.oneCell') = true) := by show _ = _; rw [← hv7]; exact HO26.out
  rw [hv7] at HG5
  have HGD : Hid (G2 w T8 H HV7 wr.drew) := HG5.out.keep ⟨rfl, rfl, rfl, Nat.le_refl _, fun _ _ => rfl⟩
  have HE1 := Lib.hid (setRow_heap wr.drew _ _ (rdC T8) _ _ HGD.out.gf.res)
  have HE2 : Hid ((wr.drew.setRow (w.heap.size + 1) (rdC T8)).heap[w.heap.size + 1 + 1]? = some (.cells hd0 36 (0, 0))) := (setRow_other _ _ _ _ (by omega)).trans HGD.out.gf.hres
  have HE3 := Lib.hid ((setRow_other (wr.drew.setRow (w.heap.size + 1) (rdC T8)) (w.heap.size + 1 + 1) (w.heap.size + 1) HV7 (by omega)).trans HE1.out)
  have HE4 := Lib.hid (setRow_heap (wr.drew.setRow (w.heap.size + 1) (rdC T8)) _ _ HV7 _ _ HE2.out)
  have HR := Lib.hid hR
  clear hKK hk hg hv7 hR
  conv => arg 2; whnf
  go_wp2
  refine wp_region_any (by kernel_rfl) ?_
  try (change wpAny _ _ _ _ _ _ _ (World.drew _))
  have HE5 : Hid ((wr.drew.setRow (w.heap.size + 1) (rdC T8)).heap[H]? = some (.cells HV7 36 (0, 0))) := (setRow_other _ _ _ _ (by have := HGD.out.lt; omega)).trans HGD.out.hdr
  refine wpAny_ready (rs := [0, 1]) (by kernel_rfl) (by simp) ?_
  refine AllReady.cons rfl (fun K hK => ?_) (AllReady.cons rfl (fun K hK => ?_) AllReady.nil)
  · skip
    refine Eq.mpr (if_pos (by rfl)) ?_
    simp only [List.getElem_toArray, List.getElem_cons_zero, List.getElem_cons_succ, Act.put, List.setIfInBounds_toArray, List.set_cons_zero, List.set_cons_succ]
    refine wp_load_row 48 (.tmp 1) rfl w.heap.size rfl 48 (rdC T8) (0, 0) _ HGD.out.gf.row Tryd.underlying48 rfl (by rw [size_rd]; rfl) (hK _ _ ?_); clear hK K
    refine wpAny_ready (rs := [1, 2]) (by kernel_rfl) (by simp) ?_
    refine AllReady.cons rfl (fun K hK => ?_) (AllReady.cons rfl (fun K hK => ?_) AllReady.nil)
    · skip
      refine Eq.mpr (if_pos (by rfl)) ?_
      simp only [List.getElem_toArray, List.getElem_cons_zero, List.getElem_cons_succ, Act.put, List.setIfInBounds_toArray, List.set_cons_zero, List.set_cons_succ]
      refine wp_load_row 36 (.tmp 8) rfl H rfl 36 HV7 (0, 0) _ HGD.out.hdr Tryd.underlying36 rfl (by rw [size_rhd]; exact HV7S.out) (hK _ _ ?_); clear hK K
      refine wpAny_ready (rs := [2]) (by kernel_rfl) (by simp) ?_
      refine AllReady.cons rfl (fun K hK => ?_) AllReady.nil
      refine Eq.mpr (if_pos (by rfl)) ?_
      simp only [List.getElem_toArray, List.getElem_cons_zero, List.getElem_cons_succ, Act.put, List.setIfInBounds_toArray, List.set_cons_zero, List.set_cons_succ]
      refine wp_store_row 48 (.tmp 2) (.tmp 124) rfl (w.heap.size + 1) (rdC T8) rfl rfl 48 rd0 HGD.out.gf.res (by rw [size_rd]; rfl) rfl (one_rd _) (hK _ _ ?_); clear hK K
      refine wpAny_ready (rs := [3]) (by kernel_rfl) (by simp) ?_
      refine AllReady.cons rfl (fun K hK => ?_) AllReady.nil
      refine Eq.mpr (if_pos (by rfl)) ?_
      simp only [List.getElem_toArray, List.getElem_cons_zero, List.getElem_cons_succ, Act.put, List.setIfInBounds_toArray, List.set_cons_zero, List.set_cons_succ]
      refine wp_store_row 36 (.tmp 3) (.tmp 125) rfl (w.heap.size + 1 + 1) HV7 rfl rfl 36 hd0 HE2.out (by rw [size_rhd]; exact HV7S.out) (by rw [← HV7S'.out]; rfl) HV7O.out (hK _ _ ?_); clear hK K
      refine wpAny_done (by kernel_rfl) ?_ _
      go_wp2
      refine bodyPost_ret (v := .tuple #[.agg (rdC T8), .agg HV7]) (results_row_row (fn := Tryd.f19) (p := 2) (q := 3) (ty := 48) (ty' := 36) rfl _ _ (w.heap.size + 1) 48 _ (0, 0) _ rfl HE3.out Tryd.underlying48 rfl (by rw [size_rd]; rfl) (w.heap.size + 1 + 1) 36 _ (0, 0) _ rfl HE4.out Tryd.underlying36 rfl (by rw [size_rhd]; exact HV7S.out)) rfl ?_
      refine HR.out _ _ ⟨?_, below_set2 (below_set2 HGD.out.gf.below (by omega)) (by omega)⟩
      rw [← HV7E.out]
    · skip
      refine Eq.mpr (if_pos (by rfl)) ?_
      simp only [List.getElem_toArray, List.getElem_cons_zero, List.getElem_cons_succ, Act.put, List.setIfInBounds_toArray, List.set_cons_zero, List.set_cons_succ]
      refine wp_store_row 48 (.tmp 2) (.tmp 124) rfl (w.heap.size + 1) (rdC T8) rfl rfl 48 rd0 HGD.out.gf.res (by rw [size_rd]; rfl) rfl (one_rd _) (hK _ _ ?_); clear hK K
      refine wpAny_ready (rs := [1]) (by kernel_rfl) (by simp) ?_
      refine AllReady.cons rfl (fun K hK => ?_) AllReady.nil
      refine Eq.mpr (if_pos (by rfl)) ?_
      simp only [List.getElem_toArray, List.getElem_cons_zero, List.getElem_cons_succ, Act.put, List.setIfInBounds_toArray, List.set_cons_zero, List.set_cons_succ]
      refine wp_load_row 36 (.tmp 8) rfl H rfl 36 HV7 (0, 0) _ HE5.out Tryd.underlying36 rfl (by rw [size_rhd]; exact HV7S.out) (hK _ _ ?_); clear hK K
      refine wpAny_ready (rs := [3]) (by kernel_rfl) (by simp) ?_
      refine AllReady.cons rfl (fun K hK => ?_) AllReady.nil
      refine Eq.mpr (if_pos (by rfl)) ?_
      simp only [List.getElem_toArray, List.getElem_cons_zero, List.getElem_cons_succ, Act.put, List.setIfInBounds_toArray, List.set_cons_zero, List.set_cons_succ]
      refine wp_store_row 36 (.tmp 3) (.tmp 125) rfl (w.heap.size + 1 + 1) HV7 rfl rfl 36 hd0 HE2.out (by rw [size_rhd]; exact HV7S.out) (by rw [← HV7S'.out]; rfl) HV7O.out (hK _ _ ?_); clear hK K
      refine wpAny_done (by kernel_rfl) ?_ _
      go_wp2
      refine bodyPost_ret (v := .tuple #[.agg (rdC T8), .agg HV7]) (results_row_row (fn := Tryd.f19) (p := 2) (q := 3) (ty := 48) (ty' := 36) rfl _ _ (w.heap.size + 1) 48 _ (0, 0) _ rfl HE3.out Tryd.underlying48 rfl (by rw [size_rd]; rfl) (w.heap.size + 1 + 1) 36 _ (0, 0) _ rfl HE4.out Tryd.underlying36 rfl (by rw [size_rhd]; exact HV7S.out)) rfl ?_
      refine HR.out _ _ ⟨?_, below_set2 (below_set2 HGD.out.gf.below (by omega)) (by omega)⟩
      rw [← HV7E.out]
  · skip
    refine Eq.mpr (if_pos (by rfl)) ?_
    simp only [List.getElem_toArray, List.getElem_cons_zero, List.getElem_cons_succ, Act.put, List.setIfInBounds_toArray, List.set_cons_zero, List.set_cons_succ]
    refine wp_load_row 36 (.tmp 8) rfl H rfl 36 HV7 (0, 0) _ HGD.out.hdr Tryd.underlying36 rfl (by rw [size_rhd]; exact HV7S.out) (hK _ _ ?_); clear hK K
    refine wpAny_ready (rs := [0]) (by kernel_rfl) (by simp) ?_
    refine AllReady.cons rfl (fun K hK => ?_) AllReady.nil
    refine Eq.mpr (if_pos (by rfl)) ?_
    simp only [List.getElem_toArray, List.getElem_cons_zero, List.getElem_cons_succ, Act.put, List.setIfInBounds_toArray, List.set_cons_zero, List.set_cons_succ]
    refine wp_load_row 48 (.tmp 1) rfl w.heap.size rfl 48 (rdC T8) (0, 0) _ HGD.out.gf.row Tryd.underlying48 rfl (by rw [size_rd]; rfl) (hK _ _ ?_); clear hK K
    refine wpAny_ready (rs := [2]) (by kernel_rfl) (by simp) ?_
    refine AllReady.cons rfl (fun K hK => ?_) AllReady.nil
    refine Eq.mpr (if_pos (by rfl)) ?_
    simp only [List.getElem_toArray, List.getElem_cons_zero, List.getElem_cons_succ, Act.put, List.setIfInBounds_toArray, List.set_cons_zero, List.set_cons_succ]
    refine wp_store_row 48 (.tmp 2) (.tmp 124) rfl (w.heap.size + 1) (rdC T8) rfl rfl 48 rd0 HGD.out.gf.res (by rw [size_rd]; rfl) rfl (one_rd _) (hK _ _ ?_); clear hK K
    refine wpAny_ready (rs := [3]) (by kernel_rfl) (by simp) ?_
    refine AllReady.cons rfl (fun K hK => ?_) AllReady.nil
    refine Eq.mpr (if_pos (by rfl)) ?_
    simp only [List.getElem_toArray, List.getElem_cons_zero, List.getElem_cons_succ, Act.put, List.setIfInBounds_toArray, List.set_cons_zero, List.set_cons_succ]
    refine wp_store_row 36 (.tmp 3) (.tmp 125) rfl (w.heap.size + 1 + 1) HV7 rfl rfl 36 hd0 HE2.out (by rw [size_rhd]; exact HV7S.out) (by rw [← HV7S'.out]; rfl) HV7O.out (hK _ _ ?_); clear hK K
    refine wpAny_done (by kernel_rfl) ?_ _
    go_wp2
    refine bodyPost_ret (v := .tuple #[.agg (rdC T8), .agg HV7]) (results_row_row (fn := Tryd.f19) (p := 2) (q := 3) (ty := 48) (ty' := 36) rfl _ _ (w.heap.size + 1) 48 _ (0, 0) _ rfl HE3.out Tryd.underlying48 rfl (by rw [size_rd]; rfl) (w.heap.size + 1 + 1) 36 _ (0, 0) _ rfl HE4.out Tryd.underlying36 rfl (by rw [size_rhd]; exact HV7S.out)) rfl ?_
    refine HR.out _ _ ⟨?_, below_set2 (below_set2 HGD.out.gf.below (by omega)) (by omega)⟩
    rw [← HV7E.out]
end Go.Proofs.YteadednglodgpaaDoor.Hdr
