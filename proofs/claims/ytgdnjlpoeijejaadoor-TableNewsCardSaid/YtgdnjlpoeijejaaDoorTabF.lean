
/- Tables: the runs of a word, and where another one's ticks begin, as the document tells it. Condition: at most 1,048,576 ticks. -/

import Derived.Test.YtgdnjlpoeijejaaDoorTabD

namespace Go.Proofs.YtgdnjlpoeijejaaDoor.Tab

open Go.RowKit Go.PlainAid Go.Proofs.YtgdnjlpoeijejaaDoor.Oct Go.Proofs.YtgdnjlpoeijejaaDoor.Flt Go.Proofs.YtgdnjlpoeijejaaDoor.Rdr Go.Proofs.YtgdnjlpoeijejaaDoor.Args Go.Proofs.YtgdnjlpoeijejaaDoor.Win

open Go.Proofs.YtgdnjlpoeijejaaDoor.Act (A3 actL flatA flatA_snoc flatA_get flatA_len ActsAt I64 Wide)

set_option linter.unusedVariables false

set_option linter.unusedSimpArgs false

theorem infoQ : (Tryd.prog.info? 47).map (fun i => (i.zero, i.size, i.bytes)) = some (some (.agg #[.int .i64 0, .int .i64 0, .int .i64 0]), 3, 24) := by kernel_rfl
/-- The document's runs, in a row of the call's own. -/
structure RQ (f : Int → Int) (k : Nat) (V : Value) (w wr : World) : Prop where
  own : wr.ownsRow w.heap.size 47 3 V (runsD f k).length (flatA (runsD f k))
  below : Below w.heap.size w wr
theorem RQ.keep {f : Int → Int} {k : Nat} {V : Value} {w wr w' : World} (h : RQ f k V w wr) (b : Below wr.heap.size wr w') : RQ f k V w w' := ⟨owns_kept h.own b, h.below.trans (b.mono h.below.size)⟩
def RqRel (f : Int → Int) (n : Nat) (w : World) (t v : Value) (wr : World) : Prop := ∃ (k : Nat) (A : Option Addr) (c : Nat), k ≤ n ∧ t = .int .i64 (k : Int) ∧ v = .slice A (runsD f k).length c ∧ RQ f k v w wr
set_option maxRecDepth 8000 in
set_option maxHeartbeats 6400000 in
theorem rruns_any (ws : List Int) (f : Int → Int) (VB n c : Nat) (B0 : Nat) (w : World) (ho : w.ownsRow B0 3 1 (.slice (some ⟨VB, 0, none⟩) n c) n (ws.map (Value.int .i64))) (hf : ∀ j : Nat, j < n → ws[j]? = some (f (j : Int))) (hn : ws.length = n) (hl : n ≤ 1048576) :
    Calls Tryd.prog 12 #[.slice (some ⟨VB, 0, none⟩) n c] w fun e w' => ∃ V, e = .returned V ∧ w'.ownsRow w.heap.size 47 3 V (runsD f n).length (flatA (runsD f n)) ∧ Below w.heap.size w w' := by
  obtain ⟨i0, hi, hz0, hz1, hz2⟩ := info_parts infoQ
  have hgl := (ho.lt VB rfl).2
  have HCELL : Hid (∀ (wr : World), Below w.heap.size w wr → ∀ j : Nat, j < n → wr.cell? ⟨VB, j, none⟩ = some (.int .i64 (f (j : Int)))) := fun wr hb j hj => by
    have hc := ho.cellAt j (by omega)
    rw [List.getElem?_map, hf j hj] at hc
    exact (hb.cell (p := ⟨VB, j, none⟩) hgl).trans hc
  have HSM := Lib.hid (fun (e : Nat) (he : e ≤ 1048576) => runs_small f e he)
  have HRL := Lib.hid (runs_len f)
  have HL : Hid (n ≤ 1048576) := hl
  have hb0 : Below w.heap.size w (w.alloc (.cells #[] 47)) := (Below.refl _ _).alloc (Nat.le_refl _) _
  have HR0 : Hid (RQ f 0 (.slice (some ⟨w.heap.size, 0, none⟩) 0 0) w (w.alloc (.cells #[] 47))) := ⟨World.ownsRow_lit w #[] 0 (Nat.le_refl _) (Nat.zero_le _) rfl, hb0⟩
  clear ho hf hn hl hgl hb0
  go_enter Tryd.func12, Tryd.ntmps12
  go_wp2_with fail
  go_loopw [4, 3] (fun t v wr => RqRel f n w t v wr) (fun t _ _ => n - (intOf t).toNat)
  case atStart => exact ⟨0, _, _, Nat.zero_le _, rfl, rfl, HR0.out⟩
  case round =>
    obtain ⟨k, A, c', hk, rfl, rfl, hrq⟩ := hrel
    have HRQ := Lib.hid hrq
    have hlen := HRL.out k
    have hl := HL.out
    clear hrq HR0
    by_cases hlt : k < n
    · have hcw := HCELL.out wr HRQ.out.below k hlt
      have hki : (0 : Int) ≤ k := by omega
      have hkb : (k : Int) < n := by omega
      have hk1 : IntKind.i64.wrap ((k : Int) + 1) = (k : Int) + 1 := IntWalk.i64_in _ (by omega)
      have hst : runsD f (k + 1) = joinR (runsD f k) ⟨f (k : Int), (k : Int), 1⟩ := rfl
      obtain ⟨fv, hfv⟩ : ∃ v, f (k : Int) = v := ⟨_, rfl⟩
      rw [hfv] at hcw hst
      rcases snoc_cases (runsD f k) with he | ⟨L', y, he⟩
      · rw [he, join_nil _ (by show (1 : Int) ≠ 0; omega)] at hst
        have HO : Hid (wr.ownsRow w.heap.size 47 3 (.slice A 0 c') 0 []) := by
          have h := HRQ.out.own
          rw [he] at h
          exact h
        have HB := Lib.hid HRQ.out.below
        have HST := Lib.hid hst
        rw [he]
        clear hst he hfv HRQ hlen
        go_wp2
        go_quiet (fail)
        have HO2 : Hid ((wr.drewN nq).ownsRow w.heap.size 47 3 (.slice A 0 c') 0 []) := owns_kept HO.out ⟨rfl, rfl, rfl, Nat.le_refl _, fun _ _ => rfl⟩
        have HB2 := Lib.hid (below_drewN HB.out nq)
        have e0 : (wr.drewN nq).cell? ⟨VB, k, none⟩ = some (.int .i64 fv) := hcw
        have hsz : w.heap.size ≤ (wr.drewN nq).heap.size := HB.out.size
        obtain ⟨W2, hW2⟩ : ∃ X, wr.drewN nq = X := ⟨_, rfl⟩
        rw [hW2] at HO2 HB2 e0 hsz
        rw [hW2]
        clear hW2 hcw HO HB
        have hrow := heap_alloc_new W2 (.cells #[.int .i64 fv, .int .i64 (k : Int), .int .i64 1] 47)
        have HR : Hid ((W2.alloc (.cells #[.int .i64 fv, .int .i64 (k : Int), .int .i64 1] 47)).ownsRow w.heap.size 47 3 (.slice A 0 c') 0 []) := HO2.out.alloc _
        have HBA := Lib.hid (HB2.out.alloc hsz (.cells #[.int .i64 fv, .int .i64 (k : Int), .int .i64 1] 47))
        have HSZ := Lib.hid hsz
        go_wp2_with (at_builtin; refine wpList_append_own _ rfl _ _ 41 rfl _ 47 i0 (.agg #[.int .i64 0, .int .i64 0, .int .i64 0]) 3 24 Tryd.underlying41 hi hz0 hz1 hz2 rfl (by decide) _ _ _ rfl HR.out ⟨W2.heap.size, 0, none⟩ 1 1 [.int .i64 fv, .int .i64 (k : Int), .int .i64 1] rfl rfl ?c1 ?c2 ?c3 ?c4 ?c5 ?_)
        case c1 =>
          intro j u hj
          have e : (Addr.mk W2.heap.size 0 none).add j = ⟨W2.heap.size, j, none⟩ := by cases j <;> simp [Addr.add]
          rw [e, cell_of_row _ _ _ _ _ _ hrow, ← hj]
          simp
        case c2 => intro u hu; simp at hu; rcases hu with rfl | rfl | rfl <;> rfl
        case c3 => unfold maxLen; omega
        case c4 => omega
        case c5 => have := HSZ.out; simp; omega
        intro V4 W4 ho4 hg4 _
        have HO4 : Hid (W4.ownsRow w.heap.size 47 3 V4 (runsD f (k + 1)).length (flatA (runsD f (k + 1)))) := by
          show World.ownsRow _ _ _ _ _ _ _
          have h := ho4
          rw [HST.out]
          exact h
        have HB4 := Lib.hid (HBA.out.grown hg4 HBA.out.size (fun j hj => (HR.out.lt j hj).1))
        obtain ⟨A4, c4, hV4⟩ := own_form ho4
        have HL4 : Hid ((runsD f (k + 1)).length = 0 + 1) := by show _ = _; rw [HST.out]; rfl
        subst hV4
        clear ho4 hg4
        go_wp2
        go_roundw
        case rel => exact ⟨k + 1, A4, c4, by omega, by go_num, by rw [HL4.out], ⟨by rw [HL4.out] at *; have h := HO4.out; first | exact h | (rw [HL4.out] at h; exact h), HB4.out⟩⟩
        case measure => simp [intOf]; omega
      · rw [he, join_snoc L' y _ (by show (1 : Int) ≠ 0; omega)] at hst
        dsimp only at hst
        obtain ⟨m, hm⟩ : ∃ m, L'.length = m := ⟨_, rfl⟩
        have hlen2 : (L' ++ [y]).length = m + 1 := by rw [List.length_append, hm]; rfl
        have ho1 := HRQ.out.own
        have hsm := HSM.out k (by omega) y (by rw [he]; simp)
        rw [he] at ho1 hlen
        rw [hlen2] at ho1 hlen
        have hA : ∃ g, A = some ⟨g, 0, none⟩ := by
          obtain ⟨g, c2, e⟩ := ownsRow_succ ho1
          cases e
          exact ⟨g, rfl⟩
        obtain ⟨g, rfl⟩ := hA
        rw [he, hlen2]
        have hgy : ∀ r, r < 3 → (flatA (L' ++ [y]))[m * 3 + r]? = (actL y)[r]? := fun r hr => flatA_get (L' ++ [y]) m y r (by rw [← hm]; simp) hr
        have d0 : wr.cell? ⟨g, m * 3, none⟩ = some (.int .i64 y.s) := (ho1.cellAt (m * 3) (by omega)).trans (hgy 0 (by omega))
        have d2 : wr.cell? ⟨g, m * 3 + 2, none⟩ = some (.int .i64 y.a) := (ho1.cellAt (m * 3 + 2) (by omega)).trans (hgy 2 (by omega))
        have f2 := ho1.frozenAt (m * 3 + 2)
        have hwa : IntKind.i64.wrap (y.a + 1) = y.a + 1 := IntWalk.i64_in _ (by omega)
        have hwm : IntKind.i64.wrap (((m + 1 : Nat) : Int) - 1) = (m : Int) := by rw [show ((m + 1 : Nat) : Int) - 1 = (m : Int) by omega]; exact IntWalk.i64_in _ (by omega)
        obtain ⟨n2, hn2⟩ : ∃ n, m + 1 = n := ⟨_, rfl⟩
        have HO : Hid (wr.ownsRow w.heap.size 47 3 (.slice (some ⟨g, 0, none⟩) n2 c') n2 (flatA (L' ++ [y]))) := by show World.ownsRow _ _ _ _ _ _ _; rw [← hn2]; exact ho1
        have HB := Lib.hid HRQ.out.below
        have HST := Lib.hid hst
        rw [hn2] at hwm hlen
        rw [show (m + 1 : Nat) = n2 from hn2]
        have hm0 : (0 : Int) ≤ m := by omega
        have hmn : (m : Int) < n2 := by omega
        have hn0 : (0 : Int) < n2 := by omega
        have tn0 : decide ((0 : Int) < (n2 : Int)) = true := decide_eq_true hn0
        have hn1 : 0 < n2 := by omega
        have HM : Hid (L'.length = m ∧ m + 1 = n2) := ⟨hm, hn2⟩
        by_cases hys : y.s = fv
        · have HYS := Lib.hid hys
          have hyb : (y.s == fv) = true := by simp [hys]
          obtain ⟨ys, hyse⟩ : ∃ v, y.s = v := ⟨_, rfl⟩
          obtain ⟨ya, hyae⟩ : ∃ v, y.a = v := ⟨_, rfl⟩
          rw [hyse] at d0 hyb
          rw [hyae] at d2 hwa
          have HYA := Lib.hid hyae
          clear hst he hfv HRQ ho1 hgy hlen2 hm hn2 hys hsm hyse hyae
          go_wp2
          go_quiet (fail)
          have e3 : (wr.drewN nq).cell? ⟨g, m * 3 + 2, none⟩ = some (.int .i64 ya) := d2
          have e4 : (wr.drewN nq).frozen? ⟨g, m * 3 + 2, none⟩ = false := f2
          have HO2 : Hid ((wr.drewN nq).ownsRow w.heap.size 47 3 (.slice (some ⟨g, 0, none⟩) n2 c') n2 (flatA (L' ++ [y]))) := owns_kept HO.out ⟨rfl, rfl, rfl, Nat.le_refl _, fun _ _ => rfl⟩
          have HB2 := Lib.hid (below_drewN HB.out nq)
          obtain ⟨W2, hW2⟩ : ∃ X, wr.drewN nq = X := ⟨_, rfl⟩
          rw [hW2] at HO2 HB2 e3 e4
          rw [hW2]
          clear hW2 hcw d0 d2 f2 HO HB
          have hst2 := HO2.out.stored (m * 3 + 2) (.int .i64 (ya + 1))
          have hfg := flat_grow L' y (ya + 1)
          rw [HM.out.1] at hfg
          rw [hfg] at hst2
          have HL4 : Hid ((runsD f (k + 1)).length = n2) := by show _ = _; rw [HST.out, if_pos HYS.out]; simp [HM.out.1]; exact HM.out.2
          have HQ3 : Hid (RQ f (k + 1) (.slice (some ⟨g, 0, none⟩) n2 c') w (W2.setCell ⟨g, m * 3 + 2, none⟩ (.int .i64 (ya + 1)))) := by
            refine ⟨?_, HB2.out.grown hst2.2 HB2.out.size (fun j hj => by cases hj; exact (HO2.out.lt g rfl).1)⟩
            have h := hst2.1
            rw [HL4.out, HST.out, if_pos HYS.out, HYA.out]
            exact h
          clear hst2 hfg
          go_wp2
          go_roundw
          case rel => exact ⟨k + 1, _, c', by omega, by go_num, by rw [HL4.out], HQ3.out⟩
          case measure => simp [intOf]; omega
        · have HYS : Hid (¬ y.s = fv) := hys
          have hyb : (y.s == fv) = false := by simp [hys]
          obtain ⟨ys, hyse⟩ : ∃ v, y.s = v := ⟨_, rfl⟩
          rw [hyse] at d0 hyb
          have hnl : n2 ≤ 1048576 := by omega
          clear hst he hfv HRQ ho1 hgy hlen2 hm hn2 hys hsm hyse d2 f2 hwa
          go_wp2
          go_quiet (fail)
          have HO2 : Hid ((wr.drewN nq).ownsRow w.heap.size 47 3 (.slice (some ⟨g, 0, none⟩) n2 c') n2 (flatA (L' ++ [y]))) := owns_kept HO.out ⟨rfl, rfl, rfl, Nat.le_refl _, fun _ _ => rfl⟩
          have HB2 := Lib.hid (below_drewN HB.out nq)
          have e0 : (wr.drewN nq).cell? ⟨VB, k, none⟩ = some (.int .i64 fv) := hcw
          have hsz : w.heap.size ≤ (wr.drewN nq).heap.size := HB.out.size
          obtain ⟨W2, hW2⟩ : ∃ X, wr.drewN nq = X := ⟨_, rfl⟩
          rw [hW2] at HO2 HB2 e0 hsz
          rw [hW2]
          clear hW2 hcw HO HB d0
          have hrow := heap_alloc_new W2 (.cells #[.int .i64 fv, .int .i64 (k : Int), .int .i64 1] 47)
          have HR : Hid ((W2.alloc (.cells #[.int .i64 fv, .int .i64 (k : Int), .int .i64 1] 47)).ownsRow w.heap.size 47 3 (.slice (some ⟨g, 0, none⟩) n2 c') n2 (flatA (L' ++ [y]))) := HO2.out.alloc _
          have HBA := Lib.hid (HB2.out.alloc hsz (.cells #[.int .i64 fv, .int .i64 (k : Int), .int .i64 1] 47))
          have HSZ := Lib.hid hsz
          go_wp2_with (at_builtin; refine wpList_append_own _ rfl _ _ 41 rfl _ 47 i0 (.agg #[.int .i64 0, .int .i64 0, .int .i64 0]) 3 24 Tryd.underlying41 hi hz0 hz1 hz2 rfl (by decide) _ _ _ rfl HR.out ⟨W2.heap.size, 0, none⟩ 1 1 [.int .i64 fv, .int .i64 (k : Int), .int .i64 1] rfl rfl ?c1 ?c2 ?c3 ?c4 ?c5 ?_)
          case c1 =>
            intro j u hj
            have e : (Addr.mk W2.heap.size 0 none).add j = ⟨W2.heap.size, j, none⟩ := by cases j <;> simp [Addr.add]
            rw [e, cell_of_row _ _ _ _ _ _ hrow, ← hj]
            simp
          case c2 => intro u hu; simp at hu; rcases hu with rfl | rfl | rfl <;> rfl
          case c3 => unfold maxLen; omega
          case c4 => omega
          case c5 => have := HSZ.out; simp; omega
          intro V4 W4 ho4 hg4 _
          have HO4 : Hid (W4.ownsRow w.heap.size 47 3 V4 (runsD f (k + 1)).length (flatA (runsD f (k + 1)))) := by
            show World.ownsRow _ _ _ _ _ _ _
            have h := ho4
            rw [HST.out, if_neg HYS.out]
            rw [show [Value.int .i64 fv, .int .i64 (k : Int), .int .i64 1] = flatA [⟨fv, (k : Int), 1⟩] from rfl, ← flat_app] at h
            have e : (L' ++ [y] ++ [(⟨fv, (k : Int), 1⟩ : A3)]).length = n2 + 1 := by simp [HM.out.1]; have := HM.out.2; omega
            rw [e]
            exact h
          have HB4 := Lib.hid (HBA.out.grown hg4 HBA.out.size (fun j hj => (HR.out.lt j hj).1))
          obtain ⟨A4, c4, hV4⟩ := own_form ho4
          have HL4 : Hid ((runsD f (k + 1)).length = n2 + 1) := by show _ = _; rw [HST.out, if_neg HYS.out]; simp [HM.out.1]; have := HM.out.2; omega
          subst hV4
          clear ho4 hg4
          go_wp2
          go_roundw
          case rel => exact ⟨k + 1, A4, c4, by omega, by go_num, by rw [HL4.out], ⟨by rw [HL4.out] at *; have h := HO4.out; first | exact h | (rw [HL4.out] at h; exact h), HB4.out⟩⟩
          case measure => simp [intOf]; omega
    · obtain rfl : k = n := by omega
      have HO := Lib.hid HRQ.out.own
      have HB := Lib.hid HRQ.out.below
      obtain ⟨m, hm⟩ : ∃ m, (runsD f k).length = m := ⟨_, rfl⟩
      have HMM := Lib.hid hm
      rw [hm] at HO
      rw [hm]
      clear HRQ hm hlen
      go_wp2
      go_ret
      exact ⟨_, rfl, by rw [HMM.out]; exact HO.out, HB.out⟩
def RnRel (f : Int → Int) (t : Int) (fr : Nat) (v : Value) : Prop := ∃ u : Nat, t ≤ (u : Int) ∧ u ≤ fr ∧ v = .int .i64 (u : Int) ∧ ∀ j : Int, t ≤ j → j < u → f j = f t
set_option maxRecDepth 4000 in
set_option maxHeartbeats 1600000 in
theorem rnext_any (ws : List Int) (f : Int → Int) (VB n c B0 : Nat) (t : Int) (L : List A3) (k : Nat) (x : A3) (w : World) (ho : w.ownsRow B0 3 1 (.slice (some ⟨VB, 0, none⟩) n c) n (ws.map (Value.int .i64))) (hf : ∀ j : Nat, j < n → ws[j]? = some (f (j : Int))) (hl : n ≤ 1048576) (hgr : GR f L (n : Int)) (hx : AtRun L t k x) (ht : 0 ≤ t ∧ t < n) :
    Calls Tryd.prog 14 #[.slice (some ⟨VB, 0, none⟩) n c, .int .i64 t] w fun e w' => e = .returned (.int .i64 (x.p + x.a)) ∧ Below w.heap.size w w' := by
  obtain ⟨p1, p2, p3⟩ := hgr.at_ k x hx.get
  have hkl := (List.getElem?_eq_some_iff.1 hx.get).1
  have hsum : sumA (L.take (k + 1)) = sumA (L.take k) + x.a := by rw [List.take_add_one, hx.get]; exact sumA_snoc _ _
  have hle := sum_mono hgr L.length (k + 1) (by omega) (Nat.le_refl _)
  rw [List.take_length, hgr.sum] at hle
  obtain ⟨d, hd⟩ : ∃ d : Nat, x.p + x.a = (d : Int) := ⟨(x.p + x.a).toNat, by have := hx.lo; have := hx.hi; omega⟩
  have hdn : d ≤ n := by omega
  have hft := p3 t hx.lo hx.hi
  have hin : ∀ j : Int, t ≤ j → j < d → f j = f t := fun j h1 h2 => by rw [p3 j (by have := hx.lo; omega) (by omega), hft]
  have hout : d < n → f (d : Int) ≠ f t := fun h => by
    have hk1 : k + 1 < L.length := by
      rcases Nat.lt_or_ge (k + 1) L.length with h2 | h2
      · exact h2
      · have e : L.take (k + 1) = L := List.take_of_length_le h2
        rw [e, hgr.sum] at hsum
        omega
    have hy : L[k + 1]? = some L[k + 1] := List.getElem?_eq_getElem hk1
    obtain ⟨q1, q2, q3⟩ := hgr.at_ (k + 1) _ hy
    rw [q3 (d : Int) (by omega) (by omega), hft]
    exact (hgr.adj k x _ hx.get hy).symm
  rw [hd]
  have HCELL : Hid (∀ j : Nat, j < n → w.cell? ⟨VB, j, none⟩ = some (.int .i64 (f (j : Int)))) := fun j hj => by
    have hc := ho.cellAt j (by omega)
    rw [List.getElem?_map, hf j hj] at hc
    exact hc
  obtain ⟨tn, rfl⟩ : ∃ m : Nat, t = (m : Int) := ⟨t.toNat, by omega⟩
  have htd : tn < d := by have := hx.hi; omega
  have htn : tn < n := by omega
  have HIN := Lib.hid hin
  have HOUT := Lib.hid hout
  have HT := Lib.hid (HCELL.out tn htn)
  obtain ⟨fv, hfv⟩ : ∃ v, f (tn : Int) = v := ⟨_, rfl⟩
  have HFV := Lib.hid hfv
  have HL : Hid (n ≤ 1048576 ∧ d ≤ n ∧ tn < d) := ⟨hl, hdn, htd⟩
  rw [hfv] at HT
  clear ho hf hl hgr hx ht p1 p2 p3 hkl hsum hle hd hft hin hout hfv
  go_enter Tryd.func14, Tryd.ntmps14
  go_wp2
  go_loopw [5] (fun v wr => (∃ u : Nat, tn ≤ u ∧ u ≤ d ∧ v = .int .i64 (u : Int)) ∧ ∃ q, wr = w.drewN q) (fun v _ => n - (intOf v).toNat)
  case atStart => exact ⟨⟨tn, Nat.le_refl _, by omega, rfl⟩, 0, rfl⟩
  case round =>
    obtain ⟨⟨u, hu1, hu2, rfl⟩, q, hwr⟩ := hrel
    have HWR := Lib.hid hwr
    have HBW : Hid (Below w.heap.size w wr) := by show Below _ _ _; rw [hwr]; exact below_drewN (Below.refl _ _) q
    have hl := HL.out
    clear hwr
    by_cases hun : u < n
    · have hcu : wr.cell? ⟨VB, u, none⟩ = some (.int .i64 (f (u : Int))) := by rw [HWR.out]; exact HCELL.out u hun
      have hct : wr.cell? ⟨VB, tn, none⟩ = some (.int .i64 fv) := by rw [HWR.out]; exact HT.out
      have h0 : (0 : Int) ≤ u := by omega
      have h0n : (u : Int) < n := by omega
      have h1 : (0 : Int) ≤ tn := by omega
      have h1n : (tn : Int) < n := by omega
      have hk1 : IntKind.i64.wrap ((u : Int) + 1) = (u : Int) + 1 := IntWalk.i64_in _ (by omega)
      obtain ⟨fu, hfu⟩ : ∃ v, f (u : Int) = v := ⟨_, rfl⟩
      have HFU := Lib.hid hfu
      rw [hfu] at hcu
      clear hfu
      by_cases hud : u < d
      · have he : fu = fv := by rw [← HFU.out, ← HFV.out]; exact HIN.out (u : Int) (by omega) (by omega)
        have hb : (fu != fv) = false := by simp [he]
        clear he
        go_wp2
        go_quiet (fail)
        go_wp2
        go_roundw
        case rel => exact ⟨⟨u + 1, by omega, by omega, by first | rfl | go_num⟩, q + nq, by rw [HWR.out, World.drewN_drewN]⟩
        case measure => simp [intOf]; omega
      · obtain rfl : u = d := by omega
        have he : fu ≠ fv := by rw [← HFU.out, ← HFV.out]; exact HOUT.out hun
        have hb : (fu != fv) = true := by simp [he]
        clear he
        go_wp2
        go_quiet (fail)
        go_wp2
        go_ret
        exact ⟨rfl, below_drewN HBW.out _⟩
    · obtain rfl : u = n := by omega
      obtain rfl : u = d := by omega
      go_wp2
      go_ret
      exact ⟨rfl, HBW.out⟩
end Go.Proofs.YtgdnjlpoeijejaaDoor.Tab
