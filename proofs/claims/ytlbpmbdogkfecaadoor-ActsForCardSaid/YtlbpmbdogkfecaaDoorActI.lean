
/- What package acts' Read reads. Condition: the variables hold what the program lays there; the reader stands within a text of at most 2 to the power 40 bytes. What the document's Get tells of acts. Condition: the reader stands within a text of at most 2 to the power 40 bytes. What stands behind reading acts; the chapter's example. Condition: the variables hold what the program lays there. What is read as acts is right, and just its bytes are put. It says nothing of the program. No condition. -/

import Derived.Test.YtlbpmbdogkfecaaDoorActA

import Derived.Test.YtlbpmbdogkfecaaDoorPrtI

import Derived.Deep.CutRange

import Derived.Test.YtlbpmbdogkfecaaDoorPrtL

namespace Go.Proofs.YtlbpmbdogkfecaaDoor.Act

open Go.RowKit Go.PlainAid Go.Proofs.YtlbpmbdogkfecaaDoor.Oct Go.Proofs.YtlbpmbdogkfecaaDoor.Flt Go.Proofs.YtlbpmbdogkfecaaDoor.Rdr Go.Proofs.YtlbpmbdogkfecaaDoor.Args

open Go.Proofs.YtlbpmbdogkfecaaDoor.Hdr (iface_of_wrong)

set_option linter.unusedVariables false

set_option linter.unusedSimpArgs false

theorem num_k0 {t : St} {n : Nat} (h : (numS t n).k = 0) : t.k = 0 ∧ (numS t n).p = t.p + n ∧ getB t.s t.p n = true := by
  unfold numS at h ⊢
  split at h
  · rename_i h0
    rw [if_pos h0]
    split at h
    · rename_i h1
      rw [if_pos h1]
      exact ⟨h0, rfl, h1⟩
    · rw [fail_k h0] at h; omega
  · rename_i h0
    exact absurd h h0
theorem need_k0 {t : St} {b : Bool} {k a : Int} (h1 : 1 ≤ k) (h2 : k ≤ 18) (h : (needS b t k a).k = 0) : needS b t k a = t ∧ b = true := by
  unfold needS at h ⊢
  split at h
  · rename_i hb
    rw [if_pos hb]
    exact ⟨rfl, hb⟩
  · exfalso
    by_cases h0 : t.k = 0
    · have e : k = ((k.toNat : Nat) : Int) := by omega
      rw [e, fail_yes h0 (by omega) (by omega)] at h
      dsimp only at h
      omega
    · rw [fail_had h0] at h
      exact h0 h
theorem aS_place {t : St} {la : A3} (h : (aS t la).k = 0) : (aS t la).p = t.p + 3 := by
  unfold aS at h ⊢
  obtain ⟨e1, _⟩ := need_k0 (by omega) (by omega) h
  rw [e1] at h ⊢
  obtain ⟨e2, _⟩ := need_k0 (by omega) (by omega) h
  rw [e2] at h ⊢
  unfold aS3 aS2 at h ⊢
  obtain ⟨k3, p3, _⟩ := num_k0 h
  obtain ⟨k2, p2, _⟩ := num_k0 k3
  obtain ⟨k1, p1, _⟩ := num_k0 k2
  rw [p3, p2, p1]
theorem it_place (t : St) : ∀ i, (itA t i).1.k = 0 → (itA t i).1.p = t.p + i * 3
  | 0, _ => by simp [itA]
  | i + 1, h => by
    have ih := it_place t i
    rw [itA] at h ⊢
    split at h
    · rename_i h0
      rw [if_pos h0]
      have := aS_place h
      dsimp only at this ⊢
      rw [this, ih h0]; omega
    · rename_i h0
      exact absurd h h0
/-- Within Read: the reader g, the last act in block L, the row. -/
structure RC (g L : Nat) (t : St) (la : A3) (l : List A3) (V : Value) (w wr : World) : Prop where
  rd : IsRdr wr g t
  last : wr.heap[L]? = some (.cells (actC la) 30 (0, 0))
  own : wr.ownsRow (w.heap.size + 1) 30 3 V l.length (flatA l)
  just : Just g w wr
  gl : g < w.heap.size
  ll : L = w.heap.size
theorem RC.rdr {g L : Nat} {t t' : St} {la : A3} {l : List A3} {V : Value} {w wr w' : World} (f : RC g L t la l V w wr) (hr : IsRdr w' g t') (j : Just g wr w') : RC g L t' la l V w w' := by
  have h1 := f.gl
  have h2 := f.ll
  refine ⟨hr, (j.block _ (lt_of_block f.last) (by omega)).trans f.last, row_beside f.own j fun k hk => ?_, f.just.trans j, h1, h2⟩
  have := (f.own.lt k hk).1
  omega
theorem RC.keep {g L : Nat} {t : St} {la : A3} {l : List A3} {V : Value} {w wr w' : World} (f : RC g L t la l V w wr) (b : Below wr.heap.size wr w') : RC g L t la l V w w' := f.rdr (f.rd.kept b) (Just.of_below b)
theorem act_no_wrap {w : World} {b : Nat} {cs : Array Value} (h : w.heap[b]? = some (.cells cs 30 (0, 0))) : ∀ cs', w.heap[b]? ≠ some (.cells cs' 61 (0, 0)) := by
  intro cs' e
  rw [h] at e
  simp only [Option.some.injEq, Obj.cells.injEq] at e
  exact absurd e.2.1 (by decide)
theorem RC.asked {g L : Nat} {t : St} {la la' : A3} {l : List A3} {V : Value} {w wr w' : World} (f : RC g L t la l V w wr) (h : w'.heap[L]? = some (.cells (actC la') 30 (0, 0))) (j : Just L wr w') : RC g L t la' l V w w' := by
  have h1 := f.gl
  have h2 := f.ll
  have h3 := f.just.size
  refine ⟨rdr_beside f.rd j (by omega) (act_no_wrap f.last), h, row_beside f.own j fun k hk => ?_, just_trans2 f.just j (by omega), h1, h2⟩
  have := (f.own.lt k hk).1
  omega
/-- A cell of a block of the call's own is stored into. -/
theorem RC.poke {g L C : Nat} {t : St} {la : A3} {l : List A3} {V : Value} {w wr : World} {cs : Array Value} (f : RC g L t la l V w wr) (hc : wr.heap[C]? = some (.cells cs 30 (0, 0))) (hC : w.heap.size < C) (hne : ∀ k, V.ownBlock = some k → k ≠ C) (o : Nat) (v : Value) : RC g L t la l V w (wr.setCell ⟨C, o, none⟩ v) := by
  have h1 := f.gl
  have h2 := f.ll
  have j : Just C wr (wr.setCell ⟨C, o, none⟩ v) := (Just.refl C wr).setCell o v
  refine ⟨rdr_beside f.rd j (by omega) (act_no_wrap hc), (j.block _ (lt_of_block f.last) (by omega)).trans f.last, row_beside f.own j hne, just_trans2 f.just j (by omega), h1, h2⟩
theorem RC.grown {g L : Nat} {t : St} {la x : A3} {l : List A3} {V V' : Value} {w wr w' : World} (f : RC g L t la l V w wr) (hg : wr.grownBy w' V.ownBlock) (n : Nat) (hn : n = (l ++ [x]).length) (ho : w'.ownsRow (w.heap.size + 1) 30 3 V' n (flatA l ++ actL x)) (hl : V.ownBlock ≠ some L) : RC g L t la (l ++ [x]) V' w w' := by
  have h1 := f.gl
  have h2 := f.ll
  have hne : ∀ k, k < w.heap.size → some k ≠ V.ownBlock := fun k hk e => by have := (f.own.lt k e.symm).1; omega
  refine ⟨?_, (hg.block L (lt_of_block f.last) (fun e => hl e.symm)).trans f.last, by rw [← hn, flatA_snoc]; exact ho, ?_, h1, h2⟩
  · obtain ⟨y, hy, hw⟩ := f.rd
    refine ⟨y, (hg.block g (lt_of_block hy) (hne g h1)).trans hy, hw.kept fun k cs hk => hg.block k (lt_of_block hk) fun e => ?_⟩
    obtain ⟨c2, e2⟩ := Prt.own_block f.own e.symm
    rw [hk] at e2
    simp only [Option.some.injEq, Obj.cells.injEq] at e2
    exact absurd e2.2.1 (by decide)
  · exact ⟨hg.os.trans f.just.os, hg.tape.trans f.just.tape, hg.output.trans f.just.output, Nat.le_trans f.just.size hg.size, fun k hk hkg => (hg.block k (Nat.lt_of_lt_of_le hk f.just.size) (hne k hk)).trans (f.just.block k hk hkg)⟩
def KPost (g : Nat) (t : St) (l : List A3) (w : World) (e : Ending) (w' : World) : Prop :=
  (t.k ≠ 0 ∧ ∃ x, e = .returned (.tuple #[.slice none 0 0, x]) ∧ Wrong w' x t.k t.fs t.fa ∧ IsRdr w' g t ∧ Just g w w') ∨ (t.k = 0 ∧ ∃ V, e = .returned (.tuple #[V, .nilIface]) ∧ w'.ownsRow w.heap.size 30 3 V l.length (flatA l) ∧ IsRdr w' g t ∧ Just g w w')
def KRel (g : Nat) (t : St) (n : Nat) (w : World) (v i : Value) (wr : World) : Prop :=
  ∃ k : Nat, k ≤ n ∧ i = .int .i64 k ∧ RC g w.heap.size (itA t k).1 (lastOf (itA t k).2) (itA t k).2 v w wr
theorem infoAct : (Tryd.prog.info? 30).map (fun i => (i.zero, i.size, i.bytes)) = some (some (.agg #[.int .i64 0, .int .i64 0, .int .i64 0]), 3, 24) := by kernel_rfl
set_option maxRecDepth 8000 in
set_option maxHeartbeats 3200000 in
theorem aread_any (g : Nat) (t : St) (n : Int) (w : World) (hn : Names w) (h : IsRdr w g t) (ho : Ok t) :
    Calls Tryd.prog 14 #[.pointer (some ⟨g, 0, none⟩), .int .i64 n] w (KPost g (rdA t n.toNat) (rdL t n.toNat) w) := by
  obtain ⟨i0, hi, hz0, hz1, hz2⟩ := info_parts infoAct
  have HN := Lib.hid hn
  have HR := Lib.hid h
  have HGL : Hid (g < w.heap.size) := h.lt
  have HEN := Lib.hid (enter_any g t 5 w h)
  have ho2 : Ok (secS t 5) := ho
  have HP : Hid (rdA t n.toNat = (itA (secS t 5) n.toNat).1) := rfl
  have HL : Hid (rdL t n.toNat = (itA (secS t 5) n.toNat).2) := rfl
  obtain ⟨T, hT⟩ : ∃ x, secS t 5 = x := ⟨_, rfl⟩
  rw [hT] at HEN HP HL ho2
  have HOK := Lib.hid (fun i => ok_it ho2 i)
  have HPL := Lib.hid (it_place T)
  rw [HP.out, HL.out]
  obtain ⟨N, hN⟩ : ∃ N, n.toNat = N := ⟨_, rfl⟩
  have HNN := Lib.hid hN
  rw [hN]
  clear hT HP HL ho2 hn h ho hN
  go_enter Tryd.func14, Tryd.ntmps14
  go_wp2_with fail
  refine HEN.out.mono ?_
  rintro e w1 ⟨rfl, hr1, hj1⟩
  have HR1 := Lib.hid hr1
  have HJ1 := Lib.hid hj1
  have HGL1 : Hid (g < w1.heap.size) := hr1.lt
  clear hr1 hj1 HEN
  go_wp2_with fail
  refine (rising_any w1).mono ?_
  rintro e w2 ⟨rfl, hl2, hb2⟩
  have hrc : RC g w1.heap.size (itA T 0).1 (lastOf (itA T 0).2) (itA T 0).2 (.slice none 0 0) w1 w2 := ⟨HR1.out.kept hb2, hl2, World.ownsRow_nil _ _ _ _, Just.of_below hb2, HGL1.out, rfl⟩
  have HRC := Lib.hid hrc
  clear hrc hl2 hb2
  unfold CV
  go_wp2_with fail
  go_loopw [6, 8] (fun v i wr => KRel g T N w1 v i wr) (fun _ i _ => N - (intOf i).toNat)
  case atStart => exact ⟨0, Nat.zero_le _, rfl, HRC.out⟩
  case round =>
    obtain ⟨k, hk, rfl, hf⟩ := hrel
    have HF := Lib.hid hf
    clear hf HRC
    by_cases hlt : k < N
    · have hkn : (k : Int) < n := by have := HNN.out; omega
      by_cases hk0 : (itA T k).1.k = 0
      · have HE := Lib.hid (err_ok g _ _ HF.out.rd hk0)
        have HNX : Hid (itA T (k + 1) = (aS (itA T k).1 (lastOf (itA T k).2), (itA T k).2 ++ [aV (itA T k).1])) := by show _ = _; rw [itA, if_pos hk0]
        have HLE : Hid ((itA T k).2.length = k ∧ k ≤ 1099511627776) := by
          refine ⟨it_len_ok T k hk0, ?_⟩
          have h1 := HPL.out k hk0
          have h2 := HOK.out k
          have h3 := h2.1
          have h4 := h2.2
          omega
        have HOT := Lib.hid (HOK.out k)
        obtain ⟨tk, htk⟩ : ∃ x, (itA T k).1 = x := ⟨_, rfl⟩
        obtain ⟨lk, hlk⟩ : ∃ x, (itA T k).2 = x := ⟨_, rfl⟩
        rw [htk, hlk] at HF HNX
        rw [hlk] at HLE
        rw [htk] at HOT
        obtain ⟨la, hla⟩ : ∃ x, lastOf lk = x := ⟨_, rfl⟩
        rw [hla] at HNX HF
        have HNK := Lib.hid (fun W (j : Just g w1 W) => Rdr.Names.just (Rdr.Names.just HN.out HR.out HJ1.out) HR1.out j)
        have HO1 := Lib.hid (ok_num HOT.out 1)
        have HO2 : Hid (Ok (aS2 tk)) := ok_num HO1.out 1
        have HFS : Hid (aS tk la = needS (lessB la (aV tk)) (needS (formB (aV tk).a) (aS3 tk) 6 (aS2 tk).p) 9 tk.p) := rfl
        have HFV : Hid (aV tk = ⟨numV tk 1, numV (numS tk 1) 1, numV (aS2 tk) 1⟩) := rfl
        rw [HFV.out] at HNX HFS
        have HU1 : Hid (∀ W, Names W → IsRdr W g tk → Calls Tryd.prog 26 #[.pointer (some ⟨g, 0, none⟩)] W (IPost .i64 g (numS tk 1) (numV tk 1) W)) := fun W hn hr => u8_any g tk W hn hr HOT.out
        have HU2 : Hid (∀ W, Names W → IsRdr W g (numS tk 1) → Calls Tryd.prog 26 #[.pointer (some ⟨g, 0, none⟩)] W (IPost .i64 g (aS2 tk) (numV (numS tk 1) 1) W)) := fun W hn hr => u8_any g (numS tk 1) W hn hr HO1.out
        have HU3 : Hid (∀ W, Names W → IsRdr W g (aS2 tk) → Calls Tryd.prog 26 #[.pointer (some ⟨g, 0, none⟩)] W (IPost .i64 g (aS3 tk) (numV (aS2 tk) 1) W)) := fun W hn hr => u8_any g (aS2 tk) W hn hr HO2.out
        have HPL1 := Lib.hid (place_any g tk wr HF.out.rd)
        have HPL2 := Lib.hid (fun W hr => place_any g (aS2 tk) W hr)
        obtain ⟨t1, ht1⟩ : ∃ x, numS tk 1 = x := ⟨_, rfl⟩
        obtain ⟨t2, ht2⟩ : ∃ x, aS2 tk = x := ⟨_, rfl⟩
        obtain ⟨t3, ht3⟩ : ∃ x, aS3 tk = x := ⟨_, rfl⟩
        obtain ⟨v1, hv1⟩ : ∃ x, numV tk 1 = x := ⟨_, rfl⟩
        rw [ht1] at HU1 HU2 HNX HFS
        obtain ⟨v2, hv2⟩ : ∃ x, numV t1 1 = x := ⟨_, rfl⟩
        rw [ht2] at HU2 HU3 HNX HFS HPL2
        obtain ⟨v3, hv3⟩ : ∃ x, numV t2 1 = x := ⟨_, rfl⟩
        rw [hv1, hv2, hv3] at HNX HFS
        rw [hv1] at HU1
        rw [hv2] at HU2
        rw [ht3, hv3] at HU3
        rw [ht3] at HFS
        obtain ⟨t4, ht4⟩ : ∃ x, needS (formB (v3 : Int)) t3 6 t2.p = x := ⟨_, rfl⟩
        obtain ⟨t5, ht5⟩ : ∃ x, aS tk la = x := ⟨_, rfl⟩
        have HFS4 : Hid (needS (formB (v3 : Int)) t3 6 t2.p = t4) := ht4
        have HFS5 : Hid (needS (lessB la ⟨v1, v2, v3⟩) t4 9 tk.p = t5) := by
          show _ = _
          have h := HFS.out
          dsimp only at h
          rw [ht4, ht5] at h
          exact h.symm
        rw [ht5] at HNX
        obtain ⟨P0, hP0⟩ : ∃ x, tk.p = x := ⟨_, rfl⟩
        obtain ⟨P2, hP2⟩ : ∃ x, t2.p = x := ⟨_, rfl⟩
        rw [hP0] at HFS5 HPL1
        rw [hP2] at HFS4 HPL2
        have HNE4 := Lib.hid (fun W hn hr => need_any g (formB (v3 : Int)) t3 6 P2 W hn (by omega) hr)
        have HNE5 := Lib.hid (fun W hn hr => need_any g (lessB la ⟨v1, v2, v3⟩) t4 9 P0 W hn (by omega) hr)
        rw [HFS4.out] at HNE4
        rw [HFS5.out] at HNE5
        have HAB := Lib.hid (fun W h => above_any w1.heap.size la ⟨v1, v2, v3⟩ W h)
        have HIA := Lib.hid (fun W => isAction_any (v3 : Int) W)
        obtain ⟨bf, hbf⟩ : ∃ b, formB (v3 : Int) = b := ⟨_, rfl⟩
        obtain ⟨bl, hbl⟩ : ∃ b, lessB la ⟨v1, v2, v3⟩ = b := ⟨_, rfl⟩
        rw [hbf] at HNE4 HIA
        rw [hbl] at HNE5 HAB
        unfold actC at HAB
        dsimp only at HAB
        clear hk0 htk hlk hla HFS HFV HO1 HO2 HOT ht1 ht2 ht3 hv1 hv2 hv3 ht4 ht5 hP0 hP2 hbf hbl HFS4 HFS5
        go_wp2_with (first
          | (go_at_call 24; refine HE.out.mono ?_; rintro e w' ⟨rfl, rfl⟩)
          | (go_at_call 25; refine HPL1.out.mono ?_; rintro e w' ⟨rfl, rfl⟩))
        refine (HU1.out _ (HNK.out _ HF.out.just) HF.out.rd).mono ?_
        rintro e w3 ⟨rfl, hr3, hj3⟩
        have HF3 := Lib.hid (HF.out.rdr hr3 hj3)
        clear hr3 hj3 HE HPL1
        go_wp2_with fail
        refine (HU2.out _ (HNK.out _ HF3.out.just) HF3.out.rd).mono ?_
        rintro e w4 ⟨rfl, hr4, hj4⟩
        have HF4 := Lib.hid (HF3.out.rdr hr4 hj4)
        clear hr4 hj4
        go_wp2_with fail
        have hCL := HF4.out.just.size
        have hlt4 := lt_of_block HF4.out.last
        have hne4 : ∀ k, u6.ownBlock = some k → k ≠ w4.heap.size := fun k hk => by have := (HF4.out.own.lt k hk).2; omega
        have hf5 : RC g w1.heap.size t2 la lk u6 w1 (w4.alloc (.cells #[.int .i64 v1, .int .i64 v2, .int .i64 0] 30)) := HF4.out.keep ((Below.refl _ _).alloc (Nat.le_refl _) _)
        have hc5 := heap_alloc_new w4 (.cells #[.int .i64 v1, .int .i64 v2, .int .i64 0] 30)
        obtain ⟨C, hC⟩ : ∃ C, w4.heap.size = C := ⟨_, rfl⟩
        obtain ⟨w5, hw5⟩ : ∃ X, w4.alloc (.cells #[.int .i64 v1, .int .i64 v2, .int .i64 0] 30) = X := ⟨_, rfl⟩
        rw [hw5] at hf5 hc5
        rw [hC] at hc5 hlt4 hne4
        have HF5 := Lib.hid hf5
        have HC5 := Lib.hid hc5
        have HNC := Lib.hid hne4
        have HLC : Hid (w1.heap.size < C ∧ C ≠ g) := by
          refine ⟨hlt4, ?_⟩
          have := HGL1.out
          omega
        rw [hw5, hC]
        clear hf5 hc5 hne4 hlt4 hCL hC hw5 HF4 HF3 HF
        refine (HPL2.out _ HF5.out.rd).mono ?_
        rintro e w' ⟨rfl, rfl⟩
        go_wp2_with fail
        refine (HU3.out _ (HNK.out _ HF5.out.just) HF5.out.rd).mono ?_
        rintro e w6 ⟨rfl, hr6, hj6⟩
        have HF6 := Lib.hid (HF5.out.rdr hr6 hj6)
        have hc6 := (hj6.block C (lt_of_block HC5.out) HLC.out.2).trans HC5.out
        have HC6 := Lib.hid hc6
        have e2 := cell_of_row w6 _ 2 _ _ _ hc6
        simp only [List.getElem?_toArray, List.getElem?_cons_zero, List.getElem?_cons_succ] at e2
        clear hr6 hj6 hc6 HC5 HF5 HPL2
        have f2 := frozen_of_row w6 _ 2 _ _ HC6.out
        have hf7 : RC g w1.heap.size t3 la lk u6 w1 (w6.setCell ⟨C, 2, none⟩ (.int .i64 v3)) := HF6.out.poke HC6.out HLC.out.1 HNC.out 2 _
        have hc7 : (w6.setCell ⟨C, 2, none⟩ (.int .i64 v3)).heap[C]? = some (.cells #[.int .i64 v1, .int .i64 v2, .int .i64 v3] 30 (0, 0)) := by rw [heap_setCell_same w6 _ _ _ _ _ HC6.out]; rfl
        have HF7 := Lib.hid hf7
        have HC7 := Lib.hid hc7
        clear hf7 hc7
        go_wp2_with (go_at_call 28; refine (HIA.out _).mono ?_; rintro e w' ⟨rfl, rfl⟩)
        refine (HNE4.out _ (HNK.out _ HF7.out.just) HF7.out.rd).mono ?_
        rintro e w8 ⟨rfl, hr8, hj8⟩
        have HF8 := Lib.hid (HF7.out.rdr hr8 hj8)
        have hc8 := (hj8.block C (lt_of_block HC7.out) HLC.out.2).trans HC7.out
        have HC8 := Lib.hid hc8
        have d0 := cell_of_row w8 _ 0 _ _ _ hc8
        have d1 := cell_of_row w8 _ 1 _ _ _ hc8
        have d2 := cell_of_row w8 _ 2 _ _ _ hc8
        simp only [List.getElem?_toArray, List.getElem?_cons_zero, List.getElem?_cons_succ] at d0 d1 d2
        clear e2 f2 hr8 hj8 hc8 HF6 HC6 HF7 HC7
        go_wp2_with (go_at_call 33; refine (HAB.out _ HF8.out.last).mono ?_; rintro e w9 ⟨rfl, hl9, hj9⟩; have HF9 := Lib.hid (HF8.out.asked (la' := ⟨v1, v2, v3⟩) hl9 hj9); have HC9 := Lib.hid ((hj9.block C (lt_of_block HC8.out) (by have := HLC.out.1; omega)).trans HC8.out); clear hl9 hj9)
        refine (HNE5.out _ (HNK.out _ HF9.out.just) HF9.out.rd).mono ?_
        rintro e w10 ⟨rfl, hr10, hj10⟩
        have HF10 := Lib.hid (HF9.out.rdr hr10 hj10)
        have hc10 := (hj10.block C (lt_of_block HC9.out) HLC.out.2).trans HC9.out
        have g0 := cell_of_row w10 _ 0 _ _ _ hc10
        have g1 := cell_of_row w10 _ 1 _ _ _ hc10
        have g2 := cell_of_row w10 _ 2 _ _ _ hc10
        simp only [List.getElem?_toArray, List.getElem?_cons_zero, List.getElem?_cons_succ] at g0 g1 g2
        have HRX := Lib.hid (HF10.out.keep ((Below.refl _ _).alloc (Nat.le_refl _) (.cells #[.int .i64 v1, .int .i64 v2, .int .i64 v3] 30)))
        clear d0 d1 d2 hr10 hj10 hc10 HF8 HC8 HF9 HC9
        go_wp2_with (at_builtin; refine wpList_append_own _ rfl _ _ 22 rfl (w1.heap.size + 1) 30 i0 (.agg #[.int .i64 0, .int .i64 0, .int .i64 0]) 3 24 Tryd.underlying22 hi hz0 hz1 hz2 rfl (by decide) _ lk.length _ rfl HRX.out.own ⟨w10.heap.size, 0, none⟩ 1 1 [.int .i64 v1, .int .i64 v2, .int .i64 v3] rfl rfl ?c1 ?c2 ?c3 ?c4 ?c5 ?_)
        case c1 =>
          intro j u hj
          have hrow := heap_alloc_new w10 (.cells #[.int .i64 v1, .int .i64 v2, .int .i64 v3] 30)
          have e : (Addr.mk w10.heap.size 0 none).add j = ⟨w10.heap.size, j, none⟩ := by cases j <;> simp [Addr.add]
          rw [e, cell_of_row _ _ _ _ _ _ hrow, ← hj]
          simp
        case c2 => intro u hu; simp at hu; rcases hu with rfl | rfl | rfl <;> rfl
        case c3 => have := HLE.out; unfold maxLen; omega
        case c4 => have := HLE.out; omega
        case c5 => have := HRX.out.just.size; have := lt_of_block HRX.out.last; simp at this ⊢; omega
        intro v' w12 ho12 hg12 _
        have HF12 := Lib.hid (HRX.out.grown (x := ⟨v1, v2, v3⟩) hg12 (lk.length + 1) (by simp) ho12 (fun e => by have := (HRX.out.own.lt _ e).1; omega))
        clear ho12 hg12 g0 g1 g2
        have hkb := HLE.out.2
        have hk1 : IntKind.i64.wrap ((k : Int) + 1) = (k : Int) + 1 := IntWalk.i64_in _ (by omega)
        go_wp2
        go_roundw
        case rel => exact ⟨k + 1, by omega, by go_num, by rw [HNX.out, last_snoc]; exact HF12.out⟩
        case measure => simp [intOf]; omega
      · have HB := Lib.hid (err_bad g _ _ HF.out.rd hk0)
        have HE := Lib.hid (err_any g _ _ HF.out.rd)
        have HST := Lib.hid (it_stay T k hk0 (N - k))
        rw [show k + (N - k) = N by omega] at HST
        have HK := Lib.hid hk0
        have HJ := Lib.hid (HJ1.out.trans HF.out.just)
        clear hk0
        go_wp2_with fail
        refine HB.out.mono ?_
        rintro e w' ⟨u, y, rfl, rfl⟩
        go_wp2_with fail
        refine HE.out.mono ?_
        rintro e w' ⟨x, hw, rfl, rfl⟩
        obtain ⟨u, y, rfl⟩ : ∃ u y, x = .iface u y := by
          rcases hw with ⟨h1, _⟩ | ⟨_, _, h3⟩
          · exact absurd h1 HK.out
          · exact err_of h3
        have HW := Lib.hid hw
        clear hw
        go_wp2
        go_ret2
        rw [HST.out]
        exact .inl ⟨HK.out, _, rfl, HW.out, HF.out.rd, HJ.out⟩
    · obtain rfl : k = N := by omega
      have hkn : ¬ (k : Int) < n := by have := HNN.out; omega
      have HJ := Lib.hid (HJ1.out.trans HF.out.just)
      by_cases hk0 : (itA T k).1.k = 0
      · have HE := Lib.hid (err_ok g _ _ HF.out.rd hk0)
        have HK := Lib.hid hk0
        clear hk0
        go_wp2_with (first
          | (go_at_call 24; refine HE.out.mono ?_; rintro e w' ⟨rfl, rfl⟩))
        go_ret2
        exact .inr ⟨HK.out, _, rfl, row_base HF.out.own (by have := HJ1.out.size; omega), HF.out.rd, HJ.out⟩
      · have HE := Lib.hid (err_any g _ _ HF.out.rd)
        have HK := Lib.hid hk0
        clear hk0
        go_wp2_with fail
        refine HE.out.mono ?_
        rintro e w' ⟨x, hw, rfl, rfl⟩
        obtain ⟨u, y, rfl⟩ : ∃ u y, x = .iface u y := by
          rcases hw with ⟨h1, _⟩ | ⟨_, _, h3⟩
          · exact absurd h1 HK.out
          · exact err_of h3
        have HW := Lib.hid hw
        clear hw
        go_wp2
        go_ret2
        exact .inl ⟨HK.out, _, rfl, HW.out, HF.out.rd, HJ.out⟩
end Go.Proofs.YtlbpmbdogkfecaaDoor.Act

namespace Go.Proofs.YtlbpmbdogkfecaaDoor.Act

open Go.RowKit Go.PlainAid Go.Proofs.YtlbpmbdogkfecaaDoor.Oct Go.Proofs.YtlbpmbdogkfecaaDoor.Flt Go.Proofs.YtlbpmbdogkfecaaDoor.Rdr Go.Proofs.YtlbpmbdogkfecaaDoor.Args

open Go.Proofs.YtlbpmbdogkfecaaDoor.Prt (below_drewN)

open Go.Proofs.YtlbpmbdogkfecaaDoor.Hdr (below_set2)

set_option linter.unusedVariables false

set_option linter.unusedSimpArgs false

theorem owns_empty (w : World) : (w.alloc (.cells #[] 30)).ownsRow w.heap.size 30 3 (.slice (some ⟨w.heap.size, 0, none⟩) 0 0) 0 [] :=
  ⟨rfl, .inr ⟨_, 0, #[], rfl, Nat.le_refl _, heap_alloc_new _ _, by simp⟩⟩
theorem just_row (w : World) (X : Nat) (cs : Array Value) : Just X w (w.setRow X cs) := ⟨rfl, rfl, rfl, (by simp), fun k _ hne => setRow_other _ _ _ _ hne⟩
/-- A row of the call's own, as a slice, reads as acts. -/
theorem own_at {w : World} {B : Nat} {V : Value} {l : List A3} (h : w.ownsRow B 30 3 V l.length (flatA l)) : ∃ A c, V = .slice A l.length c ∧ ActsAt w A l ∧ (A = none → c = 0) := by
  rcases h.2 with ⟨rfl, h0⟩ | ⟨g, c, cur, rfl, h2, h3, h4⟩
  · refine ⟨none, 0, by rw [h0], fun i x hx => ?_, fun _ => rfl⟩
    have : l = [] := List.eq_nil_of_length_eq_zero h0
    rw [this] at hx; simp at hx
  · exact ⟨_, c, rfl, own_acts h, fun e => by cases e⟩
theorem kept7 {W w2 : World} {a b c d e f g : Addr} {va vb vc vd ve vf vg : Value} (h : W.cell? a = some va ∧ W.cell? b = some vb ∧ W.cell? c = some vc ∧ W.cell? d = some vd ∧ W.cell? e = some ve ∧ W.cell? f = some vf ∧ W.cell? g = some vg) (hb : Below W.heap.size W w2) : w2.cell? a = some va ∧ w2.cell? b = some vb ∧ w2.cell? c = some vc ∧ w2.cell? d = some vd ∧ w2.cell? e = some ve ∧ w2.cell? f = some vf ∧ w2.cell? g = some vg :=
  ⟨(hb.cell (Go.block_lt_of_cell h.1)).trans h.1, kept6 h.2 hb⟩
theorem need_had {t : St} {b : Bool} {k a : Int} (h : t.k ≠ 0) : needS b t k a = t := by
  unfold needS; split
  · rfl
  · exact fail_had h
def GPost (t : St) (l : List A3) (w : World) (e : Ending) (w' : World) : Prop := ∃ V, e = .returned (.tuple #[.agg (rdC t), V]) ∧ ((t.k ≠ 0 ∧ V = .slice none 0 0) ∨ (t.k = 0 ∧ w'.ownsRow w.heap.size 30 3 V l.length (flatA l))) ∧ Below w.heap.size w w'
end Go.Proofs.YtlbpmbdogkfecaaDoor.Act

namespace Go.Proofs.YtlbpmbdogkfecaaDoor.Act

open Go.RowKit Go.PlainAid Go.Proofs.YtlbpmbdogkfecaaDoor.Oct Go.Proofs.YtlbpmbdogkfecaaDoor.Flt Go.Proofs.YtlbpmbdogkfecaaDoor.Rdr Go.Proofs.YtlbpmbdogkfecaaDoor.Args

open Go.Proofs.YtlbpmbdogkfecaaDoor.Hdr (iface_of_wrong)

set_option linter.unusedVariables false

set_option linter.unusedSimpArgs false

theorem act_aw : (rdA ⟨awB, 0, 0, 0, 0, 0⟩ 1).k = 6 ∧ (rdA ⟨awB, 0, 0, 0, 0, 0⟩ 1).fs = 5 ∧ (rdA ⟨awB, 0, 0, 0, 0, 0⟩ 1).fa = 2 := by
  refine ⟨?_, ?_, ?_⟩ <;> decide +kernel
set_option maxRecDepth 4000 in
set_option maxHeartbeats 800000 in
theorem awake_any (w : World) (hn : Names w) : Calls Tryd.prog 4 #[] w fun e w' => e = .returned (.bool true) ∧ Below w.heap.size w w' := by
  have HN := Lib.hid hn
  have heq : ∀ wx : World, (Op.equalIn 10000 41 (.agg #[.int .i64 6, .int .i64 5, .int .i64 2]) (.agg #[.int .i64 6, .int .i64 5, .int .i64 2])).run Tryd.prog wx = .ok true wx := eq_flt 6 5 2
  clear hn
  go_enter Tryd.func4, Tryd.ntmps4
  go_wp2_with fail
  refine (new_any awB _).mono ?_
  rintro e w1 ⟨g, hg, rfl, hr1, hb1⟩
  have HN1 := Lib.hid (HN.out.kept hb1)
  have HR1 := Lib.hid hr1
  have HB1 := Lib.hid hb1
  clear hr1 hb1
  go_wp2_with fail
  refine (aread_any g _ 1 _ HN1.out HR1.out ⟨Nat.zero_le _, by show 3 ≤ 1099511627776; omega⟩).mono ?_
  intro e w2 hp
  rcases hp with ⟨h1, x, rfl, hw, hr2, hj2⟩ | ⟨h1, _⟩
  · obtain ⟨e1, e2, e3⟩ := act_aw
    rw [show (1 : Int).toNat = 1 from rfl, e1, e2, e3] at hw
    obtain ⟨u, y, rfl⟩ := iface_of_wrong hw (by omega)
    have HW := Lib.hid hw
    have HB2 := Lib.hid (HB1.out.trans (hj2.below hg HR1.out.lt))
    clear h1 hw hr2 hj2 e1 e2 e3
    go_wp2_with (go_at_call 15; refine (of_wrong _ HW.out (fun _ _ _ => rfl)).mono ?_; rintro e w5 ⟨rfl, hb5⟩; (try simp only [fltV]); have HB5 := Lib.hid (HB2.out.trans (hb5.mono HB2.out.size)); clear hb5)
    go_ret
    exact ⟨rfl, HB5.out⟩
  · exfalso
    rw [show (1 : Int).toNat = 1 from rfl, act_aw.1] at h1
    omega
end Go.Proofs.YtlbpmbdogkfecaaDoor.Act

namespace Go.Proofs.YtlbpmbdogkfecaaDoor.Act

open Go.RowKit Go.PlainAid Go.Proofs.YtlbpmbdogkfecaaDoor.Oct Go.Proofs.YtlbpmbdogkfecaaDoor.Flt Go.Proofs.YtlbpmbdogkfecaaDoor.Rdr Go.Proofs.YtlbpmbdogkfecaaDoor.Args

set_option linter.unusedVariables false

set_option linter.unusedSimpArgs false

theorem num_1 {t : St} (h : (numS t 1).k = 0) : numS t 1 = { t with p := t.p + 1 } ∧ ((numV t 1 : Nat) : Int) = bt t.s t.p ∧ t.k = 0 ∧ t.p + 1 ≤ t.s.size := by
  obtain ⟨h0, hp, hg⟩ := num_k0 h
  have hg' : getB t.s (t.p : Nat) ((1 : Nat) : Int) = true := hg
  refine ⟨?_, ?_, h0, ?_⟩
  · unfold numS
    rw [if_pos h0, if_pos hg]
  · unfold numV getV
    rw [if_pos h0, if_pos hg']
    have := bt_nonneg t.s t.p
    simp [getN]
    omega
  · unfold getB at hg'
    simp at hg'
    omega
theorem aS_ok {t : St} {la : A3} (h : (aS t la).k = 0) : aS t la = { t with p := t.p + 3 } ∧ aV t = ⟨bt t.s t.p, bt t.s (t.p + 1), bt t.s (t.p + 2)⟩ ∧ lessB la (aV t) = true ∧ formB (aV t).a = true ∧ t.p + 3 ≤ t.s.size := by
  unfold aS at h ⊢
  obtain ⟨e1, hl⟩ := need_k0 (by omega) (by omega) h
  rw [e1] at h ⊢
  obtain ⟨e2, hf⟩ := need_k0 (by omega) (by omega) h
  rw [e2] at h ⊢
  have h3 : (numS (aS2 t) 1).k = 0 := h
  obtain ⟨q3, v3, k2, b3⟩ := num_1 h3
  have h2 : (numS (numS t 1) 1).k = 0 := k2
  obtain ⟨q2, v2, k1, b2⟩ := num_1 h2
  obtain ⟨q1, v1, k0, b1⟩ := num_1 k1
  have e2' : aS2 t = { t with p := t.p + 1 + 1 } := by unfold aS2; rw [q2, q1]
  have hv : aV t = ⟨bt t.s t.p, bt t.s (t.p + 1), bt t.s (t.p + 2)⟩ := by
    unfold aV
    rw [v1, v2, v3, q1, e2']
  refine ⟨?_, hv, hl, hf, ?_⟩
  · unfold aS3
    rw [q3, e2']
  · rw [e2'] at b3
    exact b3
theorem fb_snoc {α : Type} (f : List α → α → Nat) (x : α) : ∀ (l pre : List α), (Prt.fb f pre l).1 = 0 → f (pre ++ l) x = 0 → (Prt.fb f pre (l ++ [x])).1 = 0
  | [], pre, _, h => by rw [List.append_nil] at h; show (Prt.fb f pre [x]).1 = 0; rw [Prt.fb, if_pos h]; rfl
  | y :: l, pre, h, hx => by
    rw [List.cons_append, Prt.fb]
    rw [Prt.fb] at h
    split at h
    · rename_i h0
      rw [if_pos h0]
      exact fb_snoc f x l (pre ++ [y]) h (by simpa using hx)
    · rename_i h0
      exact absurd h h0
theorem it_all (T : St) : ∀ i, (itA T i).1.k = 0 → (itA T i).1 = { T with p := T.p + i * 3 } ∧ (badA (itA T i).2).1 = 0 ∧ (∀ j, j < i * 3 → (actB (itA T i).2)[j]? = some (bt T.s (T.p + j))) ∧ (i = 0 ∨ T.p + i * 3 ≤ T.s.size)
  | 0, h => by
    refine ⟨?_, rfl, fun j hj => by omega, .inl rfl⟩
    show T = _
    cases T; simp
  | i + 1, h => by
    have ih := it_all T i
    have hlen := it_len_ok T i
    rw [itA] at h ⊢
    split at h
    · rename_i h0
      rw [if_pos h0]
      obtain ⟨e, hb, hj, _⟩ := ih h0
      obtain ⟨l, hl⟩ : ∃ l, (itA T i).2 = l := ⟨_, rfl⟩
      obtain ⟨u, hu⟩ : ∃ u, (itA T i).1 = u := ⟨_, rfl⟩
      have hlen := hlen h0
      rw [hl] at h hb hj hlen ⊢
      rw [hu] at h h0 e ⊢
      dsimp only at h ⊢
      obtain ⟨e1, ev, hle, hf, hsz⟩ := aS_ok h
      have hbt : ∀ a, 0 ≤ bt u.s a ∧ bt u.s a ≤ 255 := fun a => ⟨bt_nonneg _ _, by have := bt_le u.s a; omega⟩
      have hus : u.s = T.s := by rw [e]
      have hup : u.p = T.p + i * 3 := by rw [e]
      refine ⟨?_, ?_, ?_, .inr (by rw [hus, hup] at hsz; omega)⟩
      · rw [e1, e]
        simp only [St.mk.injEq, true_and, and_true]
        omega
      · refine fb_snoc b1A _ l [] hb ?_
        show bad1 (lastOf l) (aV u) = 0
        unfold bad1
        rw [hf, hle]
        have i1 : idB (aV u).s = true := by rw [ev]; unfold idB; have := hbt u.p; simp; omega
        have i2 : idB (aV u).p = true := by rw [ev]; unfold idB; have := hbt (u.p + 1); simp; omega
        rw [i1, i2]; rfl
      · intro j hjj
        rw [actB_snoc]
        rcases Nat.lt_or_ge j (i * 3) with h3 | h3
        · rw [List.getElem?_append_left (by rw [actB_len]; omega)]
          exact hj j h3
        · rw [List.getElem?_append_right (by rw [actB_len]; omega), actB_len, hlen, ev]
          have b0 := hbt u.p
          have b1 := hbt (u.p + 1)
          have b2 := hbt (u.p + 2)
          have ha : act1 ⟨bt u.s u.p, bt u.s (u.p + 1), bt u.s (u.p + 2)⟩ = [bt u.s u.p, bt u.s (u.p + 1), bt u.s (u.p + 2)] := by
            unfold act1; rw [low_1 b0.1 b0.2, low_1 b1.1 b1.2, low_1 b2.1 b2.2]; rfl
          rw [ha, hus, hup]
          rcases (show j = i * 3 ∨ j = i * 3 + 1 ∨ j = i * 3 + 2 by omega) with rfl | rfl | rfl
          · simp
          · simp [Nat.add_assoc]
          · simp [Nat.add_assoc]
    · rename_i h0
      exact absurd h h0
theorem str_front (s : ByteArray) (L : List Int) (hL : L.length ≤ s.size) (h : ∀ j, j < L.length → L[j]? = some (bt s j)) : s.extract 0 L.length = strOfNums L := by
  apply ByteArray.ext
  rw [ByteArray.data_extract]
  apply Array.ext
  · have : s.data.size = s.size := rfl
    simp [strOfNums]; omega
  · intro i h1 h2
    have hi : i < L.length := by simp [strOfNums] at h2; exact h2
    have hs : i < s.size := by omega
    have e : L[i] = bt s i := by have := h i hi; rw [List.getElem?_eq_getElem hi] at this; exact Option.some.inj this
    simp [strOfNums]
    rw [e, ← get_bt s i hs]
    simp
    rfl
/-- What is read of a text from its beginning. -/
theorem read_back (s : ByteArray) (N : Nat) (h : (rdA ⟨s, 0, 0, 0, 0, 0⟩ N).k = 0) :
    ∃ l, rdL ⟨s, 0, 0, 0, 0, 0⟩ N = l ∧ rdA ⟨s, 0, 0, 0, 0, 0⟩ N = ⟨s, l.length * 3, 5, 0, 0, 0⟩ ∧ (badA l).1 = 0 ∧ strOfNums (actB l) = s.extract 0 (l.length * 3) ∧ l.length * 3 ≤ s.size := by
  unfold rdA at h
  obtain ⟨e, hb, hj, hs⟩ := it_all (secS ⟨s, 0, 0, 0, 0, 0⟩ 5) N h
  have hl := it_len_ok (secS ⟨s, 0, 0, 0, 0, 0⟩ 5) N h
  have hs' : N * 3 ≤ s.size := by
    rcases hs with h0 | h0
    · omega
    · have : (secS ⟨s, 0, 0, 0, 0, 0⟩ 5).p + N * 3 ≤ s.size := h0
      show _
      have e0 : (secS ⟨s, 0, 0, 0, 0, 0⟩ 5).p = 0 := rfl
      omega
  refine ⟨_, rfl, ?_, hb, ?_, ?_⟩
  · unfold rdA rdL
    rw [e, hl]
    show St.mk s (0 + N * 3) 5 0 0 0 = _
    rw [Nat.zero_add]
  · unfold rdL
    rw [hl]
    have hlen : (actB (itA (secS ⟨s, 0, 0, 0, 0, 0⟩ 5) N).2).length = N * 3 := by rw [actB_len, hl]
    rw [← hlen]
    refine (str_front s _ (by rw [hlen]; exact hs') fun j hjj => ?_).symm
    have := hj j (by rw [hlen] at hjj; exact hjj)
    rw [this]
    show some (bt s (0 + j)) = _
    rw [Nat.zero_add]
  · unfold rdL
    rw [hl]; exact hs'
end Go.Proofs.YtlbpmbdogkfecaaDoor.Act
