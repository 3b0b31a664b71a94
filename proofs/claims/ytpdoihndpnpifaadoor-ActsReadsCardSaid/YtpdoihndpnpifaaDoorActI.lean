
/- What package acts' Read reads. Condition: the variables hold what the program lays there; the reader stands within a text of at most 2 to the power 40 bytes. What the document's Get tells of acts. Condition: the reader stands within a text of at most 2 to the power 40 bytes. What stands behind reading acts; the chapter's example. Condition: the variables hold what the program lays there. What is read as acts is right, and just its bytes are put. It says nothing of the program. No condition. -/

import Derived.Test.YtpdoihndpnpifaaDoorActA

import Derived.Test.YtpdoihndpnpifaaDoorPrtI

import Derived.Deep.CutRange

import Derived.Test.YtpdoihndpnpifaaDoorPrtL

namespace Go.Proofs.YtpdoihndpnpifaaDoor.Act

open Go.RowKit Go.PlainAid Go.Proofs.YtpdoihndpnpifaaDoor.Oct Go.Proofs.YtpdoihndpnpifaaDoor.Flt Go.Proofs.YtpdoihndpnpifaaDoor.Rdr Go.Proofs.YtpdoihndpnpifaaDoor.Args

open Go.Proofs.YtpdoihndpnpifaaDoor.Hdr (iface_of_wrong)

set_option linter.unusedVariables false

set_option linter.unusedSimpArgs false

theorem num_k0 {t : St} {n : Nat} (h : (numS t n).k = 0) : t.k = 0 ∧ (numS t n).p = t.p + n ∧ getB t.s t.p n = true := by
  unfold numS at h ⊢
  split at h
  · rename_i h0
    rw [if_pos h0]
    split at h
    · rename_i h1
      rw [if_pos h1]
      exact ⟨h0, rfl, h1⟩
    · rw [fail_k h0] at h; omega
  · rename_i h0
    exact absurd h h0
theorem need_k0 {t : St} {b : Bool} {k a : Int} (h1 : 1 ≤ k) (h2 : k ≤ 18) (h : (needS b t k a).k = 0) : needS b t k a = t ∧ b = true := by
  unfold needS at h ⊢
  split at h
  · rename_i hb
    rw [if_pos hb]
    exact ⟨rfl, hb⟩
  · exfalso
    by_cases h0 : t.k = 0
    · have e : k = ((k.toNat : Nat) : Int) := by omega
      rw [e, fail_yes h0 (by omega) (by omega)] at h
      dsimp only at h
      omega
    · rw [fail_had h0] at h
      exact h0 h
theorem aS_place {t : St} {la : A3} (h : (aS t la).k = 0) : (aS t la).p = t.p + 3 := by
  unfold aS at h ⊢
  obtain ⟨e1, _⟩ := need_k0 (by omega) (by omega) h
  rw [e1] at h ⊢
  obtain ⟨e2, _⟩ := need_k0 (by omega) (by omega) h
  rw [e2] at h ⊢
  unfold aS3 aS2 at h ⊢
  obtain ⟨k3, p3, _⟩ := num_k0 h
  obtain ⟨k2, p2, _⟩ := num_k0 k3
  obtain ⟨k1, p1, _⟩ := num_k0 k2
  rw [p3, p2, p1]
theorem it_place (t : St) : ∀ i, (itA t i).1.k = 0 → (itA t i).1.p = t.p + i * 3
  | 0, _ => by simp [itA]
  | i + 1, h => by
    have ih := it_place t i
    rw [itA] at h ⊢
    split at h
    · rename_i h0
      rw [if_pos h0]
      have := aS_place h
      dsimp only at this ⊢
      rw [this, ih h0]; omega
    · rename_i h0
      exact absurd h h0
/-- Within Read: the reader g, the last act in block L, the row. -/
structure RC (g L : Nat) (t : St) (la : A3) (l : List A3) (V : Value) (w wr : World) : Prop where
  rd : IsRdr wr g t
  last : wr.heap[L]? = some (.cells (actC la) 138 (0, 0))
  own : wr.ownsRow (w.heap.size + 1) 138 3 V l.length (flatA l)
  just : Just g w wr
  gl : g < w.heap.size
  ll : L = w.heap.size
theorem RC.rdr {g L : Nat} {t t' : St} {la : A3} {l : List A3} {V : Value} {w wr w' : World} (f : RC g L t la l V w wr) (hr : IsRdr w' g t') (j : Just g wr w') : RC g L t' la l V w w' := by
  have h1 := f.gl
  have h2 := f.ll
  refine ⟨hr, (j.block _ (lt_of_block f.last) (by omega)).trans f.last, row_beside f.own j fun k hk => ?_, f.just.trans j, h1, h2⟩
  have := (f.own.lt k hk).1
  omega
theorem RC.keep {g L : Nat} {t : St} {la : A3} {l : List A3} {V : Value} {w wr w' : World} (f : RC g L t la l V w wr) (b : Below wr.heap.size wr w') : RC g L t la l V w w' := f.rdr (f.rd.kept b) (Just.of_below b)
theorem act_no_wrap {w : World} {b : Nat} {cs : Array Value} (h : w.heap[b]? = some (.cells cs 138 (0, 0))) : ∀ cs', w.heap[b]? ≠ some (.cells cs' 106 (0, 0)) := by
  intro cs' e
  rw [h] at e
  simp only [Option.some.injEq, Obj.cells.injEq] at e
  exact absurd e.2.1 (by decide)
theorem RC.asked {g L : Nat} {t : St} {la la' : A3} {l : List A3} {V : Value} {w wr w' : World} (f : RC g L t la l V w wr) (h : w'.heap[L]? = some (.cells (actC la') 138 (0, 0))) (j : Just L wr w') : RC g L t la' l V w w' := by
  have h1 := f.gl
  have h2 := f.ll
  have h3 := f.just.size
  refine ⟨rdr_beside f.rd j (by omega) (act_no_wrap f.last), h, row_beside f.own j fun k hk => ?_, just_trans2 f.just j (by omega), h1, h2⟩
  have := (f.own.lt k hk).1
  omega
/-- A cell of a block of the call's own is stored into. -/
theorem RC.poke {g L C : Nat} {t : St} {la : A3} {l : List A3} {V : Value} {w wr : World} {cs : Array Value} (f : RC g L t la l V w wr) (hc : wr.heap[C]? = some (.cells cs 138 (0, 0))) (hC : w.heap.size < C) (hne : ∀ k, V.ownBlock = some k → k ≠ C) (o : Nat) (v : Value) : RC g L t la l V w (wr.setCell ⟨C, o, none⟩ v) := by
  have h1 := f.gl
  have h2 := f.ll
  have j : Just C wr (wr.setCell ⟨C, o, none⟩ v) := (Just.refl C wr).setCell o v
  refine ⟨rdr_beside f.rd j (by omega) (act_no_wrap hc), (j.block _ (lt_of_block f.last) (by omega)).trans f.last, row_beside f.own j hne, just_trans2 f.just j (by omega), h1, h2⟩
theorem RC.grown {g L : Nat} {t : St} {la x : A3} {l : List A3} {V V' : Value} {w wr w' : World} (f : RC g L t la l V w wr) (hg : wr.grownBy w' V.ownBlock) (n : Nat) (hn : n = (l ++ [x]).length) (ho : w'.ownsRow (w.heap.size + 1) 138 3 V' n (flatA l ++ actL x)) (hl : V.ownBlock ≠ some L) : RC g L t la (l ++ [x]) V' w w' := by
  have h1 := f.gl
  have h2 := f.ll
  have hne : ∀ k, k < w.heap.size → some k ≠ V.ownBlock := fun k hk e => by have := (f.own.lt k e.symm).1; omega
  refine ⟨?_, (hg.block L (lt_of_block f.last) (fun e => hl e.symm)).trans f.last, by rw [← hn, flatA_snoc]; exact ho, ?_, h1, h2⟩
  · obtain ⟨y, hy, hw⟩ := f.rd
    refine ⟨y, (hg.block g (lt_of_block hy) (hne g h1)).trans hy, hw.kept fun k cs hk => hg.block k (lt_of_block hk) fun e => ?_⟩
    obtain ⟨c2, e2⟩ := Prt.own_block f.own e.symm
    rw [hk] at e2
    simp only [Option.some.injEq, Obj.cells.injEq] at e2
    exact absurd e2.2.1 (by decide)
  · exact ⟨hg.os.trans f.just.os, hg.tape.trans f.just.tape, hg.output.trans f.just.output, Nat.le_trans f.just.size hg.size, fun k hk hkg => (hg.block k (Nat.lt_of_lt_of_le hk f.just.size) (hne k hk)).trans (f.just.block k hk hkg)⟩
def KPost (g : Nat) (t : St) (l : List A3) (w : World) (e : Ending) (w' : World) : Prop :=
  (t.k ≠ 0 ∧ ∃ x, e = .returned (.tuple #[.slice none 0 0, x]) ∧ Wrong w' x t.k t.fs t.fa ∧ IsRdr w' g t ∧ Just g w w') ∨ (t.k = 0 ∧ ∃ V, e = .returned (.tuple #[V, .nilIface]) ∧ w'.ownsRow w.heap.size 138 3 V l.length (flatA l) ∧ IsRdr w' g t ∧ Just g w w')
def KRel (g : Nat) (t : St) (n : Nat) (w : World) (v i : Value) (wr : World) : Prop :=
  ∃ k : Nat, k ≤ n ∧ i = .int .i64 k ∧ RC g w.heap.size (itA t k).1 (lastOf (itA t k).2) (itA t k).2 v w wr
theorem infoAct : (Tryd.prog.info? 138).map (fun i => (i.zero, i.size, i.bytes)) = some (some (.agg #[.int .i64 0, .int .i64 0, .int .i64 0]), 3, 24) := by kernel_rfl
set_option maxRecDepth 8000 in
set_option maxHeartbeats 3200000 in
theorem aread_any (g : Nat) (t : St) (n : Int) (w : World) (hn : Names w) (h : IsRdr w g t) (ho : Ok t) :
    Calls Tryd.prog 39 #[.pointer (some ⟨g, 0, none⟩), .int .i64 n] w (KPost g (rdA t n.toNat) (rdL t n.toNat) w) := by
  obtain ⟨i0, hi, hz0, hz1, hz2⟩ := info_parts infoAct
  have HN := Lib.hid hn
  have HR := Lib.hid h
  have HGL : Hid (g < w.heap.size) := h.lt
  have HEN := Lib.hid (enter_any g t 5 w h)
  have ho2 : Ok (secS t 5) := ho
  have HP : Hid (rdA t n.toNat = (itA (secS t 5) n.toNat).1) := rfl
  have HL : Hid (rdL t n.toNat = (itA (secS t 5) n.toNat).2) := rfl
  obtain ⟨T, hT⟩ : ∃ x, secS t 5 = x := ⟨_, rfl⟩
  rw [hT] at HEN HP HL ho2
  have HOK := Lib.hid (fun i => ok_it ho2 i)
  have HPL := Lib.hid (it_place T)
  rw [HP.out, HL.out]
  obtain ⟨N, hN⟩ : ∃ N, n.toNat = N := ⟨_, rfl⟩
  have HNN := Lib.hid hN
  rw [hN]
  clear hT HP HL ho2 hn h ho hN
  go_enter Tryd.func39, Tryd.ntmps39
  go_wp2_with fail
  refine HEN.out.mono ?_
  rintro e w1 ⟨rfl, hr1, hj1⟩
  have HR1 := Lib.hid hr1
  have HJ1 := Lib.hid hj1
  have HGL1 : Hid (g < w1.heap.size) := hr1.lt
  clear hr1 hj1 HEN
  go_wp2_with fail
  refine (rising_any w1).mono ?_
  rintro e w2 ⟨rfl, hl2, hb2⟩
  have hrc : RC g w1.heap.size (itA T 0).1 (lastOf (itA T 0).2) (itA T 0).2 (.slice none 0 0) w1 w2 := ⟨HR1.out.kept hb2, hl2, World.ownsRow_nil _ _ _ _, Just.of_below hb2, HGL1.out, rfl⟩
  have HRC := Lib.hid hrc
  clear hrc hl2 hb2
  unfold CV
  go_wp2_with fail
  go_loopw [6, 8] (fun v i wr => KRel g T N w1 v i wr) (fun _ i _ => N - (intOf i).toNat)
  case atStart => exact ⟨0, Nat.zero_le _, rfl, HRC.out⟩
  case round =>
    obtain ⟨k, hk, rfl, hf⟩ := hrel
    have HF := Lib.hid hf
    clear hf HRC
    by_cases hlt : k < N
    · have hkn : (k : Int) < n := by have := HNN.out; omega
      by_cases hk0 : (itA T k).1.k = 0
      · have HE := Lib.hid (err_ok g _ _ HF.out.rd hk0)
        have HNX : Hid (itA T (k + 1) = (aS (itA T k).1 (lastOf (itA T k).2), (itA T k).2 ++ [aV (itA T k).1])) := by show _ = _; rw [itA, if_pos hk0]
        have HLE : Hid ((itA T k).2.length = k ∧ k ≤ 1099511627776) := by
          refine ⟨it_len_ok T k hk0, ?_⟩
          have h1 := HPL.out k hk0
          have h2 := HOK.out k
          have h3 := h2.1
          have h4 := h2.2
          omega
        have HOT := Lib.hid (HOK.out k)
        obtain ⟨tk, htk⟩ : ∃ x, (itA T k).1 = x := ⟨_, rfl⟩
        obtain ⟨lk, hlk⟩ : ∃ x, (itA T k).2 = x := ⟨_, rfl⟩
        rw [htk, hlk] at HF HNX
        rw [hlk] at HLE
        rw [htk] at HOT
        obtain ⟨la, hla⟩ : ∃ x, lastOf lk = x := ⟨_, rfl⟩
        rw [hla] at HNX HF
        have HNK := Lib.hid (fun W (j : Just g w1 W) => Rdr.Names.just (Rdr.Names.just HN.out HR.out HJ1.out) HR1.out j)
        have HO1 := Lib.hid (ok_num HOT.out 1)
        have HO2 : Hid (Ok (aS2 tk)) := ok_num HO1.out 1
        have HFS : Hid (aS tk la = needS (lessB la (aV tk)) (needS (formB (aV tk).a) (aS3 tk) 6 (aS2 tk).p) 9 tk.p) := rfl
        have HFV : Hid (aV tk = ⟨numV tk 1, numV (numS tk 1) 1, numV (aS2 tk) 1⟩) := rfl
        rw [HFV.out] at HNX HFS
        have HU1 : Hid (∀ W, Names W → IsRdr W g tk → Calls Tryd.prog 85 #[.pointer (some ⟨g, 0, none⟩)] W (IPost .i64 g (numS tk 1) (numV tk 1) W)) := fun W hn hr => u8_any g tk W hn hr HOT.out
        have HU2 : Hid (∀ W, Names W → IsRdr W g (numS tk 1) → Calls Tryd.prog 85 #[.pointer (some ⟨g, 0, none⟩)] W (IPost .i64 g (aS2 tk) (numV (numS tk 1) 1) W)) := fun W hn hr => u8_any g (numS tk 1) W hn hr HO1.out
        have HU3 : Hid (∀ W, Names W → IsRdr W g (aS2 tk) → Calls Tryd.prog 85 #[.pointer (some ⟨g, 0, none⟩)] W (IPost .i64 g (aS3 tk) (numV (aS2 tk) 1) W)) := fun W hn hr => u8_any g (aS2 tk) W hn hr HO2.out
        have HPL1 := Lib.hid (place_any g tk wr HF.out.rd)
        have HPL2 := Lib.hid (fun W hr => place_any g (aS2 tk) W hr)
        obtain ⟨t1, ht1⟩ : ∃ x, numS tk 1 = x := ⟨_, rfl⟩
        obtain ⟨t2, ht2⟩ : ∃ x, aS2 tk = x := ⟨_, rfl⟩
        obtain ⟨t3, ht3⟩ : ∃ x, aS3 tk = x := ⟨_, rfl⟩
        obtain ⟨v1, hv1⟩ : ∃ x, numV tk 1 = x := ⟨_, rfl⟩
        rw [ht1] at HU1 HU2 HNX HFS
        obtain ⟨v2, hv2⟩ : ∃ x, numV t1 1 = x := ⟨_, rfl⟩
        rw [ht2] at HU2 HU3 HNX HFS HPL2
        obtain ⟨v3, hv3⟩ : ∃ x, numV t2 1 = x := ⟨_, rfl⟩
        rw [hv1, hv2, hv3] at HNX HFS
        rw [hv1] at HU1
        rw [hv2] at HU2
        rw [ht3, hv3] at HU3
        rw [ht3] at HFS
        obtain ⟨t4, ht4⟩ : ∃ x, needS (formB (v3 : Int)) t3 6 t2.p = x := ⟨_, rfl⟩
        obtain ⟨t5, ht5⟩ : ∃ x, aS tk la = x := ⟨_, rfl⟩
        have HFS4 : Hid (needS (formB (v3 : Int)) t3 6 t2.p = t4) := ht4
        have HFS5 : Hid (needS (lessB la ⟨v1, v2, v3⟩) t4 9 tk.p = t5) := by
          show _ = _
          have h := HFS.out
          dsimp only at h
          rw [ht4, ht5] at h
          exact h.symm
        rw [ht5] at HNX
        obtain ⟨P0, hP0⟩ : ∃ x, tk.p = x := ⟨_, rfl⟩
        obtain ⟨P2, hP2⟩ : ∃ x, t2.p = x := ⟨_, rfl⟩
        rw [hP0] at HFS5 HPL1
        rw [hP2] at HFS4 HPL2
        have HNE4 := Lib.hid (fun W hn hr => need_any g (formB (v3 : Int)) t3 6 P2 W hn (by omega) hr)
        have HNE5 := Lib.hid (fun W hn hr => need_any g (lessB la ⟨v1, v2, v3⟩) t4 9 P0 W hn (by omega) hr)
        rw [HFS4.out] at HNE4
        rw [HFS5.out] at HNE5
        have HAB := Lib.hid (fun W h => above_any w1.heap.size la ⟨v1, v2, v3⟩ W h)
        have HIA := Lib.hid (fun W => isAction_any (v3 : Int) W)
        obtain ⟨bf, hbf⟩ : ∃ b, formB (v3 : Int) = b := ⟨_, rfl⟩
        obtain ⟨bl, hbl⟩ : ∃ b, lessB la ⟨v1, v2, v3⟩ = b := ⟨_, rfl⟩
        rw [hbf] at HNE4 HIA
        rw [hbl] at HNE5 HAB
        unfold actC at HAB
        dsimp only at HAB
        clear hk0 htk hlk hla HFS HFV HO1 HO2 HOT ht1 ht2 ht3 hv1 hv2 hv3 ht4 ht5 hP0 hP2 hbf hbl HFS4 HFS5
        go_wp2_with (first
          | (go_at_call 60; refine HE.out.mono ?_; rintro e w' ⟨rfl, rfl⟩)
          | (go_at_call 29; refine HPL1.out.mono ?_; rintro e w' ⟨rfl, rfl⟩))
        refine (HU1.out _ (HNK.out _ HF.out.just) HF.out.rd).mono ?_
        rintro e w3 ⟨rfl, hr3, hj3⟩
        have HF3 := Lib.hid (HF.out.rdr hr3 hj3)
        clear hr3 hj3 HE HPL1
        go_wp2_with fail
        refine (HU2.out _ (HNK.out _ HF3.out.just) HF3.out.rd).mono ?_
        rintro e w4 ⟨rfl, hr4, hj4⟩
        have HF4 := Lib.hid (HF3.out.rdr hr4 hj4)
        clear hr4 hj4
        go_wp2_with fail
        have hCL := HF4.out.just.size
        have hlt4 := lt_of_block HF4.out.last
        have hne4 : ∀ k, u6.ownBlock = some k → k ≠ w4.heap.size := fun k hk => by have := (HF4.out.own.lt k hk).2; omega
        have hf5 : RC g w1.heap.size t2 la lk u6 w1 (w4.alloc (.cells #[.int .i64 v1, .int .i64 v2, .int .i64 0] 138)) := HF4.out.keep ((Below.refl _ _).alloc (Nat.le_refl _) _)
        have hc5 := heap_alloc_new w4 (.cells #[.int .i64 v1, .int .i64 v2, .int .i64 0] 138)
        obtain ⟨C, hC⟩ : ∃ C, w4.heap.size = C := ⟨_, rfl⟩
        obtain ⟨w5, hw5⟩ : ∃ X, w4.alloc (.cells #[.int .i64 v1, .int .i64 v2, .int .i64 0] 138) = X := ⟨_, rfl⟩
        rw [hw5] at hf5 hc5
        rw [hC] at hc5 hlt4 hne4
        have HF5 := Lib.hid hf5
        have HC5 := Lib.hid hc5
        have HNC := Lib.hid hne4
        have HLC : Hid (w1.heap.size < C ∧ C ≠ g) := by
          refine ⟨hlt4, ?_⟩
          have := HGL1.out
          omega
        rw [hw5, hC]
        clear hf5 hc5 hne4 hlt4 hCL hC hw5 HF4 HF3 HF
        refine (HPL2.out _ HF5.out.rd).mono ?_
        rintro e w' ⟨rfl, rfl⟩
        go_wp2_with fail
        refine (HU3.out _ (HNK.out _ HF5.out.just) HF5.out.rd).mono ?_
        rintro e w6 ⟨rfl, hr6, hj6⟩
        have HF6 := Lib.hid (HF5.out.rdr hr6 hj6)
        have hc6 := (hj6.block C (lt_of_block HC5.out) HLC.out.2).trans HC5.out
        have HC6 := Lib.hid hc6
        have e2 := cell_of_row w6 _ 2 _ _ _ hc6
        simp only [List.getElem?_toArray, List.getElem?_cons_zero, List.getElem?_cons_succ] at e2
        clear hr6 hj6 hc6 HC5 HF5 HPL2
        have f2 := frozen_of_row w6 _ 2 _ _ HC6.out
        have hf7 : RC g w1.heap.size t3 la lk u6 w1 (w6.setCell ⟨C, 2, none⟩ (.int .i64 v3)) := HF6.out.poke HC6.out HLC.out.1 HNC.out 2 _
        have hc7 : (w6.setCell ⟨C, 2, none⟩ (.int .i64 v3)).heap[C]? = some (.cells #[.int .i64 v1, .int .i64 v2, .int .i64 v3] 138 (0, 0)) := by rw [heap_setCell_same w6 _ _ _ _ _ HC6.out]; rfl
        have HF7 := Lib.hid hf7
        have HC7 := Lib.hid hc7
        clear hf7 hc7
        go_wp2_with (go_at_call 87; refine (HIA.out _).mono ?_; rintro e w' ⟨rfl, rfl⟩)
        refine (HNE4.out _ (HNK.out _ HF7.out.just) HF7.out.rd).mono ?_
        rintro e w8 ⟨rfl, hr8, hj8⟩
        have HF8 := Lib.hid (HF7.out.rdr hr8 hj8)
        have hc8 := (hj8.block C (lt_of_block HC7.out) HLC.out.2).trans HC7.out
        have HC8 := Lib.hid hc8
        have d0 := cell_of_row w8 _ 0 _ _ _ hc8
        have d1 := cell_of_row w8 _ 1 _ _ _ hc8
        have d2 := cell_of_row w8 _ 2 _ _ _ hc8
        simp only [List.getElem?_toArray, List.getElem?_cons_zero, List.getElem?_cons_succ] at d0 d1 d2
        clear e2 f2 hr8 hj8 hc8 HF6 HC6 HF7 HC7
        go_wp2_with (go_at_call 111; refine (HAB.out _ HF8.out.last).mono ?_; rintro e w9 ⟨rfl, hl9, hj9⟩; have HF9 := Lib.hid (HF8.out.asked (la' := ⟨v1, v2, v3⟩) hl9 hj9); have HC9 := Lib.hid ((hj9.block C (lt_of_block HC8.out) (by have := HLC.out.1; omega)).trans HC8.out); clear hl9 hj9)
        refine (HNE5.out _ (HNK.out _ HF9.out.just) HF9.out.rd).mono ?_
        rintro e w10 ⟨rfl, hr10, hj10⟩
        have HF10 := Lib.hid (HF9.out.rdr hr10 hj10)
        have hc10 := (hj10.block C (lt_of_block HC9.out) HLC.out.2).trans HC9.out
        have g0 := cell_of_row w10 _ 0 _ _ _ hc10
        have g1 := cell_of_row w10 _ 1 _ _ _ hc10
        have g2 := cell_of_row w10 _ 2 _ _ _ hc10
        simp only [List.getElem?_toArray, List.getElem?_cons_zero, List.getElem?_cons_succ] at g0 g1 g2
        have HRX := Lib.hid (HF10.out.keep ((Below.refl _ _).alloc (Nat.le_refl _) (.cells #[.int .i64 v1, .int .i64 v2, .int .i64 v3] 138)))
        clear d0 d1 d2 hr10 hj10 hc10 HF8 HC8 HF9 HC9
        go_wp2_with (at_builtin; refine wpList_append_own _ rfl _ _ 77 rfl (w1.heap.size + 1) 138 i0 (.agg #[.int .i64 0, .int .i64 0, .int .i64 0]) 3 24 Tryd.underlying77 hi hz0 hz1 hz2 rfl (by decide) _ lk.length _ rfl HRX.out.own ⟨w10.heap.size, 0, none⟩ 1 1 [.int .i64 v1, .int .i64 v2, .int .i64 v3] rfl rfl ?c1 ?c2 ?c3 ?c4 ?c5 ?_)
        case c1 =>
          intro j u hj
          have hrow := heap_alloc_new w10 (.cells #[.int .i64 v1, .int .i64 v2, .int .i64 v3] 138)
          have e : (Addr.mk w10.heap.size 0 none).add j = ⟨w10.heap.size, j, none⟩ := by cases j <;> simp [Addr.add]
          rw [e, cell_of_row _ _ _ _ _ _ hrow, ← hj]
          simp
        case c2 => intro u hu; simp at hu; rcases hu with rfl | rfl | rfl <;> rfl
        case c3 => have := HLE.out; unfold maxLen; omega
        case c4 => have := HLE.out; omega
        case c5 => have := HRX.out.just.size; have := lt_of_block HRX.out.last; simp at this ⊢; omega
        intro v' w12 ho12 hg12 _
        have HF12 := Lib.hid (HRX.out.grown (x := ⟨v1, v2, v3⟩) hg12 (lk.length + 1) (by simp) ho12 (fun e => by have := (HRX.out.own.lt _ e).1; omega))
        clear ho12 hg12 g0 g1 g2
        have hkb := HLE.out.2
        have hk1 : IntKind.i64.wrap ((k : Int) + 1) = (k : Int) + 1 := IntWalk.i64_in _ (by omega)
        go_wp2
        go_roundw
        case rel => exact ⟨k + 1, by omega, by go_num, by rw [HNX.out, last_snoc]; exact HF12.out⟩
        case measure => simp [intOf]; omega
      · have HB := Lib.hid (err_bad g _ _ HF.out.rd hk0)
        have HE := Lib.hid (err_any g _ _ HF.out.rd)
        have HST := Lib.hid (it_stay T k hk0 (N - k))
        rw [show k + (N - k) = N by omega] at HST
        have HK := Lib.hid hk0
        have HJ := Lib.hid (HJ1.out.trans HF.out.just)
        clear hk0
        go_wp2_with fail
        refine HB.out.mono ?_
        rintro e w' ⟨u, y, rfl, rfl⟩
        go_wp2_with fail
        refine HE.out.mono ?_
        rintro e w' ⟨x, hw, rfl, rfl⟩
        obtain ⟨u, y, rfl⟩ : ∃ u y, x = .iface u y := by
          rcases hw with ⟨h1, _⟩ | ⟨_, _, h3⟩
          · exact absurd h1 HK.out
          · exact err_of h3
        have HW := Lib.hid hw
        clear hw
        go_wp2
        go_ret2
        rw [HST.out]
        exact .inl ⟨HK.out, _, rfl, HW.out, HF.out.rd, HJ.out⟩
    · obtain rfl : k = N := by omega
      have hkn : ¬ (k : Int) < n := by have := HNN.out; omega
      have HJ := Lib.hid (HJ1.out.trans HF.out.just)
      by_cases hk0 : (itA T k).1.k = 0
      · have HE := Lib.hid (err_ok g _ _ HF.out.rd hk0)
        have HK := Lib.hid hk0
        clear hk0
        go_wp2_with (first
          | (go_at_call 60; refine HE.out.mono ?_; rintro e w' ⟨rfl, rfl⟩))
        go_ret2
        exact .inr ⟨HK.out, _, rfl, row_base HF.out.own (by have := HJ1.out.size; omega), HF.out.rd, HJ.out⟩
      · have HE := Lib.hid (err_any g _ _ HF.out.rd)
        have HK := Lib.hid hk0
        clear hk0
        go_wp2_with fail
        refine HE.out.mono ?_
        rintro e w' ⟨x, hw, rfl, rfl⟩
        obtain ⟨u, y, rfl⟩ : ∃ u y, x = .iface u y := by
          rcases hw with ⟨h1, _⟩ | ⟨_, _, h3⟩
          · exact absurd h1 HK.out
          · exact err_of h3
        have HW := Lib.hid hw
        clear hw
        go_wp2
        go_ret2
        exact .inl ⟨HK.out, _, rfl, HW.out, HF.out.rd, HJ.out⟩
end Go.Proofs.YtpdoihndpnpifaaDoor.Act

namespace Go.Proofs.YtpdoihndpnpifaaDoor.Act

open Go.RowKit Go.PlainAid Go.Proofs.YtpdoihndpnpifaaDoor.Oct Go.Proofs.YtpdoihndpnpifaaDoor.Flt Go.Proofs.YtpdoihndpnpifaaDoor.Rdr Go.Proofs.YtpdoihndpnpifaaDoor.Args

open Go.Proofs.YtpdoihndpnpifaaDoor.Prt (below_drewN)

open Go.Proofs.YtpdoihndpnpifaaDoor.Hdr (below_set2)

set_option linter.unusedVariables false

set_option linter.unusedSimpArgs false

theorem owns_empty (w : World) : (w.alloc (.cells #[] 138)).ownsRow w.heap.size 138 3 (.slice (some ⟨w.heap.size, 0, none⟩) 0 0) 0 [] :=
  ⟨rfl, .inr ⟨_, 0, #[], rfl, Nat.le_refl _, heap_alloc_new _ _, by simp⟩⟩
/-- Within the document's Get: the reader, the result's place, the row. -/
structure RG (t : St) (l : List A3) (V : Value) (w wr : World) : Prop where
  rd : wr.heap[w.heap.size]? = some (.cells (rdC t) 61 (0, 0))
  res : wr.heap[w.heap.size + 1]? = some (.cells rd0 61 (0, 0))
  own : wr.ownsRow (w.heap.size + 2) 138 3 V l.length (flatA l)
  below : Below w.heap.size w wr
theorem RG.keep {t : St} {l : List A3} {V : Value} {w wr w' : World} (f : RG t l V w wr) (b : Below wr.heap.size wr w') : RG t l V w w' :=
  ⟨(b.block _ (lt_of_block f.rd)).trans f.rd, (b.block _ (lt_of_block f.res)).trans f.res, row_beside f.own (Just.of_below (g := wr.heap.size) b) (fun k hk => by have := (f.own.lt k hk).2; omega), f.below.trans (b.mono f.below.size)⟩
theorem own_no_reader {w : World} {B n : Nat} {V : Value} {xs : List Value} {X : Nat} {cs : Array Value} (h : w.ownsRow B 138 3 V n xs) (hx : w.heap[X]? = some (.cells cs 61 (0, 0))) : ∀ k, V.ownBlock = some k → k ≠ X := by
  intro k hk e
  obtain ⟨c2, e2⟩ := Prt.own_block h hk
  rw [e, hx] at e2
  simp only [Option.some.injEq, Obj.cells.injEq] at e2
  exact absurd e2.2.1 (by decide)
theorem RG.grown {t : St} {x : A3} {l : List A3} {V V' : Value} {w wr w' : World} (f : RG t l V w wr) (hg : wr.grownBy w' V.ownBlock) (n : Nat) (hn : n = (l ++ [x]).length) (ho : w'.ownsRow (w.heap.size + 2) 138 3 V' n (flatA l ++ actL x)) : RG t (l ++ [x]) V' w w' := by
  have hne : ∀ k, k < w.heap.size → some k ≠ V.ownBlock := fun k hk e => by have := (f.own.lt k e.symm).1; omega
  refine ⟨(hg.block _ (lt_of_block f.rd) (fun e => own_no_reader f.own f.rd _ e.symm rfl)).trans f.rd, (hg.block _ (lt_of_block f.res) (fun e => own_no_reader f.own f.res _ e.symm rfl)).trans f.res, by rw [← hn, flatA_snoc]; exact ho, f.below.grown hg f.below.size (fun j hj => by have := (f.own.lt j hj).1; omega)⟩
/-- The document's reader of the round, and its act, besides. -/
structure RJ (X C : Nat) (u : St) (q : A3) (t : St) (l : List A3) (V : Value) (w wr : World) : Prop where
  g : RG t l V w wr
  x : wr.heap[X]? = some (.cells (rdC u) 61 (0, 0))
  act : wr.heap[C]? = some (.cells (actC q) 138 (0, 0))
  hx : w.heap.size + 1 < X
theorem act_no_reader {w : World} {b : Nat} {cs cs' : Array Value} {X : Nat} (h : w.heap[b]? = some (.cells cs 138 (0, 0))) (hx : w.heap[X]? = some (.cells cs' 61 (0, 0))) : b ≠ X := by
  rintro rfl
  rw [h] at hx
  simp only [Option.some.injEq, Obj.cells.injEq] at hx
  exact absurd hx.2.1 (by decide)
theorem RJ.keep {X C : Nat} {u : St} {x : A3} {t : St} {l : List A3} {V : Value} {w wr w' : World} (f : RJ X C u x t l V w wr) (b : Below wr.heap.size wr w') : RJ X C u x t l V w w' :=
  ⟨f.g.keep b, (b.block _ (lt_of_block f.x)).trans f.x, (b.block _ (lt_of_block f.act)).trans f.act, f.hx⟩
theorem RJ.drewN {X C : Nat} {u : St} {x : A3} {t : St} {l : List A3} {V : Value} {w wr : World} (f : RJ X C u x t l V w wr) (n : Nat) : RJ X C u x t l V w (wr.drewN n) := f.keep ⟨rfl, rfl, rfl, Nat.le_refl _, fun _ _ => rfl⟩
theorem RJ.drew {X C : Nat} {u : St} {x : A3} {t : St} {l : List A3} {V : Value} {w wr : World} (f : RJ X C u x t l V w wr) : RJ X C u x t l V w wr.drew := f.keep ⟨rfl, rfl, rfl, Nat.le_refl _, fun _ _ => rfl⟩
theorem just_row (w : World) (X : Nat) (cs : Array Value) : Just X w (w.setRow X cs) := ⟨rfl, rfl, rfl, (by simp), fun k _ hne => setRow_other _ _ _ _ hne⟩
theorem RG.setx {X : Nat} {t : St} {l : List A3} {V : Value} {w wr : World} {u : St} (f : RG t l V w wr) (hX : wr.heap[X]? = some (.cells (rdC u) 61 (0, 0))) (hx : w.heap.size + 1 < X) (u' : St) : RG t l V w (wr.setRow X (rdC u')) := by
  have j := just_row wr X (rdC u')
  exact ⟨(j.block _ (lt_of_block f.rd) (by omega)).trans f.rd, (j.block _ (lt_of_block f.res) (by omega)).trans f.res, row_beside f.own j (own_no_reader f.own hX), below_set2 f.below (by omega)⟩
theorem RJ.setx {X C : Nat} {u : St} {x : A3} {t : St} {l : List A3} {V : Value} {w wr : World} (f : RJ X C u x t l V w wr) (u' : St) : RJ X C u' x t l V w (wr.setRow X (rdC u')) :=
  ⟨f.g.setx f.x f.hx u', setRow_heap _ _ _ _ _ _ f.x, ((just_row wr X (rdC u')).block _ (lt_of_block f.act) (act_no_reader f.act f.x)).trans f.act, f.hx⟩
theorem RJ.copy {X C : Nat} {u : St} {x : A3} {t : St} {l : List A3} {V : Value} {w wr : World} (f : RJ X C u x t l V w wr) : RG u l V w (wr.setRow w.heap.size (rdC u)) ∧ (wr.setRow w.heap.size (rdC u)).heap[C]? = some (.cells (actC x) 138 (0, 0)) := by
  have j := just_row wr w.heap.size (rdC u)
  exact ⟨⟨setRow_heap _ _ _ _ _ _ f.g.rd, (j.block _ (lt_of_block f.g.res) (by omega)).trans f.g.res, row_beside f.g.own j (own_no_reader f.g.own f.g.rd), below_set2 f.g.below (Nat.le_refl _)⟩, (j.block _ (lt_of_block f.act) (act_no_reader f.act f.g.rd)).trans f.act⟩
/-- A row of the call's own, as a slice, reads as acts. -/
theorem own_at {w : World} {B : Nat} {V : Value} {l : List A3} (h : w.ownsRow B 138 3 V l.length (flatA l)) : ∃ A c, V = .slice A l.length c ∧ ActsAt w A l ∧ (A = none → c = 0) := by
  rcases h.2 with ⟨rfl, h0⟩ | ⟨g, c, cur, rfl, h2, h3, h4⟩
  · refine ⟨none, 0, by rw [h0], fun i x hx => ?_, fun _ => rfl⟩
    have : l = [] := List.eq_nil_of_length_eq_zero h0
    rw [this] at hx; simp at hx
  · exact ⟨_, c, rfl, own_acts h, fun e => by cases e⟩
theorem kept7 {W w2 : World} {a b c d e f g : Addr} {va vb vc vd ve vf vg : Value} (h : W.cell? a = some va ∧ W.cell? b = some vb ∧ W.cell? c = some vc ∧ W.cell? d = some vd ∧ W.cell? e = some ve ∧ W.cell? f = some vf ∧ W.cell? g = some vg) (hb : Below W.heap.size W w2) : w2.cell? a = some va ∧ w2.cell? b = some vb ∧ w2.cell? c = some vc ∧ w2.cell? d = some vd ∧ w2.cell? e = some ve ∧ w2.cell? f = some vf ∧ w2.cell? g = some vg :=
  ⟨(hb.cell (Go.block_lt_of_cell h.1)).trans h.1, kept6 h.2 hb⟩
theorem rd_k {w : World} {b : Nat} {t : St} (h : w.heap[b]? = some (.cells (rdC t) 61 (0, 0))) : w.cell? ⟨b, 3, none⟩ = some (.int .i64 t.k) := by rw [cell_of_row w _ _ _ _ _ h]; rfl
theorem rd_p {w : World} {b : Nat} {t : St} (h : w.heap[b]? = some (.cells (rdC t) 61 (0, 0))) : w.cell? ⟨b, 1, none⟩ = some (.int .i64 t.p) := by rw [cell_of_row w _ _ _ _ _ h]; rfl
theorem need_had {t : St} {b : Bool} {k a : Int} (h : t.k ≠ 0) : needS b t k a = t := by
  unfold needS; split
  · rfl
  · exact fail_had h
def GPost (t : St) (l : List A3) (w : World) (e : Ending) (w' : World) : Prop := ∃ V, e = .returned (.tuple #[.agg (rdC t), V]) ∧ ((t.k ≠ 0 ∧ V = .slice none 0 0) ∨ (t.k = 0 ∧ w'.ownsRow w.heap.size 138 3 V l.length (flatA l))) ∧ Below w.heap.size w w'
def GRel11 (t : St) (n : Nat) (w : World) (v i : Value) (wr : World) : Prop :=
  ∃ k : Nat, k ≤ n ∧ i = .int .i64 k ∧ RG (itA t k).1 (itA t k).2 v w wr
set_option maxRecDepth 8000 in
set_option maxHeartbeats 16000000 in
theorem get11_any (t : St) (n : Int) (w : World) (ho : Ok t) :
    Calls Tryd.prog 41 #[.agg (rdC t), .int .i64 n] w (GPost (rdA t n.toNat) (rdL t n.toNat) w) := by
  obtain ⟨i0, hi, hz0, hz1, hz2⟩ := info_parts infoAct
  have ho2 : Ok (secS t 5) := ho
  have HP : Hid (rdA t n.toNat = (itA (secS t 5) n.toNat).1) := rfl
  have HL : Hid (rdL t n.toNat = (itA (secS t 5) n.toNat).2) := rfl
  obtain ⟨T, hT⟩ : ∃ x, secS t 5 = x := ⟨_, rfl⟩
  have HTC : Hid (rdC T = #[.string t.s, .int .i64 t.p, .int .i64 5, .int .i64 t.k, .int .i64 t.fs, .int .i64 t.fa]) := by show _ = _; rw [← hT]; rfl
  rw [hT] at HP HL ho2
  have HOK := Lib.hid (fun i => ok_it ho2 i)
  have HPL := Lib.hid (it_place T)
  rw [HP.out, HL.out]
  obtain ⟨N, hN⟩ : ∃ N, n.toNat = N := ⟨_, rfl⟩
  have HNN := Lib.hid hN
  have HSR := Lib.hid size_rd
  have HSA := Lib.hid size_act
  have HST0 : Hid (RG T [] (.slice (some ⟨w.heap.size + 1 + 1, 0, none⟩) 0 0) w (((w.alloc (.cells #[.string t.s, .int .i64 t.p, .int .i64 5, .int .i64 t.k, .int .i64 t.fs, .int .i64 t.fa] 61)).alloc (.cells #[.string ⟨#[]⟩, .int .i64 0, .int .i64 0, .int .i64 0, .int .i64 0, .int .i64 0] 61)).alloc (.cells #[] 138))) := by
    show RG _ _ _ _ _
    rw [← HTC.out]
    refine ⟨(heap_alloc_old _ _ (by simp; omega)).trans ((heap_alloc_old _ _ (by simp)).trans (heap_alloc_new _ _)), (heap_alloc_old _ _ (by simp)).trans (Hdr.second_new w _ _), ?_, (two_below w _ _).alloc (by simp; omega) _⟩
    have h := owns_empty ((w.alloc (.cells (rdC T) 61)).alloc (.cells #[.string ⟨#[]⟩, .int .i64 0, .int .i64 0, .int .i64 0, .int .i64 0, .int .i64 0] 61))
    simp only [World.size_alloc] at h
    exact h
  rw [hN]
  unfold rdC
  clear hT HP HL ho2 ho hN
  go_enter Tryd.func41, Tryd.ntmps41
  go_wp2_with fail
  go_loopw [6, 7] (fun v i wr => GRel11 T N w v i wr) (fun _ i _ => N - (intOf i).toNat)
  case atStart => exact ⟨0, Nat.zero_le _, rfl, HST0.out⟩
  case round =>
    obtain ⟨k, hk, rfl, hf⟩ := hrel
    have HF := Lib.hid hf
    clear hf HST0
    by_cases hlt : k < N
    · have hkn : (k : Int) < n := by have := HNN.out; omega
      by_cases hk0 : (itA T k).1.k = 0
      · have HNX : Hid (itA T (k + 1) = (aS (itA T k).1 (lastOf (itA T k).2), (itA T k).2 ++ [aV (itA T k).1])) := by show _ = _; rw [itA, if_pos hk0]
        have HLE : Hid ((itA T k).2.length = k ∧ k ≤ 1099511627776) := by
          refine ⟨it_len_ok T k hk0, ?_⟩
          have h1 := HPL.out k hk0
          have h2 := HOK.out k
          have h3 := h2.1
          have h4 := h2.2
          omega
        have HOT := Lib.hid (HOK.out k)
        obtain ⟨tk, htk⟩ : ∃ x, (itA T k).1 = x := ⟨_, rfl⟩
        obtain ⟨lk, hlk⟩ : ∃ x, (itA T k).2 = x := ⟨_, rfl⟩
        rw [htk] at hk0
        rw [htk, hlk] at HF HNX
        rw [hlk] at HLE
        rw [htk] at HOT
        have tk0 : ((tk.k : Int) == 0) = true := by simp; exact hk0
        have HK0 := Lib.hid hk0
        have HO1 := Lib.hid (ok_num HOT.out 1)
        have HO2 : Hid (Ok (aS2 tk)) := ok_num HO1.out 1
        have HFS : Hid (∀ la, aS tk la = needS (lessB la (aV tk)) (needS (formB (aV tk).a) (aS3 tk) 6 (aS2 tk).p) 9 tk.p) := fun _ => rfl
        have HFV : Hid (aV tk = ⟨numV tk 1, numV (numS tk 1) 1, numV (aS2 tk) 1⟩) := rfl
        have HP2 : Hid ((aS3 tk).k = 0 → (aS2 tk).p = tk.p + 2) := fun h => by
          obtain ⟨k2, p2, _⟩ := num_k0 (t := aS2 tk) h
          obtain ⟨k1, p1, _⟩ := num_k0 (t := numS tk 1) k2
          obtain ⟨_, p0, _⟩ := num_k0 k1
          show (numS (numS tk 1) 1).p = _
          rw [p1, p0]
        have HPM : Hid (tk.p ≤ 1099511627776) := Nat.le_trans HOT.out.1 HOT.out.2
        rw [HFV.out] at HNX HFS
        have HU1 := Lib.hid (fun W => rnum_any tk 1 W HOT.out (by omega))
        have HU2 := Lib.hid (fun W => rnum_any (numS tk 1) 1 W HO1.out (by omega))
        have HU3 := Lib.hid (fun W => rnum_any (aS2 tk) 1 W HO2.out (by omega))
        have hv1 := u8_le tk
        have hv2 := u8_le (numS tk 1)
        have hv3 := u8_le (aS2 tk)
        have e2 : numS (numS tk 1) 1 = aS2 tk := rfl
        have e3 : numS (aS2 tk) 1 = aS3 tk := rfl
        rw [e2] at HU2
        rw [e3] at HU3
        obtain ⟨t1, ht1⟩ : ∃ x, numS tk 1 = x := ⟨_, rfl⟩
        obtain ⟨t2, ht2⟩ : ∃ x, aS2 tk = x := ⟨_, rfl⟩
        obtain ⟨t3, ht3⟩ : ∃ x, aS3 tk = x := ⟨_, rfl⟩
        obtain ⟨v1, hv1'⟩ : ∃ x, numV tk 1 = x := ⟨_, rfl⟩
        rw [ht1] at HU1 HU2 HNX HFS hv2
        obtain ⟨v2, hv2'⟩ : ∃ x, numV t1 1 = x := ⟨_, rfl⟩
        rw [ht2] at HU2 HU3 HNX HFS hv3 HP2
        obtain ⟨v3, hv3'⟩ : ∃ x, numV t2 1 = x := ⟨_, rfl⟩
        rw [hv1', hv2', hv3'] at HNX HFS
        rw [hv1'] at HU1 hv1
        rw [hv2'] at HU2 hv2
        rw [ht3, hv3'] at HU3
        rw [hv3'] at hv3
        rw [ht3] at HFS HP2
        have hw1 : IntKind.i64.wrap (v1 : Int) = v1 := IntWalk.i64_in _ (by omega)
        have hw2 : IntKind.i64.wrap (v2 : Int) = v2 := IntWalk.i64_in _ (by omega)
        have hw3 : IntKind.i64.wrap (v3 : Int) = v3 := IntWalk.i64_in _ (by omega)
        have hwp : IntKind.i64.wrap ((tk.p : Int) + 2) = (tk.p : Int) + 2 := IntWalk.i64_in _ (by have := HPM.out; omega)
        have hq1 := rd_p HF.out.rd
        have hq3 := rd_k HF.out.rd
        clear hk0 htk hlk HFV HO1 HO2 HOT ht1 ht2 ht3 hv1 hv2 hv3 hv1' hv2' hv3' e2 e3
        go_wp2_with (first
          | ((with_reducible show wpList _ _ _ _ _ _); refine wpList_load_row rfl 61 (.tmp 2) rfl (w.heap.size) rfl 61 (rdC tk) (0, 0) _ HF.out.rd Tryd.underlying61 rfl (by rw [HSR.out]; rfl) ?_))
        refine (HU1.out _).mono ?_
        rintro e w3 ⟨rfl, hb3⟩
        have HF3 := Lib.hid (HF.out.keep hb3)
        clear hb3
        dsimp only [rdC]
        go_upto_region 8 with fail
        have hx3 := heap_alloc_new w3 (.cells (rdC t1) 61)
        have hsz3 := lt_of_block HF3.out.res
        have hf4 : RG tk lk u6 w (w3.alloc (.cells (rdC t1) 61)) := HF3.out.keep ((Below.refl _ _).alloc (Nat.le_refl _) _)
        obtain ⟨X, hX⟩ : ∃ X, w3.heap.size = X := ⟨_, rfl⟩
        obtain ⟨w4, hw4⟩ : ∃ W, w3.alloc (.cells (rdC t1) 61) = W := ⟨_, rfl⟩
        rw [hw4] at hx3 hf4
        rw [hX] at hx3 hsz3
        have HX4 := Lib.hid hx3
        have HF4 := Lib.hid hf4
        have HXX : Hid (w.heap.size + 1 < X) := hsz3
        unfold rdC at hw4
        rw [hw4, hX]
        clear hx3 hf4 hsz3 hX hw4 HF3 HU1
        go_wp2_with (first
          | ((with_reducible show wpList _ _ _ _ _ _); refine wpList_load_row rfl 61 (.tmp 9) rfl (X) rfl 61 (rdC t1) (0, 0) _ HX4.out Tryd.underlying61 rfl (by rw [HSR.out]; rfl) ?_))
        refine (HU2.out _).mono ?_
        rintro e w5 ⟨rfl, hb5⟩
        have HF5 := Lib.hid (HF4.out.keep hb5)
        have HX5 := Lib.hid ((hb5.block _ (lt_of_block HX4.out)).trans HX4.out)
        have HF6 := Lib.hid (HF5.out.setx HX5.out HXX.out t2)
        have HX6 := Lib.hid (setRow_heap _ _ _ (rdC t2) _ _ HX5.out)
        clear hb5
        go_wp2_with (first
          | ((with_reducible show wpList _ _ _ _ _ _); refine wpList_store_row rfl 61 (.tmp 9) (.tmp 37) rfl (X) (rdC t2) rfl rfl 61 (rdC t1) HX5.out (by rw [HSR.out]; rfl) rfl (one_rd _) ?_)
          | ((with_reducible show wpList _ _ _ _ _ _); refine wpList_load_row rfl 61 (.tmp 9) rfl (X) rfl 61 (rdC t2) (0, 0) _ HX6.out Tryd.underlying61 rfl (by rw [HSR.out]; rfl) ?_))
        refine (HU3.out _).mono ?_
        rintro e w7 ⟨rfl, hb7⟩
        have HF7 := Lib.hid (HF6.out.keep hb7)
        have HX7 := Lib.hid ((hb7.block _ (lt_of_block HX6.out)).trans HX6.out)
        have HF8 := Lib.hid (HF7.out.setx HX7.out HXX.out t3)
        have HX8 := Lib.hid (setRow_heap _ _ _ (rdC t3) _ _ HX7.out)
        clear hb7 HF4 HF5 HF6 HX4 HX5 HX6
        go_upto_region 11 with (first
          | ((with_reducible show wpList _ _ _ _ _ _); refine wpList_store_row rfl 61 (.tmp 9) (.tmp 42) rfl (X) (rdC t3) rfl rfl 61 (rdC t2) HX7.out (by rw [HSR.out]; rfl) rfl (one_rd _) ?_))
        have hj : RJ X w7.heap.size t3 ⟨v1, v2, v3⟩ tk lk u6 w ((w7.setRow X (rdC t3)).alloc (.cells #[.int .i64 v1, .int .i64 v2, .int .i64 v3] 138)) := by
          refine ⟨HF8.out.keep ((Below.refl _ _).alloc (Nat.le_refl _) _), (heap_alloc_old _ _ (lt_of_block HX8.out)).trans HX8.out, ?_, HXX.out⟩
          have h := heap_alloc_new (w7.setRow X (rdC t3)) (.cells #[.int .i64 v1, .int .i64 v2, .int .i64 v3] 138)
          rw [size_setRow] at h
          exact h
        obtain ⟨C, hC⟩ : ∃ C, w7.heap.size = C := ⟨_, rfl⟩
        obtain ⟨W, hW⟩ : ∃ W, ((w7.setRow X (rdC t3)).alloc (.cells #[.int .i64 v1, .int .i64 v2, .int .i64 v3] 138)) = W := ⟨_, rfl⟩
        rw [hW, hC] at hj
        rw [hW, hC]
        have HJ := Lib.hid hj
        have hx3k := rd_k HJ.out.x
        clear hj hC hW HF7 HF8 HX7 HX8 HU2 HU3 HF hq1 hq3 tk0
        by_cases hk3 : t3.k = 0
        · have tka : ((t3.k : Int) == 0) = true := by simp; exact hk3
          have HK3 := Lib.hid hk3
          have hp2 := HP2.out hk3
          clear hk3
          cases f1 : ((v3 : Int) != 1) with
          | true =>
            cases f2 : ((v3 : Int) != 2) with
            | true =>
              have HF6 := Lib.hid (fun W => rfail_any t3 6 ((tk.p : Int) + 2) W (by have := HPM.out; omega))
              have hk4 : (failS t3 6 ((tk.p : Int) + 2)).k ≠ 0 := by
                rw [show (6 : Int) = ((6 : Nat) : Int) from rfl, fail_yes HK3.out (by omega) (by omega)]
                show (6 : Nat) ≠ 0
                omega
              have HEQ : Hid (aS tk (lastOf lk) = failS t3 6 ((tk.p : Int) + 2)) := by
                show _ = _
                rw [HFS.out, form_no f1 f2, hp2]
                rw [show needS false t3 6 ((tk.p + 2 : Nat) : Int) = failS t3 6 ((tk.p : Int) + 2) from rfl]
                exact need_had hk4
              obtain ⟨t4, ht4⟩ : ∃ t, failS t3 6 ((tk.p : Int) + 2) = t := ⟨_, rfl⟩
              rw [ht4] at HEQ HF6 hk4
              have tk4 : ((t4.k : Int) == 0) = false := by simp; exact hk4
              clear ht4 hk4 hp2
              skip
              go_upto_region 12 with fail
              skip
              go_wp2_with (first
                | ((with_reducible show wpList _ _ _ _ _ _); refine wpList_load_row rfl 61 (.tmp 9) rfl (X) rfl 61 (rdC t3) (0, 0) _ HJ.out.x Tryd.underlying61 rfl (by rw [HSR.out]; rfl) ?_))
              skip
              refine (HF6.out _).mono ?_
              rintro e w9 ⟨rfl, hb9⟩
              have HJ9 := Lib.hid (HJ.out.keep hb9)
              have HJ10 := Lib.hid (HJ9.out.setx t4)
              clear hb9 hx3k
              skip
              go_upto_region 13 with (first
                | ((with_reducible show wpList _ _ _ _ _ _); refine wpList_store_row rfl 61 (.tmp 9) (.tmp 66) rfl (X) (rdC t4) rfl rfl 61 (rdC t3) HJ9.out.x (by rw [HSR.out]; rfl) rfl (one_rd _) ?_))
              obtain ⟨W2, hW2⟩ : ∃ W, w9.setRow X (rdC t4) = W := ⟨_, rfl⟩
              rw [hW2] at HJ10
              rw [hW2]
              clear hW2
              have hx4k := rd_k HJ10.out.x
              skip
              dsimp only [Act.put]
              go_quiet (fail)
              skip
              have HJQ := Lib.hid (HJ10.out.drewN nq)
              have HC := Lib.hid (HJQ.out.copy)
              have hcc := HC.out.2
              have g0 := cell_of_row _ _ 0 _ _ _ hcc
              have g1 := cell_of_row _ _ 1 _ _ _ hcc
              have g2 := cell_of_row _ _ 2 _ _ _ hcc
              simp only [actC, List.getElem?_toArray, List.getElem?_cons_zero, List.getElem?_cons_succ] at g0 g1 g2
              have HRX := Lib.hid (HC.out.1.keep ((Below.refl _ _).alloc (Nat.le_refl _) (.cells #[.int .i64 v1, .int .i64 v2, .int .i64 v3] 138)))
              clear hcc
              go_wp2_with (first
                | ((with_reducible show wpList _ _ _ _ _ _); refine wpList_load_row rfl 61 (.tmp 9) rfl (X) rfl 61 (rdC t4) (0, 0) _ HJQ.out.x Tryd.underlying61 rfl (by rw [HSR.out]; rfl) ?_)
                | ((with_reducible show wpList _ _ _ _ _ _); refine wpList_store_row rfl 61 (.tmp 2) (.tmp 88) rfl (w.heap.size) (rdC t4) rfl rfl 61 (rdC tk) HJQ.out.g.rd (by rw [HSR.out]; rfl) rfl (one_rd _) ?_)
                | (at_builtin; refine wpList_append_own _ rfl _ _ 77 rfl (w.heap.size + 2) 138 i0 (.agg #[.int .i64 0, .int .i64 0, .int .i64 0]) 3 24 Tryd.underlying77 hi hz0 hz1 hz2 rfl (by decide) _ lk.length _ rfl HRX.out.own ⟨(W2.drewN nq).heap.size, 0, none⟩ 1 1 [.int .i64 v1, .int .i64 v2, .int .i64 v3] rfl rfl ?c1 ?c2 ?c3 ?c4 ?c5 ?_))
              case c1 =>
                intro j u hj
                have hrow := heap_alloc_new ((W2.drewN nq).setRow w.heap.size (rdC t4)) (.cells #[.int .i64 v1, .int .i64 v2, .int .i64 v3] 138)
                simp only [size_setRow] at hrow
                have e : (Addr.mk (W2.drewN nq).heap.size 0 none).add j = ⟨(W2.drewN nq).heap.size, j, none⟩ := by cases j <;> simp [Addr.add]
                rw [e, cell_of_row _ _ _ _ _ _ hrow, ← hj]
                simp
              case c2 => intro u hu; simp at hu; rcases hu with rfl | rfl | rfl <;> rfl
              case c3 => have := HLE.out; unfold maxLen; omega
              case c4 => have := HLE.out; omega
              case c5 => have := lt_of_block HRX.out.res; simp at this ⊢; omega
              intro v' w12 ho12 hg12 _
              have HF12 := Lib.hid (HRX.out.grown (x := ⟨v1, v2, v3⟩) hg12 (lk.length + 1) (by simp) ho12)
              clear ho12 hg12 g0 g1 g2
              have hkb := HLE.out.2
              have hk1 : IntKind.i64.wrap ((k : Int) + 1) = (k : Int) + 1 := IntWalk.i64_in _ (by omega)
              go_wp2
              go_roundw
              case rel => exact ⟨k + 1, by omega, by go_num, by rw [HNX.out, HEQ.out]; exact HF12.out⟩
              case measure => simp [intOf]; omega
            | false =>
              have HFM : Hid (formB (v3 : Int) = true) := form_2 f2
              clear hp2
              rcases Nat.eq_zero_or_pos k with hz | hz
              · have HEQ : Hid (aS tk (lastOf lk) = t3) := by
                  show _ = _
                  have hlk : lk = [] := List.eq_nil_of_length_eq_zero (by have := HLE.out.1; omega)
                  rw [HFS.out, HFM.out, need_yes _ _ _ (rfl : true = true), hlk, show lastOf ([] : List A3) = a0 from rfl, less_first (show 0 ≤ (A3.mk v1 v2 v3).s by show (0 : Int) ≤ v1; omega)]
                  exact need_yes _ _ _ rfl
                have tkk : decide ((0 : Int) < (k : Int)) = false := decide_eq_false (by omega)
                have tkk2 : decide (0 < k) = false := decide_eq_false (by omega)
                clear hz
                go_wp2
                go_quiet (fail)
                have HJQ := Lib.hid (HJ.out.drewN nq)
                have HC := Lib.hid (HJQ.out.copy)
                have hcc := HC.out.2
                have g0 := cell_of_row _ _ 0 _ _ _ hcc
                have g1 := cell_of_row _ _ 1 _ _ _ hcc
                have g2 := cell_of_row _ _ 2 _ _ _ hcc
                simp only [actC, List.getElem?_toArray, List.getElem?_cons_zero, List.getElem?_cons_succ] at g0 g1 g2
                have HRX := Lib.hid (HC.out.1.keep ((Below.refl _ _).alloc (Nat.le_refl _) (.cells #[.int .i64 v1, .int .i64 v2, .int .i64 v3] 138)))
                clear hcc
                go_wp2_with (first
                  | ((with_reducible show wpList _ _ _ _ _ _); refine wpList_load_row rfl 61 (.tmp 9) rfl (X) rfl 61 (rdC t3) (0, 0) _ HJQ.out.x Tryd.underlying61 rfl (by rw [HSR.out]; rfl) ?_)
                  | ((with_reducible show wpList _ _ _ _ _ _); refine wpList_store_row rfl 61 (.tmp 2) (.tmp 88) rfl (w.heap.size) (rdC t3) rfl rfl 61 (rdC tk) HJQ.out.g.rd (by rw [HSR.out]; rfl) rfl (one_rd _) ?_)
                  | (at_builtin; refine wpList_append_own _ rfl _ _ 77 rfl (w.heap.size + 2) 138 i0 (.agg #[.int .i64 0, .int .i64 0, .int .i64 0]) 3 24 Tryd.underlying77 hi hz0 hz1 hz2 rfl (by decide) _ lk.length _ rfl HRX.out.own ⟨(W.drewN nq).heap.size, 0, none⟩ 1 1 [.int .i64 v1, .int .i64 v2, .int .i64 v3] rfl rfl ?c1 ?c2 ?c3 ?c4 ?c5 ?_))
                case c1 =>
                  intro j u hj
                  have hrow := heap_alloc_new ((W.drewN nq).setRow w.heap.size (rdC t3)) (.cells #[.int .i64 v1, .int .i64 v2, .int .i64 v3] 138)
                  simp only [size_setRow] at hrow
                  have e : (Addr.mk (W.drewN nq).heap.size 0 none).add j = ⟨(W.drewN nq).heap.size, j, none⟩ := by cases j <;> simp [Addr.add]
                  rw [e, cell_of_row _ _ _ _ _ _ hrow, ← hj]
                  simp
                case c2 => intro u hu; simp at hu; rcases hu with rfl | rfl | rfl <;> rfl
                case c3 => have := HLE.out; unfold maxLen; omega
                case c4 => have := HLE.out; omega
                case c5 => have := lt_of_block HRX.out.res; simp at this ⊢; omega
                intro v' w12 ho12 hg12 _
                have HF12 := Lib.hid (HRX.out.grown (x := ⟨v1, v2, v3⟩) hg12 (lk.length + 1) (by simp) ho12)
                clear ho12 hg12 g0 g1 g2
                have hkb := HLE.out.2
                have hk1 : IntKind.i64.wrap ((k : Int) + 1) = (k : Int) + 1 := IntWalk.i64_in _ (by omega)
                go_wp2
                go_roundw
                case rel => exact ⟨k + 1, by omega, by go_num, by rw [HNX.out, HEQ.out]; exact HF12.out⟩
                case measure => simp [intOf]; omega
              · obtain ⟨j, hkj⟩ : ∃ j, k = j + 1 := ⟨k - 1, by omega⟩
                obtain ⟨A, c, hu6, hat, _⟩ := own_at HJ.out.g.own
                rw [HLE.out.1] at hu6
                subst hu6
                obtain ⟨y, hy⟩ : ∃ y, lk[j]? = some y := ⟨_, List.getElem?_eq_getElem (by have := HLE.out.1; omega)⟩
                have hla : lastOf lk = y := by
                  have h := last_take lk j y hy
                  rw [List.take_of_length_le (by have := HLE.out.1; omega)] at h
                  exact h
                have HLA := Lib.hid hla
                have HL := Lib.hid (fun W => less11_any y ⟨v1, v2, v3⟩ W)
                have HF9 := Lib.hid (fun W => rfail_any t3 9 tk.p W (by omega))
                obtain ⟨ay, rfl, d1, d2, d3⟩ := hat j y hy
                have e0 := cell_of_row _ _ 0 _ _ _ HJ.out.act
                have e1 := cell_of_row _ _ 1 _ _ _ HJ.out.act
                have e2 := cell_of_row _ _ 2 _ _ _ HJ.out.act
                simp only [actC, List.getElem?_toArray, List.getElem?_cons_zero, List.getElem?_cons_succ] at e0 e1 e2
                have HCE := Lib.hid (And.intro hx3k (And.intro d1 (And.intro d2 (And.intro d3 (And.intro e0 (And.intro e1 e2))))))
                obtain ⟨y1, y2, y3⟩ := y
                unfold actC at HL
                dsimp only at HL d1 d2 d3 HCE
                obtain ⟨bl, hbl⟩ : ∃ b, lessB ⟨y1, y2, y3⟩ ⟨v1, v2, v3⟩ = b := ⟨_, rfl⟩
                rw [hbl] at HL
                have HBL := Lib.hid hbl
                have tkk : decide ((0 : Int) < (k : Int)) = true := decide_eq_true (by omega)
                have tkk2 : decide (0 < k) = true := decide_eq_true (by omega)
                have hj1 : IntKind.i64.wrap ((k : Int) - 1) = (j : Int) := by have := HLE.out.2; rw [IntKind.wrap_i64]; omega
                have hj0 : (0 : Int) ≤ (j : Int) := by omega
                have hja : (j : Int) < k := by omega
                have HCD : Hid (W.drew.cell? ⟨X, 3, none⟩ = some (.int .i64 t3.k) ∧ W.drew.cell? (ay.add (j * 3)) = some (.int .i64 y1) ∧ W.drew.cell? ⟨(ay.add (j * 3)).block, (ay.add (j * 3)).off + 1, none⟩ = some (.int .i64 y2) ∧ W.drew.cell? ⟨(ay.add (j * 3)).block, (ay.add (j * 3)).off + 2, none⟩ = some (.int .i64 y3) ∧ W.drew.cell? ⟨C, 0, none⟩ = some (.int .i64 v1) ∧ W.drew.cell? ⟨C, 1, none⟩ = some (.int .i64 v2) ∧ W.drew.cell? ⟨C, 2, none⟩ = some (.int .i64 v3)) := HCE.out
                have HJD := Lib.hid HJ.out.drew
                clear hat hy hla hbl hz hkj
                go_wp2
                cases bl
                all_goals
                  go_region_held3 (fun wx => wx.cell? ⟨X, 3, none⟩ = some (.int .i64 t3.k) ∧ wx.cell? (ay.add (j * 3)) = some (.int .i64 y1) ∧ wx.cell? ⟨(ay.add (j * 3)).block, (ay.add (j * 3)).off + 1, none⟩ = some (.int .i64 y2) ∧ wx.cell? ⟨(ay.add (j * 3)).block, (ay.add (j * 3)).off + 2, none⟩ = some (.int .i64 y3) ∧ wx.cell? ⟨C, 0, none⟩ = some (.int .i64 v1) ∧ wx.cell? ⟨C, 1, none⟩ = some (.int .i64 v2) ∧ wx.cell? ⟨C, 2, none⟩ = some (.int .i64 v3)) (first | (go_keep; done) | exact HCE.out | exact HKP.out | (refine ⟨?_, ?_, ?_, ?_, ?_, ?_, ?_⟩ <;> assumption))
                    (first
                      | (go_at_call 83; refine (HL.out _).mono ?_; rintro e w9 ⟨rfl, hb9⟩; have HJ9 := Lib.hid (HJD.out.keep hb9); have HKP := Lib.hid (kept7 HCD.out hb9); clear hb9))
                · have HEQ : Hid (aS tk (lastOf lk) = failS t3 9 tk.p) := by
                    show _ = _
                    rw [HFS.out, HFM.out, need_yes _ _ _ (rfl : true = true), HLA.out, HBL.out]
                    rfl
                  go_wp2_with (first
                    | ((with_reducible show wpList _ _ _ _ _ _); refine wpList_load_row rfl 61 (.tmp 9) rfl (X) rfl 61 (rdC t3) (0, 0) _ HJ9.out.x Tryd.underlying61 rfl (by rw [HSR.out]; rfl) ?_))
                  refine (HF9.out _).mono ?_
                  rintro e w10 ⟨rfl, hb10⟩
                  have HJ10 := Lib.hid (HJ9.out.keep hb10)
                  obtain ⟨t5, ht5⟩ : ∃ t, failS t3 9 tk.p = t := ⟨_, rfl⟩
                  rw [ht5] at HEQ
                  rw [ht5]
                  have HJ11 := Lib.hid (HJ10.out.setx t5)
                  clear hb10 ht5
                  go_upto_region 15 with (first
                    | ((with_reducible show wpList _ _ _ _ _ _); refine wpList_store_row rfl 61 (.tmp 9) (.tmp 87) rfl (X) (rdC t5) rfl rfl 61 (rdC t3) HJ10.out.x (by rw [HSR.out]; rfl) rfl (one_rd _) ?_))
                  obtain ⟨W2, hW2⟩ : ∃ W, w10.setRow X (rdC t5) = W := ⟨_, rfl⟩
                  rw [hW2] at HJ11
                  rw [hW2]
                  clear hW2
                  have HC := Lib.hid (HJ11.out.copy)
                  have hcc := HC.out.2
                  have g0 := cell_of_row _ _ 0 _ _ _ hcc
                  have g1 := cell_of_row _ _ 1 _ _ _ hcc
                  have g2 := cell_of_row _ _ 2 _ _ _ hcc
                  simp only [actC, List.getElem?_toArray, List.getElem?_cons_zero, List.getElem?_cons_succ] at g0 g1 g2
                  have HRX := Lib.hid (HC.out.1.keep ((Below.refl _ _).alloc (Nat.le_refl _) (.cells #[.int .i64 v1, .int .i64 v2, .int .i64 v3] 138)))
                  clear hcc
                  go_wp2_with (first
                    | ((with_reducible show wpList _ _ _ _ _ _); refine wpList_load_row rfl 61 (.tmp 9) rfl (X) rfl 61 (rdC t5) (0, 0) _ HJ11.out.x Tryd.underlying61 rfl (by rw [HSR.out]; rfl) ?_)
                    | ((with_reducible show wpList _ _ _ _ _ _); refine wpList_store_row rfl 61 (.tmp 2) (.tmp 88) rfl (w.heap.size) (rdC t5) rfl rfl 61 (rdC tk) HJ11.out.g.rd (by rw [HSR.out]; rfl) rfl (one_rd _) ?_)
                    | (at_builtin; refine wpList_append_own _ rfl _ _ 77 rfl (w.heap.size + 2) 138 i0 (.agg #[.int .i64 0, .int .i64 0, .int .i64 0]) 3 24 Tryd.underlying77 hi hz0 hz1 hz2 rfl (by decide) _ lk.length _ rfl HRX.out.own ⟨(W2).heap.size, 0, none⟩ 1 1 [.int .i64 v1, .int .i64 v2, .int .i64 v3] rfl rfl ?c1 ?c2 ?c3 ?c4 ?c5 ?_))
                  case c1 =>
                    intro j u hj
                    have hrow := heap_alloc_new ((W2).setRow w.heap.size (rdC t5)) (.cells #[.int .i64 v1, .int .i64 v2, .int .i64 v3] 138)
                    simp only [size_setRow] at hrow
                    have e : (Addr.mk (W2).heap.size 0 none).add j = ⟨(W2).heap.size, j, none⟩ := by cases j <;> simp [Addr.add]
                    rw [e, cell_of_row _ _ _ _ _ _ hrow, ← hj]
                    simp
                  case c2 => intro u hu; simp at hu; rcases hu with rfl | rfl | rfl <;> rfl
                  case c3 => have := HLE.out; unfold maxLen; omega
                  case c4 => have := HLE.out; omega
                  case c5 => have := lt_of_block HRX.out.res; simp at this ⊢; omega
                  intro v' w12 ho12 hg12 _
                  have HF12 := Lib.hid (HRX.out.grown (x := ⟨v1, v2, v3⟩) hg12 (lk.length + 1) (by simp) ho12)
                  clear ho12 hg12 g0 g1 g2
                  have hkb := HLE.out.2
                  have hk1 : IntKind.i64.wrap ((k : Int) + 1) = (k : Int) + 1 := IntWalk.i64_in _ (by omega)
                  go_wp2
                  go_roundw
                  case rel => exact ⟨k + 1, by omega, by go_num, by rw [HNX.out, HEQ.out]; exact HF12.out⟩
                  case measure => simp [intOf]; omega
                · have HEQ : Hid (aS tk (lastOf lk) = t3) := by
                    show _ = _
                    rw [HFS.out, HFM.out, need_yes _ _ _ (rfl : true = true), HLA.out, HBL.out]
                    exact need_yes _ _ _ rfl
                  have HC := Lib.hid (HJ9.out.copy)
                  have hcc := HC.out.2
                  have g0 := cell_of_row _ _ 0 _ _ _ hcc
                  have g1 := cell_of_row _ _ 1 _ _ _ hcc
                  have g2 := cell_of_row _ _ 2 _ _ _ hcc
                  simp only [actC, List.getElem?_toArray, List.getElem?_cons_zero, List.getElem?_cons_succ] at g0 g1 g2
                  have HRX := Lib.hid (HC.out.1.keep ((Below.refl _ _).alloc (Nat.le_refl _) (.cells #[.int .i64 v1, .int .i64 v2, .int .i64 v3] 138)))
                  clear hcc
                  go_wp2_with (first
                    | ((with_reducible show wpList _ _ _ _ _ _); refine wpList_load_row rfl 61 (.tmp 9) rfl (X) rfl 61 (rdC t3) (0, 0) _ HJ9.out.x Tryd.underlying61 rfl (by rw [HSR.out]; rfl) ?_)
                    | ((with_reducible show wpList _ _ _ _ _ _); refine wpList_store_row rfl 61 (.tmp 2) (.tmp 88) rfl (w.heap.size) (rdC t3) rfl rfl 61 (rdC tk) HJ9.out.g.rd (by rw [HSR.out]; rfl) rfl (one_rd _) ?_)
                    | (at_builtin; refine wpList_append_own _ rfl _ _ 77 rfl (w.heap.size + 2) 138 i0 (.agg #[.int .i64 0, .int .i64 0, .int .i64 0]) 3 24 Tryd.underlying77 hi hz0 hz1 hz2 rfl (by decide) _ lk.length _ rfl HRX.out.own ⟨(w9).heap.size, 0, none⟩ 1 1 [.int .i64 v1, .int .i64 v2, .int .i64 v3] rfl rfl ?c1 ?c2 ?c3 ?c4 ?c5 ?_))
                  case c1 =>
                    intro j u hj
                    have hrow := heap_alloc_new ((w9).setRow w.heap.size (rdC t3)) (.cells #[.int .i64 v1, .int .i64 v2, .int .i64 v3] 138)
                    simp only [size_setRow] at hrow
                    have e : (Addr.mk (w9).heap.size 0 none).add j = ⟨(w9).heap.size, j, none⟩ := by cases j <;> simp [Addr.add]
                    rw [e, cell_of_row _ _ _ _ _ _ hrow, ← hj]
                    simp
                  case c2 => intro u hu; simp at hu; rcases hu with rfl | rfl | rfl <;> rfl
                  case c3 => have := HLE.out; unfold maxLen; omega
                  case c4 => have := HLE.out; omega
                  case c5 => have := lt_of_block HRX.out.res; simp at this ⊢; omega
                  intro v' w12 ho12 hg12 _
                  have HF12 := Lib.hid (HRX.out.grown (x := ⟨v1, v2, v3⟩) hg12 (lk.length + 1) (by simp) ho12)
                  clear ho12 hg12 g0 g1 g2
                  have hkb := HLE.out.2
                  have hk1 : IntKind.i64.wrap ((k : Int) + 1) = (k : Int) + 1 := IntWalk.i64_in _ (by omega)
                  go_wp2
                  go_roundw
                  case rel => exact ⟨k + 1, by omega, by go_num, by rw [HNX.out, HEQ.out]; exact HF12.out⟩
                  case measure => simp [intOf]; omega
          | false =>
            have HFM : Hid (formB (v3 : Int) = true) := form_1 f1
            clear hp2
            rcases Nat.eq_zero_or_pos k with hz | hz
            · have HEQ : Hid (aS tk (lastOf lk) = t3) := by
                show _ = _
                have hlk : lk = [] := List.eq_nil_of_length_eq_zero (by have := HLE.out.1; omega)
                rw [HFS.out, HFM.out, need_yes _ _ _ (rfl : true = true), hlk, show lastOf ([] : List A3) = a0 from rfl, less_first (show 0 ≤ (A3.mk v1 v2 v3).s by show (0 : Int) ≤ v1; omega)]
                exact need_yes _ _ _ rfl
              have tkk : decide ((0 : Int) < (k : Int)) = false := decide_eq_false (by omega)
              have tkk2 : decide (0 < k) = false := decide_eq_false (by omega)
              clear hz
              go_wp2
              go_quiet (fail)
              have HJQ := Lib.hid (HJ.out.drewN nq)
              have HC := Lib.hid (HJQ.out.copy)
              have hcc := HC.out.2
              have g0 := cell_of_row _ _ 0 _ _ _ hcc
              have g1 := cell_of_row _ _ 1 _ _ _ hcc
              have g2 := cell_of_row _ _ 2 _ _ _ hcc
              simp only [actC, List.getElem?_toArray, List.getElem?_cons_zero, List.getElem?_cons_succ] at g0 g1 g2
              have HRX := Lib.hid (HC.out.1.keep ((Below.refl _ _).alloc (Nat.le_refl _) (.cells #[.int .i64 v1, .int .i64 v2, .int .i64 v3] 138)))
              clear hcc
              go_wp2_with (first
                | ((with_reducible show wpList _ _ _ _ _ _); refine wpList_load_row rfl 61 (.tmp 9) rfl (X) rfl 61 (rdC t3) (0, 0) _ HJQ.out.x Tryd.underlying61 rfl (by rw [HSR.out]; rfl) ?_)
                | ((with_reducible show wpList _ _ _ _ _ _); refine wpList_store_row rfl 61 (.tmp 2) (.tmp 88) rfl (w.heap.size) (rdC t3) rfl rfl 61 (rdC tk) HJQ.out.g.rd (by rw [HSR.out]; rfl) rfl (one_rd _) ?_)
                | (at_builtin; refine wpList_append_own _ rfl _ _ 77 rfl (w.heap.size + 2) 138 i0 (.agg #[.int .i64 0, .int .i64 0, .int .i64 0]) 3 24 Tryd.underlying77 hi hz0 hz1 hz2 rfl (by decide) _ lk.length _ rfl HRX.out.own ⟨(W.drewN nq).heap.size, 0, none⟩ 1 1 [.int .i64 v1, .int .i64 v2, .int .i64 v3] rfl rfl ?c1 ?c2 ?c3 ?c4 ?c5 ?_))
              case c1 =>
                intro j u hj
                have hrow := heap_alloc_new ((W.drewN nq).setRow w.heap.size (rdC t3)) (.cells #[.int .i64 v1, .int .i64 v2, .int .i64 v3] 138)
                simp only [size_setRow] at hrow
                have e : (Addr.mk (W.drewN nq).heap.size 0 none).add j = ⟨(W.drewN nq).heap.size, j, none⟩ := by cases j <;> simp [Addr.add]
                rw [e, cell_of_row _ _ _ _ _ _ hrow, ← hj]
                simp
              case c2 => intro u hu; simp at hu; rcases hu with rfl | rfl | rfl <;> rfl
              case c3 => have := HLE.out; unfold maxLen; omega
              case c4 => have := HLE.out; omega
              case c5 => have := lt_of_block HRX.out.res; simp at this ⊢; omega
              intro v' w12 ho12 hg12 _
              have HF12 := Lib.hid (HRX.out.grown (x := ⟨v1, v2, v3⟩) hg12 (lk.length + 1) (by simp) ho12)
              clear ho12 hg12 g0 g1 g2
              have hkb := HLE.out.2
              have hk1 : IntKind.i64.wrap ((k : Int) + 1) = (k : Int) + 1 := IntWalk.i64_in _ (by omega)
              go_wp2
              go_roundw
              case rel => exact ⟨k + 1, by omega, by go_num, by rw [HNX.out, HEQ.out]; exact HF12.out⟩
              case measure => simp [intOf]; omega
            · obtain ⟨j, hkj⟩ : ∃ j, k = j + 1 := ⟨k - 1, by omega⟩
              obtain ⟨A, c, hu6, hat, _⟩ := own_at HJ.out.g.own
              rw [HLE.out.1] at hu6
              subst hu6
              obtain ⟨y, hy⟩ : ∃ y, lk[j]? = some y := ⟨_, List.getElem?_eq_getElem (by have := HLE.out.1; omega)⟩
              have hla : lastOf lk = y := by
                have h := last_take lk j y hy
                rw [List.take_of_length_le (by have := HLE.out.1; omega)] at h
                exact h
              have HLA := Lib.hid hla
              have HL := Lib.hid (fun W => less11_any y ⟨v1, v2, v3⟩ W)
              have HF9 := Lib.hid (fun W => rfail_any t3 9 tk.p W (by omega))
              obtain ⟨ay, rfl, d1, d2, d3⟩ := hat j y hy
              have e0 := cell_of_row _ _ 0 _ _ _ HJ.out.act
              have e1 := cell_of_row _ _ 1 _ _ _ HJ.out.act
              have e2 := cell_of_row _ _ 2 _ _ _ HJ.out.act
              simp only [actC, List.getElem?_toArray, List.getElem?_cons_zero, List.getElem?_cons_succ] at e0 e1 e2
              have HCE := Lib.hid (And.intro hx3k (And.intro d1 (And.intro d2 (And.intro d3 (And.intro e0 (And.intro e1 e2))))))
              obtain ⟨y1, y2, y3⟩ := y
              unfold actC at HL
              dsimp only at HL d1 d2 d3 HCE
              obtain ⟨bl, hbl⟩ : ∃ b, lessB ⟨y1, y2, y3⟩ ⟨v1, v2, v3⟩ = b := ⟨_, rfl⟩
              rw [hbl] at HL
              have HBL := Lib.hid hbl
              have tkk : decide ((0 : Int) < (k : Int)) = true := decide_eq_true (by omega)
              have tkk2 : decide (0 < k) = true := decide_eq_true (by omega)
              have hj1 : IntKind.i64.wrap ((k : Int) - 1) = (j : Int) := by have := HLE.out.2; rw [IntKind.wrap_i64]; omega
              have hj0 : (0 : Int) ≤ (j : Int) := by omega
              have hja : (j : Int) < k := by omega
              have HCD : Hid (W.drew.cell? ⟨X, 3, none⟩ = some (.int .i64 t3.k) ∧ W.drew.cell? (ay.add (j * 3)) = some (.int .i64 y1) ∧ W.drew.cell? ⟨(ay.add (j * 3)).block, (ay.add (j * 3)).off + 1, none⟩ = some (.int .i64 y2) ∧ W.drew.cell? ⟨(ay.add (j * 3)).block, (ay.add (j * 3)).off + 2, none⟩ = some (.int .i64 y3) ∧ W.drew.cell? ⟨C, 0, none⟩ = some (.int .i64 v1) ∧ W.drew.cell? ⟨C, 1, none⟩ = some (.int .i64 v2) ∧ W.drew.cell? ⟨C, 2, none⟩ = some (.int .i64 v3)) := HCE.out
              have HJD := Lib.hid HJ.out.drew
              clear hat hy hla hbl hz hkj
              go_wp2
              cases bl
              all_goals
                go_region_held3 (fun wx => wx.cell? ⟨X, 3, none⟩ = some (.int .i64 t3.k) ∧ wx.cell? (ay.add (j * 3)) = some (.int .i64 y1) ∧ wx.cell? ⟨(ay.add (j * 3)).block, (ay.add (j * 3)).off + 1, none⟩ = some (.int .i64 y2) ∧ wx.cell? ⟨(ay.add (j * 3)).block, (ay.add (j * 3)).off + 2, none⟩ = some (.int .i64 y3) ∧ wx.cell? ⟨C, 0, none⟩ = some (.int .i64 v1) ∧ wx.cell? ⟨C, 1, none⟩ = some (.int .i64 v2) ∧ wx.cell? ⟨C, 2, none⟩ = some (.int .i64 v3)) (first | (go_keep; done) | exact HCE.out | exact HKP.out | (refine ⟨?_, ?_, ?_, ?_, ?_, ?_, ?_⟩ <;> assumption))
                  (first
                    | (go_at_call 83; refine (HL.out _).mono ?_; rintro e w9 ⟨rfl, hb9⟩; have HJ9 := Lib.hid (HJD.out.keep hb9); have HKP := Lib.hid (kept7 HCD.out hb9); clear hb9))
              · have HEQ : Hid (aS tk (lastOf lk) = failS t3 9 tk.p) := by
                  show _ = _
                  rw [HFS.out, HFM.out, need_yes _ _ _ (rfl : true = true), HLA.out, HBL.out]
                  rfl
                go_wp2_with (first
                  | ((with_reducible show wpList _ _ _ _ _ _); refine wpList_load_row rfl 61 (.tmp 9) rfl (X) rfl 61 (rdC t3) (0, 0) _ HJ9.out.x Tryd.underlying61 rfl (by rw [HSR.out]; rfl) ?_))
                refine (HF9.out _).mono ?_
                rintro e w10 ⟨rfl, hb10⟩
                have HJ10 := Lib.hid (HJ9.out.keep hb10)
                obtain ⟨t5, ht5⟩ : ∃ t, failS t3 9 tk.p = t := ⟨_, rfl⟩
                rw [ht5] at HEQ
                rw [ht5]
                have HJ11 := Lib.hid (HJ10.out.setx t5)
                clear hb10 ht5
                go_upto_region 15 with (first
                  | ((with_reducible show wpList _ _ _ _ _ _); refine wpList_store_row rfl 61 (.tmp 9) (.tmp 87) rfl (X) (rdC t5) rfl rfl 61 (rdC t3) HJ10.out.x (by rw [HSR.out]; rfl) rfl (one_rd _) ?_))
                obtain ⟨W2, hW2⟩ : ∃ W, w10.setRow X (rdC t5) = W := ⟨_, rfl⟩
                rw [hW2] at HJ11
                rw [hW2]
                clear hW2
                have HC := Lib.hid (HJ11.out.copy)
                have hcc := HC.out.2
                have g0 := cell_of_row _ _ 0 _ _ _ hcc
                have g1 := cell_of_row _ _ 1 _ _ _ hcc
                have g2 := cell_of_row _ _ 2 _ _ _ hcc
                simp only [actC, List.getElem?_toArray, List.getElem?_cons_zero, List.getElem?_cons_succ] at g0 g1 g2
                have HRX := Lib.hid (HC.out.1.keep ((Below.refl _ _).alloc (Nat.le_refl _) (.cells #[.int .i64 v1, .int .i64 v2, .int .i64 v3] 138)))
                clear hcc
                go_wp2_with (first
                  | ((with_reducible show wpList _ _ _ _ _ _); refine wpList_load_row rfl 61 (.tmp 9) rfl (X) rfl 61 (rdC t5) (0, 0) _ HJ11.out.x Tryd.underlying61 rfl (by rw [HSR.out]; rfl) ?_)
                  | ((with_reducible show wpList _ _ _ _ _ _); refine wpList_store_row rfl 61 (.tmp 2) (.tmp 88) rfl (w.heap.size) (rdC t5) rfl rfl 61 (rdC tk) HJ11.out.g.rd (by rw [HSR.out]; rfl) rfl (one_rd _) ?_)
                  | (at_builtin; refine wpList_append_own _ rfl _ _ 77 rfl (w.heap.size + 2) 138 i0 (.agg #[.int .i64 0, .int .i64 0, .int .i64 0]) 3 24 Tryd.underlying77 hi hz0 hz1 hz2 rfl (by decide) _ lk.length _ rfl HRX.out.own ⟨(W2).heap.size, 0, none⟩ 1 1 [.int .i64 v1, .int .i64 v2, .int .i64 v3] rfl rfl ?c1 ?c2 ?c3 ?c4 ?c5 ?_))
                case c1 =>
                  intro j u hj
                  have hrow := heap_alloc_new ((W2).setRow w.heap.size (rdC t5)) (.cells #[.int .i64 v1, .int .i64 v2, .int .i64 v3] 138)
                  simp only [size_setRow] at hrow
                  have e : (Addr.mk (W2).heap.size 0 none).add j = ⟨(W2).heap.size, j, none⟩ := by cases j <;> simp [Addr.add]
                  rw [e, cell_of_row _ _ _ _ _ _ hrow, ← hj]
                  simp
                case c2 => intro u hu; simp at hu; rcases hu with rfl | rfl | rfl <;> rfl
                case c3 => have := HLE.out; unfold maxLen; omega
                case c4 => have := HLE.out; omega
                case c5 => have := lt_of_block HRX.out.res; simp at this ⊢; omega
                intro v' w12 ho12 hg12 _
                have HF12 := Lib.hid (HRX.out.grown (x := ⟨v1, v2, v3⟩) hg12 (lk.length + 1) (by simp) ho12)
                clear ho12 hg12 g0 g1 g2
                have hkb := HLE.out.2
                have hk1 : IntKind.i64.wrap ((k : Int) + 1) = (k : Int) + 1 := IntWalk.i64_in _ (by omega)
                go_wp2
                go_roundw
                case rel => exact ⟨k + 1, by omega, by go_num, by rw [HNX.out, HEQ.out]; exact HF12.out⟩
                case measure => simp [intOf]; omega
              · have HEQ : Hid (aS tk (lastOf lk) = t3) := by
                  show _ = _
                  rw [HFS.out, HFM.out, need_yes _ _ _ (rfl : true = true), HLA.out, HBL.out]
                  exact need_yes _ _ _ rfl
                have HC := Lib.hid (HJ9.out.copy)
                have hcc := HC.out.2
                have g0 := cell_of_row _ _ 0 _ _ _ hcc
                have g1 := cell_of_row _ _ 1 _ _ _ hcc
                have g2 := cell_of_row _ _ 2 _ _ _ hcc
                simp only [actC, List.getElem?_toArray, List.getElem?_cons_zero, List.getElem?_cons_succ] at g0 g1 g2
                have HRX := Lib.hid (HC.out.1.keep ((Below.refl _ _).alloc (Nat.le_refl _) (.cells #[.int .i64 v1, .int .i64 v2, .int .i64 v3] 138)))
                clear hcc
                go_wp2_with (first
                  | ((with_reducible show wpList _ _ _ _ _ _); refine wpList_load_row rfl 61 (.tmp 9) rfl (X) rfl 61 (rdC t3) (0, 0) _ HJ9.out.x Tryd.underlying61 rfl (by rw [HSR.out]; rfl) ?_)
                  | ((with_reducible show wpList _ _ _ _ _ _); refine wpList_store_row rfl 61 (.tmp 2) (.tmp 88) rfl (w.heap.size) (rdC t3) rfl rfl 61 (rdC tk) HJ9.out.g.rd (by rw [HSR.out]; rfl) rfl (one_rd _) ?_)
                  | (at_builtin; refine wpList_append_own _ rfl _ _ 77 rfl (w.heap.size + 2) 138 i0 (.agg #[.int .i64 0, .int .i64 0, .int .i64 0]) 3 24 Tryd.underlying77 hi hz0 hz1 hz2 rfl (by decide) _ lk.length _ rfl HRX.out.own ⟨(w9).heap.size, 0, none⟩ 1 1 [.int .i64 v1, .int .i64 v2, .int .i64 v3] rfl rfl ?c1 ?c2 ?c3 ?c4 ?c5 ?_))
                case c1 =>
                  intro j u hj
                  have hrow := heap_alloc_new ((w9).setRow w.heap.size (rdC t3)) (.cells #[.int .i64 v1, .int .i64 v2, .int .i64 v3] 138)
                  simp only [size_setRow] at hrow
                  have e : (Addr.mk (w9).heap.size 0 none).add j = ⟨(w9).heap.size, j, none⟩ := by cases j <;> simp [Addr.add]
                  rw [e, cell_of_row _ _ _ _ _ _ hrow, ← hj]
                  simp
                case c2 => intro u hu; simp at hu; rcases hu with rfl | rfl | rfl <;> rfl
                case c3 => have := HLE.out; unfold maxLen; omega
                case c4 => have := HLE.out; omega
                case c5 => have := lt_of_block HRX.out.res; simp at this ⊢; omega
                intro v' w12 ho12 hg12 _
                have HF12 := Lib.hid (HRX.out.grown (x := ⟨v1, v2, v3⟩) hg12 (lk.length + 1) (by simp) ho12)
                clear ho12 hg12 g0 g1 g2
                have hkb := HLE.out.2
                have hk1 : IntKind.i64.wrap ((k : Int) + 1) = (k : Int) + 1 := IntWalk.i64_in _ (by omega)
                go_wp2
                go_roundw
                case rel => exact ⟨k + 1, by omega, by go_num, by rw [HNX.out, HEQ.out]; exact HF12.out⟩
                case measure => simp [intOf]; omega
        · have tka : ((t3.k : Int) == 0) = false := by simp; exact hk3
          have HEQ : Hid (aS tk (lastOf lk) = t3) := by
            show _ = _
            rw [HFS.out, need_had hk3, need_had hk3]
          clear hk3
          go_wp2
          go_quiet (fail)
          have HJQ := Lib.hid (HJ.out.drewN nq)
          have HC := Lib.hid (HJQ.out.copy)
          have hcc := HC.out.2
          have g0 := cell_of_row _ _ 0 _ _ _ hcc
          have g1 := cell_of_row _ _ 1 _ _ _ hcc
          have g2 := cell_of_row _ _ 2 _ _ _ hcc
          simp only [actC, List.getElem?_toArray, List.getElem?_cons_zero, List.getElem?_cons_succ] at g0 g1 g2
          have HRX := Lib.hid (HC.out.1.keep ((Below.refl _ _).alloc (Nat.le_refl _) (.cells #[.int .i64 v1, .int .i64 v2, .int .i64 v3] 138)))
          clear hcc
          go_wp2_with (first
            | ((with_reducible show wpList _ _ _ _ _ _); refine wpList_load_row rfl 61 (.tmp 9) rfl (X) rfl 61 (rdC t3) (0, 0) _ HJQ.out.x Tryd.underlying61 rfl (by rw [HSR.out]; rfl) ?_)
            | ((with_reducible show wpList _ _ _ _ _ _); refine wpList_store_row rfl 61 (.tmp 2) (.tmp 88) rfl (w.heap.size) (rdC t3) rfl rfl 61 (rdC tk) HJQ.out.g.rd (by rw [HSR.out]; rfl) rfl (one_rd _) ?_)
            | (at_builtin; refine wpList_append_own _ rfl _ _ 77 rfl (w.heap.size + 2) 138 i0 (.agg #[.int .i64 0, .int .i64 0, .int .i64 0]) 3 24 Tryd.underlying77 hi hz0 hz1 hz2 rfl (by decide) _ lk.length _ rfl HRX.out.own ⟨(W.drewN nq).heap.size, 0, none⟩ 1 1 [.int .i64 v1, .int .i64 v2, .int .i64 v3] rfl rfl ?c1 ?c2 ?c3 ?c4 ?c5 ?_))
          case c1 =>
            intro j u hj
            have hrow := heap_alloc_new ((W.drewN nq).setRow w.heap.size (rdC t3)) (.cells #[.int .i64 v1, .int .i64 v2, .int .i64 v3] 138)
            simp only [size_setRow] at hrow
            have e : (Addr.mk (W.drewN nq).heap.size 0 none).add j = ⟨(W.drewN nq).heap.size, j, none⟩ := by cases j <;> simp [Addr.add]
            rw [e, cell_of_row _ _ _ _ _ _ hrow, ← hj]
            simp
          case c2 => intro u hu; simp at hu; rcases hu with rfl | rfl | rfl <;> rfl
          case c3 => have := HLE.out; unfold maxLen; omega
          case c4 => have := HLE.out; omega
          case c5 => have := lt_of_block HRX.out.res; simp at this ⊢; omega
          intro v' w12 ho12 hg12 _
          have HF12 := Lib.hid (HRX.out.grown (x := ⟨v1, v2, v3⟩) hg12 (lk.length + 1) (by simp) ho12)
          clear ho12 hg12 g0 g1 g2
          have hkb := HLE.out.2
          have hk1 : IntKind.i64.wrap ((k : Int) + 1) = (k : Int) + 1 := IntWalk.i64_in _ (by omega)
          go_wp2
          go_roundw
          case rel => exact ⟨k + 1, by omega, by go_num, by rw [HNX.out, HEQ.out]; exact HF12.out⟩
          case measure => simp [intOf]; omega
      · have HST := Lib.hid (it_stay T k hk0 (N - k))
        rw [show k + (N - k) = N by omega] at HST
        have tkn : (((itA T k).1.k : Int) == 0) = false := by simp; exact hk0
        have HK := Lib.hid hk0
        have HPO : Hid (∀ e w', GPost (itA T k).1 (itA T k).2 w e w' → GPost (itA T N).1 (itA T N).2 w e w') := fun e w' h => by rw [HST.out]; exact h
        obtain ⟨tk, htk⟩ : ∃ x, (itA T k).1 = x := ⟨_, rfl⟩
        obtain ⟨lk, hlk⟩ : ∃ x, (itA T k).2 = x := ⟨_, rfl⟩
        rw [htk, hlk] at HF
        rw [htk] at tkn HK
        rw [htk, hlk] at HPO
        have hq3 := rd_k HF.out.rd
        clear hk0 htk hlk HST
        have HKK : Hid (((tk.k : Int) != 0) = true) := by show _ = _; have := HK.out; simp; exact this
        have htt := HKK.out
        have HFN := Lib.hid (setRow_heap _ _ _ (rdC tk) _ _ HF.out.res)
        go_wp2_with (first
          | ((with_reducible show wpList _ _ _ _ _ _); refine wpList_load_row rfl 61 (.tmp 2) rfl (w.heap.size) rfl 61 (rdC tk) (0, 0) _ HF.out.rd Tryd.underlying61 rfl (by rw [HSR.out]; rfl) ?_)
          | ((with_reducible show wpList _ _ _ _ _ _); refine wpList_store_row rfl 61 (.tmp 4) (.tmp 97) rfl (w.heap.size + 1) (rdC tk) rfl rfl 61 rd0 HF.out.res (by rw [HSR.out]; rfl) rfl (one_rd _) ?_))
        refine bodyPost_ret (v := .tuple #[.agg (rdC tk), .slice none 0 0]) (results_row_tmp (fn := Tryd.f41) (p := 4) (u := 5) (ty := 61) rfl _ _ (w.heap.size + 1) 61 _ (0, 0) _ rfl HFN.out Tryd.underlying61 rfl (by rw [HSR.out]; rfl)) rfl (HPO.out _ _ ⟨_, rfl, .inl ⟨HK.out, rfl⟩, below_set2 HF.out.below (by omega)⟩)
    · obtain rfl : k = N := by omega
      have hkn : ¬ (k : Int) < n := by have := HNN.out; omega
      by_cases hk0 : (itA T k).1.k = 0
      · have tkn : (((itA T k).1.k : Int) == 0) = true := by simp; exact hk0
        have HK := Lib.hid hk0
        obtain ⟨tk, htk⟩ : ∃ x, (itA T k).1 = x := ⟨_, rfl⟩
        obtain ⟨lk, hlk⟩ : ∃ x, (itA T k).2 = x := ⟨_, rfl⟩
        rw [htk, hlk] at HF
        rw [htk] at tkn HK
        have HPO : Hid (∀ e w', GPost tk lk w e w' → GPost (itA T k).1 (itA T k).2 w e w') := fun e w' h => by rw [htk, hlk]; exact h
        have hq3 := rd_k HF.out.rd
        clear hk0 htk hlk
        have HKK : Hid (((tk.k : Int) != 0) = false) := by show _ = _; have := HK.out; simp; exact this
        have htt := HKK.out
        have HFN := Lib.hid (setRow_heap _ _ _ (rdC tk) _ _ HF.out.res)
        go_wp2_with (first
          | ((with_reducible show wpList _ _ _ _ _ _); refine wpList_load_row rfl 61 (.tmp 2) rfl (w.heap.size) rfl 61 (rdC tk) (0, 0) _ HF.out.rd Tryd.underlying61 rfl (by rw [HSR.out]; rfl) ?_)
          | ((with_reducible show wpList _ _ _ _ _ _); refine wpList_store_row rfl 61 (.tmp 4) (.tmp 98) rfl (w.heap.size + 1) (rdC tk) rfl rfl 61 rd0 HF.out.res (by rw [HSR.out]; rfl) rfl (one_rd _) ?_))
        refine bodyPost_ret (v := .tuple #[.agg (rdC tk), u6]) (results_row_tmp (fn := Tryd.f41) (p := 4) (u := 5) (ty := 61) rfl _ _ (w.heap.size + 1) 61 _ (0, 0) _ rfl HFN.out Tryd.underlying61 rfl (by rw [HSR.out]; rfl)) rfl (HPO.out _ _ ⟨_, rfl, .inr ⟨HK.out, row_base (row_beside HF.out.own (just_row _ _ _) (own_no_reader HF.out.own HF.out.res)) (by omega)⟩, below_set2 HF.out.below (by omega)⟩)
      · have tkn : (((itA T k).1.k : Int) == 0) = false := by simp; exact hk0
        have HK := Lib.hid hk0
        obtain ⟨tk, htk⟩ : ∃ x, (itA T k).1 = x := ⟨_, rfl⟩
        obtain ⟨lk, hlk⟩ : ∃ x, (itA T k).2 = x := ⟨_, rfl⟩
        rw [htk, hlk] at HF
        rw [htk] at tkn HK
        have HPO : Hid (∀ e w', GPost tk lk w e w' → GPost (itA T k).1 (itA T k).2 w e w') := fun e w' h => by rw [htk, hlk]; exact h
        have hq3 := rd_k HF.out.rd
        clear hk0 htk hlk
        have HKK : Hid (((tk.k : Int) != 0) = true) := by show _ = _; have := HK.out; simp; exact this
        have htt := HKK.out
        have HFN := Lib.hid (setRow_heap _ _ _ (rdC tk) _ _ HF.out.res)
        go_wp2_with (first
          | ((with_reducible show wpList _ _ _ _ _ _); refine wpList_load_row rfl 61 (.tmp 2) rfl (w.heap.size) rfl 61 (rdC tk) (0, 0) _ HF.out.rd Tryd.underlying61 rfl (by rw [HSR.out]; rfl) ?_)
          | ((with_reducible show wpList _ _ _ _ _ _); refine wpList_store_row rfl 61 (.tmp 4) (.tmp 97) rfl (w.heap.size + 1) (rdC tk) rfl rfl 61 rd0 HF.out.res (by rw [HSR.out]; rfl) rfl (one_rd _) ?_))
        refine bodyPost_ret (v := .tuple #[.agg (rdC tk), .slice none 0 0]) (results_row_tmp (fn := Tryd.f41) (p := 4) (u := 5) (ty := 61) rfl _ _ (w.heap.size + 1) 61 _ (0, 0) _ rfl HFN.out Tryd.underlying61 rfl (by rw [HSR.out]; rfl)) rfl (HPO.out _ _ ⟨_, rfl, .inl ⟨HK.out, rfl⟩, below_set2 HF.out.below (by omega)⟩)
end Go.Proofs.YtpdoihndpnpifaaDoor.Act

namespace Go.Proofs.YtpdoihndpnpifaaDoor.Act

open Go.RowKit Go.PlainAid Go.Proofs.YtpdoihndpnpifaaDoor.Oct Go.Proofs.YtpdoihndpnpifaaDoor.Flt Go.Proofs.YtpdoihndpnpifaaDoor.Rdr Go.Proofs.YtpdoihndpnpifaaDoor.Args

open Go.Proofs.YtpdoihndpnpifaaDoor.Hdr (iface_of_wrong)

set_option linter.unusedVariables false

set_option linter.unusedSimpArgs false

theorem act_aw : (rdA ⟨awB, 0, 0, 0, 0, 0⟩ 1).k = 6 ∧ (rdA ⟨awB, 0, 0, 0, 0, 0⟩ 1).fs = 5 ∧ (rdA ⟨awB, 0, 0, 0, 0, 0⟩ 1).fa = 2 := by
  refine ⟨?_, ?_, ?_⟩ <;> decide +kernel
set_option maxRecDepth 4000 in
set_option maxHeartbeats 800000 in
theorem awake_any (w : World) (hn : Names w) : Calls Tryd.prog 35 #[] w fun e w' => e = .returned (.bool true) ∧ Below w.heap.size w w' := by
  have HN := Lib.hid hn
  have heq : ∀ wx : World, (Op.equalIn 10000 49 (.agg #[.int .i64 6, .int .i64 5, .int .i64 2]) (.agg #[.int .i64 6, .int .i64 5, .int .i64 2])).run Tryd.prog wx = .ok true wx := eq_flt 6 5 2
  clear hn
  go_enter Tryd.func35, Tryd.ntmps35
  go_wp2_with fail
  refine (new_any awB _).mono ?_
  rintro e w1 ⟨g, hg, rfl, hr1, hb1⟩
  have HN1 := Lib.hid (HN.out.kept hb1)
  have HR1 := Lib.hid hr1
  have HB1 := Lib.hid hb1
  clear hr1 hb1
  go_wp2_with fail
  refine (aread_any g _ 1 _ HN1.out HR1.out ⟨Nat.zero_le _, by show 3 ≤ 1099511627776; omega⟩).mono ?_
  intro e w2 hp
  rcases hp with ⟨h1, x, rfl, hw, hr2, hj2⟩ | ⟨h1, _⟩
  · obtain ⟨e1, e2, e3⟩ := act_aw
    rw [show (1 : Int).toNat = 1 from rfl, e1, e2, e3] at hw
    obtain ⟨u, y, rfl⟩ := iface_of_wrong hw (by omega)
    have HW := Lib.hid hw
    have HB2 := Lib.hid (HB1.out.trans (hj2.below hg HR1.out.lt))
    clear h1 hw hr2 hj2 e1 e2 e3
    go_wp2_with (go_at_call 22; refine (of_wrong _ HW.out (fun _ _ _ => rfl)).mono ?_; rintro e w5 ⟨rfl, hb5⟩; (try simp only [fltV]); have HB5 := Lib.hid (HB2.out.trans (hb5.mono HB2.out.size)); clear hb5)
    go_ret
    exact ⟨rfl, HB5.out⟩
  · exfalso
    rw [show (1 : Int).toNat = 1 from rfl, act_aw.1] at h1
    omega
end Go.Proofs.YtpdoihndpnpifaaDoor.Act

namespace Go.Proofs.YtpdoihndpnpifaaDoor.Act

open Go.RowKit Go.PlainAid Go.Proofs.YtpdoihndpnpifaaDoor.Oct Go.Proofs.YtpdoihndpnpifaaDoor.Flt Go.Proofs.YtpdoihndpnpifaaDoor.Rdr Go.Proofs.YtpdoihndpnpifaaDoor.Args

set_option linter.unusedVariables false

set_option linter.unusedSimpArgs false

theorem num_1 {t : St} (h : (numS t 1).k = 0) : numS t 1 = { t with p := t.p + 1 } ∧ ((numV t 1 : Nat) : Int) = bt t.s t.p ∧ t.k = 0 ∧ t.p + 1 ≤ t.s.size := by
  obtain ⟨h0, hp, hg⟩ := num_k0 h
  have hg' : getB t.s (t.p : Nat) ((1 : Nat) : Int) = true := hg
  refine ⟨?_, ?_, h0, ?_⟩
  · unfold numS
    rw [if_pos h0, if_pos hg]
  · unfold numV getV
    rw [if_pos h0, if_pos hg']
    have := bt_nonneg t.s t.p
    simp [getN]
    omega
  · unfold getB at hg'
    simp at hg'
    omega
theorem aS_ok {t : St} {la : A3} (h : (aS t la).k = 0) : aS t la = { t with p := t.p + 3 } ∧ aV t = ⟨bt t.s t.p, bt t.s (t.p + 1), bt t.s (t.p + 2)⟩ ∧ lessB la (aV t) = true ∧ formB (aV t).a = true ∧ t.p + 3 ≤ t.s.size := by
  unfold aS at h ⊢
  obtain ⟨e1, hl⟩ := need_k0 (by omega) (by omega) h
  rw [e1] at h ⊢
  obtain ⟨e2, hf⟩ := need_k0 (by omega) (by omega) h
  rw [e2] at h ⊢
  have h3 : (numS (aS2 t) 1).k = 0 := h
  obtain ⟨q3, v3, k2, b3⟩ := num_1 h3
  have h2 : (numS (numS t 1) 1).k = 0 := k2
  obtain ⟨q2, v2, k1, b2⟩ := num_1 h2
  obtain ⟨q1, v1, k0, b1⟩ := num_1 k1
  have e2' : aS2 t = { t with p := t.p + 1 + 1 } := by unfold aS2; rw [q2, q1]
  have hv : aV t = ⟨bt t.s t.p, bt t.s (t.p + 1), bt t.s (t.p + 2)⟩ := by
    unfold aV
    rw [v1, v2, v3, q1, e2']
  refine ⟨?_, hv, hl, hf, ?_⟩
  · unfold aS3
    rw [q3, e2']
  · rw [e2'] at b3
    exact b3
theorem fb_snoc {α : Type} (f : List α → α → Nat) (x : α) : ∀ (l pre : List α), (Prt.fb f pre l).1 = 0 → f (pre ++ l) x = 0 → (Prt.fb f pre (l ++ [x])).1 = 0
  | [], pre, _, h => by rw [List.append_nil] at h; show (Prt.fb f pre [x]).1 = 0; rw [Prt.fb, if_pos h]; rfl
  | y :: l, pre, h, hx => by
    rw [List.cons_append, Prt.fb]
    rw [Prt.fb] at h
    split at h
    · rename_i h0
      rw [if_pos h0]
      exact fb_snoc f x l (pre ++ [y]) h (by simpa using hx)
    · rename_i h0
      exact absurd h h0
theorem it_all (T : St) : ∀ i, (itA T i).1.k = 0 → (itA T i).1 = { T with p := T.p + i * 3 } ∧ (badA (itA T i).2).1 = 0 ∧ (∀ j, j < i * 3 → (actB (itA T i).2)[j]? = some (bt T.s (T.p + j))) ∧ (i = 0 ∨ T.p + i * 3 ≤ T.s.size)
  | 0, h => by
    refine ⟨?_, rfl, fun j hj => by omega, .inl rfl⟩
    show T = _
    cases T; simp
  | i + 1, h => by
    have ih := it_all T i
    have hlen := it_len_ok T i
    rw [itA] at h ⊢
    split at h
    · rename_i h0
      rw [if_pos h0]
      obtain ⟨e, hb, hj, _⟩ := ih h0
      obtain ⟨l, hl⟩ : ∃ l, (itA T i).2 = l := ⟨_, rfl⟩
      obtain ⟨u, hu⟩ : ∃ u, (itA T i).1 = u := ⟨_, rfl⟩
      have hlen := hlen h0
      rw [hl] at h hb hj hlen ⊢
      rw [hu] at h h0 e ⊢
      dsimp only at h ⊢
      obtain ⟨e1, ev, hle, hf, hsz⟩ := aS_ok h
      have hbt : ∀ a, 0 ≤ bt u.s a ∧ bt u.s a ≤ 255 := fun a => ⟨bt_nonneg _ _, by have := bt_le u.s a; omega⟩
      have hus : u.s = T.s := by rw [e]
      have hup : u.p = T.p + i * 3 := by rw [e]
      refine ⟨?_, ?_, ?_, .inr (by rw [hus, hup] at hsz; omega)⟩
      · rw [e1, e]
        simp only [St.mk.injEq, true_and, and_true]
        omega
      · refine fb_snoc b1A _ l [] hb ?_
        show bad1 (lastOf l) (aV u) = 0
        unfold bad1
        rw [hf, hle]
        have i1 : idB (aV u).s = true := by rw [ev]; unfold idB; have := hbt u.p; simp; omega
        have i2 : idB (aV u).p = true := by rw [ev]; unfold idB; have := hbt (u.p + 1); simp; omega
        rw [i1, i2]; rfl
      · intro j hjj
        rw [actB_snoc]
        rcases Nat.lt_or_ge j (i * 3) with h3 | h3
        · rw [List.getElem?_append_left (by rw [actB_len]; omega)]
          exact hj j h3
        · rw [List.getElem?_append_right (by rw [actB_len]; omega), actB_len, hlen, ev]
          have b0 := hbt u.p
          have b1 := hbt (u.p + 1)
          have b2 := hbt (u.p + 2)
          have ha : act1 ⟨bt u.s u.p, bt u.s (u.p + 1), bt u.s (u.p + 2)⟩ = [bt u.s u.p, bt u.s (u.p + 1), bt u.s (u.p + 2)] := by
            unfold act1; rw [low_1 b0.1 b0.2, low_1 b1.1 b1.2, low_1 b2.1 b2.2]; rfl
          rw [ha, hus, hup]
          rcases (show j = i * 3 ∨ j = i * 3 + 1 ∨ j = i * 3 + 2 by omega) with rfl | rfl | rfl
          · simp
          · simp [Nat.add_assoc]
          · simp [Nat.add_assoc]
    · rename_i h0
      exact absurd h h0
theorem str_front (s : ByteArray) (L : List Int) (hL : L.length ≤ s.size) (h : ∀ j, j < L.length → L[j]? = some (bt s j)) : s.extract 0 L.length = strOfNums L := by
  apply ByteArray.ext
  rw [ByteArray.data_extract]
  apply Array.ext
  · have : s.data.size = s.size := rfl
    simp [strOfNums]; omega
  · intro i h1 h2
    have hi : i < L.length := by simp [strOfNums] at h2; exact h2
    have hs : i < s.size := by omega
    have e : L[i] = bt s i := by have := h i hi; rw [List.getElem?_eq_getElem hi] at this; exact Option.some.inj this
    simp [strOfNums]
    rw [e, ← get_bt s i hs]
    simp
    rfl
/-- What is read of a text from its beginning. -/
theorem read_back (s : ByteArray) (N : Nat) (h : (rdA ⟨s, 0, 0, 0, 0, 0⟩ N).k = 0) :
    ∃ l, rdL ⟨s, 0, 0, 0, 0, 0⟩ N = l ∧ rdA ⟨s, 0, 0, 0, 0, 0⟩ N = ⟨s, l.length * 3, 5, 0, 0, 0⟩ ∧ (badA l).1 = 0 ∧ strOfNums (actB l) = s.extract 0 (l.length * 3) ∧ l.length * 3 ≤ s.size := by
  unfold rdA at h
  obtain ⟨e, hb, hj, hs⟩ := it_all (secS ⟨s, 0, 0, 0, 0, 0⟩ 5) N h
  have hl := it_len_ok (secS ⟨s, 0, 0, 0, 0, 0⟩ 5) N h
  have hs' : N * 3 ≤ s.size := by
    rcases hs with h0 | h0
    · omega
    · have : (secS ⟨s, 0, 0, 0, 0, 0⟩ 5).p + N * 3 ≤ s.size := h0
      show _
      have e0 : (secS ⟨s, 0, 0, 0, 0, 0⟩ 5).p = 0 := rfl
      omega
  refine ⟨_, rfl, ?_, hb, ?_, ?_⟩
  · unfold rdA rdL
    rw [e, hl]
    show St.mk s (0 + N * 3) 5 0 0 0 = _
    rw [Nat.zero_add]
  · unfold rdL
    rw [hl]
    have hlen : (actB (itA (secS ⟨s, 0, 0, 0, 0, 0⟩ 5) N).2).length = N * 3 := by rw [actB_len, hl]
    rw [← hlen]
    refine (str_front s _ (by rw [hlen]; exact hs') fun j hjj => ?_).symm
    have := hj j (by rw [hlen] at hjj; exact hjj)
    rw [this]
    show some (bt s (0 + j)) = _
    rw [Nat.zero_add]
  · unfold rdL
    rw [hl]; exact hs'
end Go.Proofs.YtpdoihndpnpifaaDoor.Act
