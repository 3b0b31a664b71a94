
/- Pairs: of what is read of a text from its beginning just these bytes are put. No condition. What the document's Get tells of pairs. Condition: the reader stands within a text of at most 2 to the power 40 bytes. -/

import Derived.Test.YtplllmfbpliciaaGreatDoorPaiA

import Derived.Test.YtplllmfbpliciaaGreatDoorPrtI

import Derived.Deep.CutRange

namespace Go.Proofs.YtplllmfbpliciaaGreatDoor.Pai

open Go.RowKit Go.PlainAid Go.Proofs.YtplllmfbpliciaaGreatDoor.Oct Go.Proofs.YtplllmfbpliciaaGreatDoor.Flt Go.Proofs.YtplllmfbpliciaaGreatDoor.Rdr Go.Proofs.YtplllmfbpliciaaGreatDoor.Args

open Go.Proofs.YtplllmfbpliciaaGreatDoor.Act (idB)

set_option linter.unusedVariables false

set_option linter.unusedSimpArgs false

theorem num_1 {t : St} (h : (numS t 1).k = 0) : numS t 1 = { t with p := t.p + 1 } ∧ ((numV t 1 : Nat) : Int) = bt t.s t.p ∧ t.k = 0 ∧ t.p + 1 ≤ t.s.size := by
  obtain ⟨h0, hp, hg⟩ := num_k0 h
  have hg' : getB t.s (t.p : Nat) ((1 : Nat) : Int) = true := hg
  refine ⟨?_, ?_, h0, ?_⟩
  · unfold numS
    rw [if_pos h0, if_pos hg]
  · unfold numV getV
    rw [if_pos h0, if_pos hg']
    have := bt_nonneg t.s t.p
    simp [getN]
    omega
  · unfold getB at hg'
    simp at hg'
    omega
theorem pS_ok {t : St} {l : List P2} (h : (pS t l).k = 0) : pS t l = { t with p := t.p + 2 } ∧ pV t = ⟨bt t.s t.p, bt t.s (t.p + 1)⟩ ∧ riseB l (pV t) = true ∧ t.p + 2 ≤ t.s.size := by
  unfold pS at h ⊢
  obtain ⟨e1, hl⟩ := need_k0 (by omega) (by omega) h
  rw [e1] at h ⊢
  have h2 : (numS (numS t 1) 1).k = 0 := h
  obtain ⟨q2, v2, k1, b2⟩ := num_1 h2
  obtain ⟨q1, v1, k0, b1⟩ := num_1 k1
  have hv : pV t = ⟨bt t.s t.p, bt t.s (t.p + 1)⟩ := by
    unfold pV
    rw [v1, v2, q1]
  refine ⟨?_, hv, hl, ?_⟩
  · unfold pS2
    rw [q2, q1]
  · rw [q1] at b2
    exact b2
theorem fb_snoc {α : Type} (f : List α → α → Nat) (x : α) : ∀ (l pre : List α), (Prt.fb f pre l).1 = 0 → f (pre ++ l) x = 0 → (Prt.fb f pre (l ++ [x])).1 = 0
  | [], pre, _, h => by rw [List.append_nil] at h; show (Prt.fb f pre [x]).1 = 0; rw [Prt.fb, if_pos h]; rfl
  | y :: l, pre, h, hx => by
    rw [List.cons_append, Prt.fb]
    rw [Prt.fb] at h
    split at h
    · rename_i h0
      rw [if_pos h0]
      exact fb_snoc f x l (pre ++ [y]) h (by simpa using hx)
    · rename_i h0
      exact absurd h h0
theorem low_b {n : Int} (h0 : 0 ≤ n) (h1 : n ≤ 255) : low n.toNat 1 = [n] := by
  simp [low]; omega
theorem it_all (T : St) : ∀ i, (itP T i).1.k = 0 → (itP T i).1 = { T with p := T.p + i * 2 } ∧ (badP (itP T i).2).1 = 0 ∧ (∀ j, j < i * 2 → (pairB (itP T i).2)[j]? = some (bt T.s (T.p + j))) ∧ (i = 0 ∨ T.p + i * 2 ≤ T.s.size)
  | 0, h => by
    refine ⟨?_, rfl, fun j hj => by omega, .inl rfl⟩
    show T = _
    cases T; simp
  | i + 1, h => by
    have ih := it_all T i
    have hlen := it_len_ok T i
    rw [itP] at h ⊢
    split at h
    · rename_i h0
      rw [if_pos h0]
      obtain ⟨e, hb, hj, _⟩ := ih h0
      obtain ⟨l, hl⟩ : ∃ l, (itP T i).2 = l := ⟨_, rfl⟩
      obtain ⟨u, hu⟩ : ∃ u, (itP T i).1 = u := ⟨_, rfl⟩
      have hlen := hlen h0
      rw [hl] at h hb hj hlen ⊢
      rw [hu] at h h0 e ⊢
      dsimp only at h ⊢
      obtain ⟨e1, ev, hle, hsz⟩ := pS_ok h
      have hbt : ∀ a, 0 ≤ bt u.s a ∧ bt u.s a ≤ 255 := fun a => ⟨bt_nonneg _ _, by have := bt_le u.s a; omega⟩
      have hus : u.s = T.s := by rw [e]
      have hup : u.p = T.p + i * 2 := by rw [e]
      refine ⟨?_, ?_, ?_, .inr (by rw [hus, hup] at hsz; omega)⟩
      · rw [e1, e]
        simp only [St.mk.injEq, true_and, and_true]
        omega
      · refine fb_snoc bad1 _ l [] hb ?_
        show bad1 l (pV u) = 0
        unfold bad1
        rw [hle]
        have i1 : idB (pV u).f = true := by rw [ev]; unfold idB; have := hbt u.p; simp; omega
        have i2 : idB (pV u).t = true := by rw [ev]; unfold idB; have := hbt (u.p + 1); simp; omega
        rw [i1, i2]; rfl
      · intro j hjj
        rw [pairB_snoc]
        rcases Nat.lt_or_ge j (i * 2) with h3 | h3
        · rw [List.getElem?_append_left (by rw [pairB_len]; omega)]
          exact hj j h3
        · rw [List.getElem?_append_right (by rw [pairB_len]; omega), pairB_len, hlen, ev]
          have b0 := hbt u.p
          have b1 := hbt (u.p + 1)
          have ha : pair1 ⟨bt u.s u.p, bt u.s (u.p + 1)⟩ = [bt u.s u.p, bt u.s (u.p + 1)] := by
            unfold pair1; rw [low_b b0.1 b0.2, low_b b1.1 b1.2]; rfl
          rw [ha, hus, hup]
          rcases (show j = i * 2 ∨ j = i * 2 + 1 by omega) with rfl | rfl
          · simp
          · simp [Nat.add_assoc]
    · rename_i h0
      exact absurd h h0
theorem str_front (s : ByteArray) (L : List Int) (hL : L.length ≤ s.size) (h : ∀ j, j < L.length → L[j]? = some (bt s j)) : s.extract 0 L.length = strOfNums L := by
  apply ByteArray.ext
  rw [ByteArray.data_extract]
  apply Array.ext
  · have : s.data.size = s.size := rfl
    simp [strOfNums]; omega
  · intro i h1 h2
    have hi : i < L.length := by simp [strOfNums] at h2; exact h2
    have hs : i < s.size := by omega
    have e : L[i] = bt s i := by have := h i hi; rw [List.getElem?_eq_getElem hi] at this; exact Option.some.inj this
    simp [strOfNums]
    rw [e, ← get_bt s i hs]
    simp
    rfl
/-- What is read of a text from its beginning. -/
theorem read_back (s : ByteArray) (N : Nat) (h : (rdP ⟨s, 0, 0, 0, 0, 0⟩ N).k = 0) :
    ∃ l, rdPL ⟨s, 0, 0, 0, 0, 0⟩ N = l ∧ rdP ⟨s, 0, 0, 0, 0, 0⟩ N = ⟨s, l.length * 2, 4, 0, 0, 0⟩ ∧ (badP l).1 = 0 ∧ strOfNums (pairB l) = s.extract 0 (l.length * 2) ∧ l.length * 2 ≤ s.size := by
  unfold rdP at h
  obtain ⟨e, hb, hj, hs⟩ := it_all (secS ⟨s, 0, 0, 0, 0, 0⟩ 4) N h
  have hl := it_len_ok (secS ⟨s, 0, 0, 0, 0, 0⟩ 4) N h
  have hs' : N * 2 ≤ s.size := by
    rcases hs with h0 | h0
    · omega
    · have : (secS ⟨s, 0, 0, 0, 0, 0⟩ 4).p + N * 2 ≤ s.size := h0
      show _
      have e0 : (secS ⟨s, 0, 0, 0, 0, 0⟩ 4).p = 0 := rfl
      omega
  refine ⟨_, rfl, ?_, hb, ?_, ?_⟩
  · unfold rdP rdPL
    rw [e, hl]
    show St.mk s (0 + N * 2) 4 0 0 0 = _
    rw [Nat.zero_add]
  · unfold rdPL
    rw [hl]
    have hlen : (pairB (itP (secS ⟨s, 0, 0, 0, 0, 0⟩ 4) N).2).length = N * 2 := by rw [pairB_len, hl]
    rw [← hlen]
    refine (str_front s _ (by rw [hlen]; exact hs') fun j hjj => ?_).symm
    have := hj j (by rw [hlen] at hjj; exact hjj)
    rw [this]
    show some (bt s (0 + j)) = _
    rw [Nat.zero_add]
  · unfold rdPL
    rw [hl]; exact hs'
end Go.Proofs.YtplllmfbpliciaaGreatDoor.Pai

namespace Go.Proofs.YtplllmfbpliciaaGreatDoor.Pai

open Go.RowKit Go.PlainAid Go.Proofs.YtplllmfbpliciaaGreatDoor.Oct Go.Proofs.YtplllmfbpliciaaGreatDoor.Flt Go.Proofs.YtplllmfbpliciaaGreatDoor.Rdr Go.Proofs.YtplllmfbpliciaaGreatDoor.Args

open Go.Proofs.YtplllmfbpliciaaGreatDoor.Act (row_beside row_base)

open Go.Proofs.YtplllmfbpliciaaGreatDoor.Hdr (below_set2)

set_option linter.unusedVariables false

set_option linter.unusedSimpArgs false

theorem size_pair : (Tryz.prog.info? 50).map (·.size) = some 2 := by kernel_rfl
theorem owns_empty (w : World) : (w.alloc (.cells #[] 50)).ownsRow w.heap.size 50 2 (.slice (some ⟨w.heap.size, 0, none⟩) 0 0) 0 [] :=
  ⟨rfl, .inr ⟨_, 0, #[], rfl, Nat.le_refl _, heap_alloc_new _ _, by simp⟩⟩
/-- Within the document's Get: the reader, the result's place, the row. -/
structure RG (t : St) (l : List P2) (V : Value) (w wr : World) : Prop where
  rd : wr.heap[w.heap.size]? = some (.cells (rdC t) 43 (0, 0))
  res : wr.heap[w.heap.size + 1]? = some (.cells rd0 43 (0, 0))
  own : wr.ownsRow (w.heap.size + 2) 50 2 V l.length (flatP l)
  below : Below w.heap.size w wr
theorem RG.keep {t : St} {l : List P2} {V : Value} {w wr w' : World} (f : RG t l V w wr) (b : Below wr.heap.size wr w') : RG t l V w w' :=
  ⟨(b.block _ (lt_of_block f.rd)).trans f.rd, (b.block _ (lt_of_block f.res)).trans f.res, row_beside f.own (Just.of_below (g := wr.heap.size) b) (fun k hk => by have := (f.own.lt k hk).2; omega), f.below.trans (b.mono f.below.size)⟩
theorem own_no_reader {w : World} {B n : Nat} {V : Value} {xs : List Value} {X : Nat} {cs : Array Value} (h : w.ownsRow B 50 2 V n xs) (hx : w.heap[X]? = some (.cells cs 43 (0, 0))) : ∀ k, V.ownBlock = some k → k ≠ X := by
  intro k hk e
  obtain ⟨c2, e2⟩ := Prt.own_block h hk
  rw [e, hx] at e2
  simp only [Option.some.injEq, Obj.cells.injEq] at e2
  exact absurd e2.2.1 (by decide)
theorem RG.grown {t : St} {x : P2} {l : List P2} {V V' : Value} {w wr w' : World} (f : RG t l V w wr) (hg : wr.grownBy w' V.ownBlock) (n : Nat) (hn : n = (l ++ [x]).length) (ho : w'.ownsRow (w.heap.size + 2) 50 2 V' n (flatP l ++ pairL x)) : RG t (l ++ [x]) V' w w' := by
  have hne : ∀ k, k < w.heap.size → some k ≠ V.ownBlock := fun k hk e => by have := (f.own.lt k e.symm).1; omega
  refine ⟨(hg.block _ (lt_of_block f.rd) (fun e => own_no_reader f.own f.rd _ e.symm rfl)).trans f.rd, (hg.block _ (lt_of_block f.res) (fun e => own_no_reader f.own f.res _ e.symm rfl)).trans f.res, by rw [← hn, flatP_snoc]; exact ho, f.below.grown hg f.below.size (fun j hj => by have := (f.own.lt j hj).1; omega)⟩
/-- The document's reader of the round, and its act, besides. -/
structure RJ (X C : Nat) (u : St) (q : P2) (t : St) (l : List P2) (V : Value) (w wr : World) : Prop where
  g : RG t l V w wr
  x : wr.heap[X]? = some (.cells (rdC u) 43 (0, 0))
  act : wr.heap[C]? = some (.cells (pairC q) 50 (0, 0))
  hx : w.heap.size + 1 < X
theorem pair_no_reader {w : World} {b : Nat} {cs cs' : Array Value} {X : Nat} (h : w.heap[b]? = some (.cells cs 50 (0, 0))) (hx : w.heap[X]? = some (.cells cs' 43 (0, 0))) : b ≠ X := by
  rintro rfl
  rw [h] at hx
  simp only [Option.some.injEq, Obj.cells.injEq] at hx
  exact absurd hx.2.1 (by decide)
theorem RJ.keep {X C : Nat} {u : St} {x : P2} {t : St} {l : List P2} {V : Value} {w wr w' : World} (f : RJ X C u x t l V w wr) (b : Below wr.heap.size wr w') : RJ X C u x t l V w w' :=
  ⟨f.g.keep b, (b.block _ (lt_of_block f.x)).trans f.x, (b.block _ (lt_of_block f.act)).trans f.act, f.hx⟩
theorem RJ.drewN {X C : Nat} {u : St} {x : P2} {t : St} {l : List P2} {V : Value} {w wr : World} (f : RJ X C u x t l V w wr) (n : Nat) : RJ X C u x t l V w (wr.drewN n) := f.keep ⟨rfl, rfl, rfl, Nat.le_refl _, fun _ _ => rfl⟩
theorem RJ.drew {X C : Nat} {u : St} {x : P2} {t : St} {l : List P2} {V : Value} {w wr : World} (f : RJ X C u x t l V w wr) : RJ X C u x t l V w wr.drew := f.keep ⟨rfl, rfl, rfl, Nat.le_refl _, fun _ _ => rfl⟩
theorem just_row (w : World) (X : Nat) (cs : Array Value) : Just X w (w.setRow X cs) := ⟨rfl, rfl, rfl, (by simp), fun k _ hne => setRow_other _ _ _ _ hne⟩
theorem RG.setx {X : Nat} {t : St} {l : List P2} {V : Value} {w wr : World} {u : St} (f : RG t l V w wr) (hX : wr.heap[X]? = some (.cells (rdC u) 43 (0, 0))) (hx : w.heap.size + 1 < X) (u' : St) : RG t l V w (wr.setRow X (rdC u')) := by
  have j := just_row wr X (rdC u')
  exact ⟨(j.block _ (lt_of_block f.rd) (by omega)).trans f.rd, (j.block _ (lt_of_block f.res) (by omega)).trans f.res, row_beside f.own j (own_no_reader f.own hX), below_set2 f.below (by omega)⟩
theorem RJ.setx {X C : Nat} {u : St} {x : P2} {t : St} {l : List P2} {V : Value} {w wr : World} (f : RJ X C u x t l V w wr) (u' : St) : RJ X C u' x t l V w (wr.setRow X (rdC u')) :=
  ⟨f.g.setx f.x f.hx u', setRow_heap _ _ _ _ _ _ f.x, ((just_row wr X (rdC u')).block _ (lt_of_block f.act) (pair_no_reader f.act f.x)).trans f.act, f.hx⟩
theorem RJ.copy {X C : Nat} {u : St} {x : P2} {t : St} {l : List P2} {V : Value} {w wr : World} (f : RJ X C u x t l V w wr) : RG u l V w (wr.setRow w.heap.size (rdC u)) ∧ (wr.setRow w.heap.size (rdC u)).heap[C]? = some (.cells (pairC x) 50 (0, 0)) := by
  have j := just_row wr w.heap.size (rdC u)
  exact ⟨⟨setRow_heap _ _ _ _ _ _ f.g.rd, (j.block _ (lt_of_block f.g.res) (by omega)).trans f.g.res, row_beside f.g.own j (own_no_reader f.g.own f.g.rd), below_set2 f.g.below (Nat.le_refl _)⟩, (j.block _ (lt_of_block f.act) (pair_no_reader f.act f.g.rd)).trans f.act⟩
theorem kept5 {W w2 : World} {a b c d e : Addr} {va vb vc vd ve : Value} (h : W.cell? a = some va ∧ W.cell? b = some vb ∧ W.cell? c = some vc ∧ W.cell? d = some vd ∧ W.cell? e = some ve) (hb : Below W.heap.size W w2) : w2.cell? a = some va ∧ w2.cell? b = some vb ∧ w2.cell? c = some vc ∧ w2.cell? d = some vd ∧ w2.cell? e = some ve :=
  ⟨(hb.cell (Go.block_lt_of_cell h.1)).trans h.1, kept4 h.2 hb⟩
theorem rd_k {w : World} {b : Nat} {t : St} (h : w.heap[b]? = some (.cells (rdC t) 43 (0, 0))) : w.cell? ⟨b, 3, none⟩ = some (.int .i64 t.k) := by rw [cell_of_row w _ _ _ _ _ h]; rfl
theorem rd_p {w : World} {b : Nat} {t : St} (h : w.heap[b]? = some (.cells (rdC t) 43 (0, 0))) : w.cell? ⟨b, 1, none⟩ = some (.int .i64 t.p) := by rw [cell_of_row w _ _ _ _ _ h]; rfl
theorem need_had {t : St} {b : Bool} {k a : Int} (h : t.k ≠ 0) : needS b t k a = t := by
  unfold needS; split
  · rfl
  · exact fail_had h
def GPost (t : St) (l : List P2) (w : World) (e : Ending) (w' : World) : Prop := ∃ V, e = .returned (.tuple #[.agg (rdC t), V]) ∧ ((t.k ≠ 0 ∧ V = .slice none 0 0) ∨ (t.k = 0 ∧ w'.ownsRow w.heap.size 50 2 V l.length (flatP l))) ∧ Below w.heap.size w w'
def GRel10 (t : St) (n : Nat) (w : World) (v i : Value) (wr : World) : Prop :=
  ∃ k : Nat, k ≤ n ∧ i = .int .i64 k ∧ RG (itP t k).1 (itP t k).2 v w wr
set_option maxRecDepth 8000 in
set_option maxHeartbeats 16000000 in
theorem get10_any (t : St) (n : Int) (w : World) (ho : Ok t) :
    Calls Tryz.prog 14 #[.agg (rdC t), .int .i64 n] w (GPost (rdP t n.toNat) (rdPL t n.toNat) w) := by
  obtain ⟨i0, hi, hz0, hz1, hz2⟩ := info_parts infoPair
  have ho2 : Ok (secS t 4) := ho
  have HP : Hid (rdP t n.toNat = (itP (secS t 4) n.toNat).1) := rfl
  have HL : Hid (rdPL t n.toNat = (itP (secS t 4) n.toNat).2) := rfl
  obtain ⟨T, hT⟩ : ∃ x, secS t 4 = x := ⟨_, rfl⟩
  have HTC : Hid (rdC T = #[.string t.s, .int .i64 t.p, .int .i64 4, .int .i64 t.k, .int .i64 t.fs, .int .i64 t.fa]) := by show _ = _; rw [← hT]; rfl
  rw [hT] at HP HL ho2
  have HOK := Lib.hid (fun i => ok_it ho2 i)
  have HPL := Lib.hid (it_place T)
  rw [HP.out, HL.out]
  obtain ⟨N, hN⟩ : ∃ N, n.toNat = N := ⟨_, rfl⟩
  have HNN := Lib.hid hN
  have HSR := Lib.hid size_rd
  have HSA := Lib.hid size_pair
  have HST0 : Hid (RG T [] (.slice (some ⟨w.heap.size + 1 + 1, 0, none⟩) 0 0) w (((w.alloc (.cells #[.string t.s, .int .i64 t.p, .int .i64 4, .int .i64 t.k, .int .i64 t.fs, .int .i64 t.fa] 43)).alloc (.cells #[.string ⟨#[]⟩, .int .i64 0, .int .i64 0, .int .i64 0, .int .i64 0, .int .i64 0] 43)).alloc (.cells #[] 50))) := by
    show RG _ _ _ _ _
    rw [← HTC.out]
    refine ⟨(heap_alloc_old _ _ (by simp; omega)).trans ((heap_alloc_old _ _ (by simp)).trans (heap_alloc_new _ _)), (heap_alloc_old _ _ (by simp)).trans (Hdr.second_new w _ _), ?_, (two_below w _ _).alloc (by simp; omega) _⟩
    have h := owns_empty ((w.alloc (.cells (rdC T) 43)).alloc (.cells #[.string ⟨#[]⟩, .int .i64 0, .int .i64 0, .int .i64 0, .int .i64 0, .int .i64 0] 43))
    simp only [World.size_alloc] at h
    exact h
  rw [hN]
  unfold rdC
  clear hT HP HL ho2 ho hN
  go_enter Tryz.func14, Tryz.ntmps14
  go_wp2_with fail
  go_loopw [6, 7] (fun v i wr => GRel10 T N w v i wr) (fun _ i _ => N - (intOf i).toNat)
  case atStart => exact ⟨0, Nat.zero_le _, rfl, HST0.out⟩
  case round =>
    obtain ⟨k, hk, rfl, hf⟩ := hrel
    have HF := Lib.hid hf
    clear hf HST0
    by_cases hlt : k < N
    · have hkn : (k : Int) < n := by have := HNN.out; omega
      by_cases hk0 : (itP T k).1.k = 0
      · have HNX : Hid (itP T (k + 1) = (pS (itP T k).1 (itP T k).2, (itP T k).2 ++ [pV (itP T k).1])) := by show _ = _; rw [itP, if_pos hk0]
        have HLE : Hid ((itP T k).2.length = k ∧ k ≤ 1099511627776) := by
          refine ⟨it_len_ok T k hk0, ?_⟩
          have h1 := HPL.out k hk0
          have h2 := HOK.out k
          have h3 := h2.1
          have h4 := h2.2
          omega
        have HOT := Lib.hid (HOK.out k)
        obtain ⟨tk, htk⟩ : ∃ x, (itP T k).1 = x := ⟨_, rfl⟩
        obtain ⟨lk, hlk⟩ : ∃ x, (itP T k).2 = x := ⟨_, rfl⟩
        rw [htk] at hk0
        rw [htk, hlk] at HF HNX
        rw [hlk] at HLE
        rw [htk] at HOT
        have tk0 : ((tk.k : Int) == 0) = true := by simp; exact hk0
        have HK0 := Lib.hid hk0
        have HO1 := Lib.hid (ok_num HOT.out 1)
        have HFS : Hid (pS tk lk = needS (riseB lk (pV tk)) (pS2 tk) 9 tk.p) := rfl
        have HFV : Hid (pV tk = ⟨numV tk 1, numV (numS tk 1) 1⟩) := rfl
        have HPM : Hid (tk.p ≤ 1099511627776) := Nat.le_trans HOT.out.1 HOT.out.2
        rw [HFV.out] at HNX HFS
        have HU1 := Lib.hid (fun W => rnum_any tk 1 W HOT.out (by omega))
        have HU2 := Lib.hid (fun W => rnum_any (numS tk 1) 1 W HO1.out (by omega))
        have hv1 := u8_le tk
        have hv2 := u8_le (numS tk 1)
        have e2 : numS (numS tk 1) 1 = pS2 tk := rfl
        rw [e2] at HU2
        obtain ⟨t1, ht1⟩ : ∃ x, numS tk 1 = x := ⟨_, rfl⟩
        obtain ⟨t2, ht2⟩ : ∃ x, pS2 tk = x := ⟨_, rfl⟩
        obtain ⟨v1, hv1'⟩ : ∃ x, numV tk 1 = x := ⟨_, rfl⟩
        rw [ht1] at HU1 HU2 HNX HFS hv2
        obtain ⟨v2, hv2'⟩ : ∃ x, numV t1 1 = x := ⟨_, rfl⟩
        rw [ht2] at HU2 HFS
        rw [hv1', hv2'] at HNX HFS
        rw [hv1'] at HU1 hv1
        rw [hv2'] at HU2 hv2
        have hw1 : IntKind.i64.wrap (v1 : Int) = v1 := IntWalk.i64_in _ (by omega)
        have hw2 : IntKind.i64.wrap (v2 : Int) = v2 := IntWalk.i64_in _ (by omega)
        have hq1 := rd_p HF.out.rd
        have hq3 := rd_k HF.out.rd
        clear hk0 htk hlk HFV HO1 HOT ht1 ht2 hv1 hv2 hv1' hv2' e2
        go_wp2_with (first
          | ((with_reducible show wpList _ _ _ _ _ _); refine wpList_load_row rfl 43 (.tmp 2) rfl (w.heap.size) rfl 43 (rdC tk) (0, 0) _ HF.out.rd Tryz.underlying43 rfl (by rw [HSR.out]; rfl) ?_))
        refine (HU1.out _).mono ?_
        rintro e w3 ⟨rfl, hb3⟩
        have HF3 := Lib.hid (HF.out.keep hb3)
        clear hb3
        dsimp only [rdC]
        go_upto_region 8 with fail
        have hx3 := heap_alloc_new w3 (.cells (rdC t1) 43)
        have hsz3 := lt_of_block HF3.out.res
        have hf4 : RG tk lk u6 w (w3.alloc (.cells (rdC t1) 43)) := HF3.out.keep ((Below.refl _ _).alloc (Nat.le_refl _) _)
        obtain ⟨X, hX⟩ : ∃ X, w3.heap.size = X := ⟨_, rfl⟩
        obtain ⟨w4, hw4⟩ : ∃ W, w3.alloc (.cells (rdC t1) 43) = W := ⟨_, rfl⟩
        rw [hw4] at hx3 hf4
        rw [hX] at hx3 hsz3
        have HX4 := Lib.hid hx3
        have HF4 := Lib.hid hf4
        have HXX : Hid (w.heap.size + 1 < X) := hsz3
        unfold rdC at hw4
        rw [hw4, hX]
        clear hx3 hf4 hsz3 hX hw4 HF3 HU1
        go_wp2_with (first
          | ((with_reducible show wpList _ _ _ _ _ _); refine wpList_load_row rfl 43 (.tmp 9) rfl (X) rfl 43 (rdC t1) (0, 0) _ HX4.out Tryz.underlying43 rfl (by rw [HSR.out]; rfl) ?_))
        refine (HU2.out _).mono ?_
        rintro e w5 ⟨rfl, hb5⟩
        have HF5 := Lib.hid (HF4.out.keep hb5)
        have HX5 := Lib.hid ((hb5.block _ (lt_of_block HX4.out)).trans HX4.out)
        have HF6 := Lib.hid (HF5.out.setx HX5.out HXX.out t2)
        have HX6 := Lib.hid (setRow_heap _ _ _ (rdC t2) _ _ HX5.out)
        clear hb5 HF4 HX4
        go_upto_region 10 with (first
          | ((with_reducible show wpList _ _ _ _ _ _); refine wpList_store_row rfl 43 (.tmp 9) (.tmp 36) rfl (X) (rdC t2) rfl rfl 43 (rdC t1) HX5.out (by rw [HSR.out]; rfl) rfl (one_rd _) ?_))
        have hj : RJ X w5.heap.size t2 ⟨v1, v2⟩ tk lk u6 w ((w5.setRow X (rdC t2)).alloc (.cells #[.int .i64 v1, .int .i64 v2] 50)) := by
          refine ⟨HF6.out.keep ((Below.refl _ _).alloc (Nat.le_refl _) _), (heap_alloc_old _ _ (lt_of_block HX6.out)).trans HX6.out, ?_, HXX.out⟩
          have h := heap_alloc_new (w5.setRow X (rdC t2)) (.cells #[.int .i64 v1, .int .i64 v2] 50)
          rw [size_setRow] at h
          exact h
        obtain ⟨C, hC⟩ : ∃ C, w5.heap.size = C := ⟨_, rfl⟩
        obtain ⟨W, hW⟩ : ∃ W, ((w5.setRow X (rdC t2)).alloc (.cells #[.int .i64 v1, .int .i64 v2] 50)) = W := ⟨_, rfl⟩
        rw [hW, hC] at hj
        rw [hW, hC]
        have HJ := Lib.hid hj
        have hx3k := rd_k HJ.out.x
        clear hj hC hW HF5 HF6 HX5 HX6 HU2 HF hq1 hq3 tk0
        by_cases hk2 : t2.k = 0
        · have tka : ((t2.k : Int) == 0) = true := by simp; exact hk2
          have HK2 := Lib.hid hk2
          clear hk2
          rcases Nat.eq_zero_or_pos k with hz | hz
          · have HEQ : Hid (pS tk lk = t2) := by
              show _ = _
              have hlk : lk = [] := List.eq_nil_of_length_eq_zero (by have := HLE.out.1; omega)
              rw [HFS.out, hlk]
              exact need_yes _ _ _ rfl
            have tkk : decide ((0 : Int) < (k : Int)) = false := decide_eq_false (by omega)
            have tkk2 : decide (0 < k) = false := decide_eq_false (by omega)
            clear hz
            go_wp2
            go_quiet (fail)
            have HJQ := Lib.hid (HJ.out.drewN nq)
            have HC := Lib.hid (HJQ.out.copy)
            have hcc := HC.out.2
            have g0 := cell_of_row _ _ 0 _ _ _ hcc
            have g1 := cell_of_row _ _ 1 _ _ _ hcc
            simp only [pairC, List.getElem?_toArray, List.getElem?_cons_zero, List.getElem?_cons_succ] at g0 g1
            have HRX := Lib.hid (HC.out.1.keep ((Below.refl _ _).alloc (Nat.le_refl _) (.cells #[.int .i64 v1, .int .i64 v2] 50)))
            clear hcc
            go_wp2_with (first
              | ((with_reducible show wpList _ _ _ _ _ _); refine wpList_load_row rfl 43 (.tmp 9) rfl (X) rfl 43 (rdC t2) (0, 0) _ HJQ.out.x Tryz.underlying43 rfl (by rw [HSR.out]; rfl) ?_)
              | ((with_reducible show wpList _ _ _ _ _ _); refine wpList_store_row rfl 43 (.tmp 2) (.tmp 64) rfl (w.heap.size) (rdC t2) rfl rfl 43 (rdC tk) HJQ.out.g.rd (by rw [HSR.out]; rfl) rfl (one_rd _) ?_)
              | (at_builtin; refine wpList_append_own _ rfl _ _ 23 rfl (w.heap.size + 2) 50 i0 (.agg #[.int .i64 0, .int .i64 0]) 2 16 Tryz.underlying23 hi hz0 hz1 hz2 rfl (by decide) _ lk.length _ rfl HRX.out.own ⟨(W.drewN nq).heap.size, 0, none⟩ 1 1 [.int .i64 v1, .int .i64 v2] rfl rfl ?c1 ?c2 ?c3 ?c4 ?c5 ?_))
            case c1 =>
              intro j u hj
              have hrow := heap_alloc_new ((W.drewN nq).setRow w.heap.size (rdC t2)) (.cells #[.int .i64 v1, .int .i64 v2] 50)
              simp only [size_setRow] at hrow
              have e : (Addr.mk (W.drewN nq).heap.size 0 none).add j = ⟨(W.drewN nq).heap.size, j, none⟩ := by cases j <;> simp [Addr.add]
              rw [e, cell_of_row _ _ _ _ _ _ hrow, ← hj]
              simp
            case c2 => intro u hu; simp at hu; rcases hu with rfl | rfl <;> rfl
            case c3 => have := HLE.out; unfold maxLen; omega
            case c4 => have := HLE.out; omega
            case c5 => have := lt_of_block HRX.out.res; simp at this ⊢; omega
            intro v' w12 ho12 hg12 _
            have HF12 := Lib.hid (HRX.out.grown (x := ⟨v1, v2⟩) hg12 (lk.length + 1) (by simp) ho12)
            clear ho12 hg12 g0 g1
            have hkb := HLE.out.2
            have hk1 : IntKind.i64.wrap ((k : Int) + 1) = (k : Int) + 1 := IntWalk.i64_in _ (by omega)
            go_wp2
            go_roundw
            case rel => exact ⟨k + 1, by omega, by go_num, by rw [HNX.out, HEQ.out]; exact HF12.out⟩
            case measure => simp [intOf]; omega
          · obtain ⟨j, hkj⟩ : ∃ j, k = j + 1 := ⟨k - 1, by omega⟩
            obtain ⟨A, c, hu6, hat, _⟩ := own_at HJ.out.g.own
            rw [HLE.out.1] at hu6
            subst hu6
            obtain ⟨y, hy⟩ : ∃ y, lk[j]? = some y := ⟨_, List.getElem?_eq_getElem (by have := HLE.out.1; omega)⟩
            have hla : ∀ x, riseB lk x = lessB y x := fun x => by
              have h := rise_take lk j y x hy
              rw [List.take_of_length_le (by have := HLE.out.1; omega)] at h
              exact h
            have HLA := Lib.hid hla
            have HL := Lib.hid (fun W => less10_any y ⟨v1, v2⟩ W)
            have HF9 := Lib.hid (fun W => rfail_any t2 9 tk.p W (by omega))
            obtain ⟨ay, rfl, d1, d2⟩ := hat j y hy
            have e0 := cell_of_row _ _ 0 _ _ _ HJ.out.act
            have e1 := cell_of_row _ _ 1 _ _ _ HJ.out.act
            simp only [pairC, List.getElem?_toArray, List.getElem?_cons_zero, List.getElem?_cons_succ] at e0 e1
            have HCE := Lib.hid (And.intro hx3k (And.intro d1 (And.intro d2 (And.intro e0 e1))))
            obtain ⟨y1, y2⟩ := y
            unfold pairC at HL
            dsimp only at HL d1 d2 HCE
            obtain ⟨bl, hbl⟩ : ∃ b, lessB ⟨y1, y2⟩ ⟨v1, v2⟩ = b := ⟨_, rfl⟩
            rw [hbl] at HL
            have HBL := Lib.hid hbl
            have tkk : decide ((0 : Int) < (k : Int)) = true := decide_eq_true (by omega)
            have tkk2 : decide (0 < k) = true := decide_eq_true (by omega)
            have hj1 : IntKind.i64.wrap ((k : Int) - 1) = (j : Int) := by have := HLE.out.2; rw [IntKind.wrap_i64]; omega
            have hj0 : (0 : Int) ≤ (j : Int) := by omega
            have hja : (j : Int) < k := by omega
            have HCD : Hid (W.drew.cell? ⟨X, 3, none⟩ = some (.int .i64 t2.k) ∧ W.drew.cell? (ay.add (j * 2)) = some (.int .i64 y1) ∧ W.drew.cell? ⟨(ay.add (j * 2)).block, (ay.add (j * 2)).off + 1, none⟩ = some (.int .i64 y2) ∧ W.drew.cell? ⟨C, 0, none⟩ = some (.int .i64 v1) ∧ W.drew.cell? ⟨C, 1, none⟩ = some (.int .i64 v2)) := HCE.out
            have HJD := Lib.hid HJ.out.drew
            clear hat hy hla hbl hz hkj
            go_wp2
            cases bl
            all_goals
              go_region_held3 (fun wx => wx.cell? ⟨X, 3, none⟩ = some (.int .i64 t2.k) ∧ wx.cell? (ay.add (j * 2)) = some (.int .i64 y1) ∧ wx.cell? ⟨(ay.add (j * 2)).block, (ay.add (j * 2)).off + 1, none⟩ = some (.int .i64 y2) ∧ wx.cell? ⟨C, 0, none⟩ = some (.int .i64 v1) ∧ wx.cell? ⟨C, 1, none⟩ = some (.int .i64 v2)) (first | (go_keep; done) | exact HCE.out | exact HKP.out | (refine ⟨?_, ?_, ?_, ?_, ?_⟩ <;> assumption))
                (first
                  | (go_at_call 20; refine (HL.out _).mono ?_; rintro e w9 ⟨rfl, hb9⟩; have HJ9 := Lib.hid (HJD.out.keep hb9); have HKP := Lib.hid (kept5 HCD.out hb9); clear hb9))
            · have HEQ : Hid (pS tk lk = failS t2 9 tk.p) := by
                show _ = _
                rw [HFS.out, HLA.out, HBL.out]
                rfl
              go_wp2_with (first
                | ((with_reducible show wpList _ _ _ _ _ _); refine wpList_load_row rfl 43 (.tmp 9) rfl (X) rfl 43 (rdC t2) (0, 0) _ HJ9.out.x Tryz.underlying43 rfl (by rw [HSR.out]; rfl) ?_))
              refine (HF9.out _).mono ?_
              rintro e w10 ⟨rfl, hb10⟩
              have HJ10 := Lib.hid (HJ9.out.keep hb10)
              obtain ⟨t5, ht5⟩ : ∃ t, failS t2 9 tk.p = t := ⟨_, rfl⟩
              rw [ht5] at HEQ
              rw [ht5]
              have HJ11 := Lib.hid (HJ10.out.setx t5)
              clear hb10 ht5
              go_upto_region 12 with (first
                | ((with_reducible show wpList _ _ _ _ _ _); refine wpList_store_row rfl 43 (.tmp 9) (.tmp 63) rfl (X) (rdC t5) rfl rfl 43 (rdC t2) HJ10.out.x (by rw [HSR.out]; rfl) rfl (one_rd _) ?_))
              obtain ⟨W2, hW2⟩ : ∃ W, w10.setRow X (rdC t5) = W := ⟨_, rfl⟩
              rw [hW2] at HJ11
              rw [hW2]
              clear hW2
              have HC := Lib.hid (HJ11.out.copy)
              have hcc := HC.out.2
              have g0 := cell_of_row _ _ 0 _ _ _ hcc
              have g1 := cell_of_row _ _ 1 _ _ _ hcc
              simp only [pairC, List.getElem?_toArray, List.getElem?_cons_zero, List.getElem?_cons_succ] at g0 g1
              have HRX := Lib.hid (HC.out.1.keep ((Below.refl _ _).alloc (Nat.le_refl _) (.cells #[.int .i64 v1, .int .i64 v2] 50)))
              clear hcc
              go_wp2_with (first
                | ((with_reducible show wpList _ _ _ _ _ _); refine wpList_load_row rfl 43 (.tmp 9) rfl (X) rfl 43 (rdC t5) (0, 0) _ HJ11.out.x Tryz.underlying43 rfl (by rw [HSR.out]; rfl) ?_)
                | ((with_reducible show wpList _ _ _ _ _ _); refine wpList_store_row rfl 43 (.tmp 2) (.tmp 64) rfl (w.heap.size) (rdC t5) rfl rfl 43 (rdC tk) HJ11.out.g.rd (by rw [HSR.out]; rfl) rfl (one_rd _) ?_)
                | (at_builtin; refine wpList_append_own _ rfl _ _ 23 rfl (w.heap.size + 2) 50 i0 (.agg #[.int .i64 0, .int .i64 0]) 2 16 Tryz.underlying23 hi hz0 hz1 hz2 rfl (by decide) _ lk.length _ rfl HRX.out.own ⟨(W2).heap.size, 0, none⟩ 1 1 [.int .i64 v1, .int .i64 v2] rfl rfl ?c1 ?c2 ?c3 ?c4 ?c5 ?_))
              case c1 =>
                intro j u hj
                have hrow := heap_alloc_new ((W2).setRow w.heap.size (rdC t5)) (.cells #[.int .i64 v1, .int .i64 v2] 50)
                simp only [size_setRow] at hrow
                have e : (Addr.mk (W2).heap.size 0 none).add j = ⟨(W2).heap.size, j, none⟩ := by cases j <;> simp [Addr.add]
                rw [e, cell_of_row _ _ _ _ _ _ hrow, ← hj]
                simp
              case c2 => intro u hu; simp at hu; rcases hu with rfl | rfl <;> rfl
              case c3 => have := HLE.out; unfold maxLen; omega
              case c4 => have := HLE.out; omega
              case c5 => have := lt_of_block HRX.out.res; simp at this ⊢; omega
              intro v' w12 ho12 hg12 _
              have HF12 := Lib.hid (HRX.out.grown (x := ⟨v1, v2⟩) hg12 (lk.length + 1) (by simp) ho12)
              clear ho12 hg12 g0 g1
              have hkb := HLE.out.2
              have hk1 : IntKind.i64.wrap ((k : Int) + 1) = (k : Int) + 1 := IntWalk.i64_in _ (by omega)
              go_wp2
              go_roundw
              case rel => exact ⟨k + 1, by omega, by go_num, by rw [HNX.out, HEQ.out]; exact HF12.out⟩
              case measure => simp [intOf]; omega
            · have HEQ : Hid (pS tk lk = t2) := by
                show _ = _
                rw [HFS.out, HLA.out, HBL.out]
                exact need_yes _ _ _ rfl
              have HC := Lib.hid (HJ9.out.copy)
              have hcc := HC.out.2
              have g0 := cell_of_row _ _ 0 _ _ _ hcc
              have g1 := cell_of_row _ _ 1 _ _ _ hcc
              simp only [pairC, List.getElem?_toArray, List.getElem?_cons_zero, List.getElem?_cons_succ] at g0 g1
              have HRX := Lib.hid (HC.out.1.keep ((Below.refl _ _).alloc (Nat.le_refl _) (.cells #[.int .i64 v1, .int .i64 v2] 50)))
              clear hcc
              go_wp2_with (first
                | ((with_reducible show wpList _ _ _ _ _ _); refine wpList_load_row rfl 43 (.tmp 9) rfl (X) rfl 43 (rdC t2) (0, 0) _ HJ9.out.x Tryz.underlying43 rfl (by rw [HSR.out]; rfl) ?_)
                | ((with_reducible show wpList _ _ _ _ _ _); refine wpList_store_row rfl 43 (.tmp 2) (.tmp 64) rfl (w.heap.size) (rdC t2) rfl rfl 43 (rdC tk) HJ9.out.g.rd (by rw [HSR.out]; rfl) rfl (one_rd _) ?_)
                | (at_builtin; refine wpList_append_own _ rfl _ _ 23 rfl (w.heap.size + 2) 50 i0 (.agg #[.int .i64 0, .int .i64 0]) 2 16 Tryz.underlying23 hi hz0 hz1 hz2 rfl (by decide) _ lk.length _ rfl HRX.out.own ⟨(w9).heap.size, 0, none⟩ 1 1 [.int .i64 v1, .int .i64 v2] rfl rfl ?c1 ?c2 ?c3 ?c4 ?c5 ?_))
              case c1 =>
                intro j u hj
                have hrow := heap_alloc_new ((w9).setRow w.heap.size (rdC t2)) (.cells #[.int .i64 v1, .int .i64 v2] 50)
                simp only [size_setRow] at hrow
                have e : (Addr.mk (w9).heap.size 0 none).add j = ⟨(w9).heap.size, j, none⟩ := by cases j <;> simp [Addr.add]
                rw [e, cell_of_row _ _ _ _ _ _ hrow, ← hj]
                simp
              case c2 => intro u hu; simp at hu; rcases hu with rfl | rfl <;> rfl
              case c3 => have := HLE.out; unfold maxLen; omega
              case c4 => have := HLE.out; omega
              case c5 => have := lt_of_block HRX.out.res; simp at this ⊢; omega
              intro v' w12 ho12 hg12 _
              have HF12 := Lib.hid (HRX.out.grown (x := ⟨v1, v2⟩) hg12 (lk.length + 1) (by simp) ho12)
              clear ho12 hg12 g0 g1
              have hkb := HLE.out.2
              have hk1 : IntKind.i64.wrap ((k : Int) + 1) = (k : Int) + 1 := IntWalk.i64_in _ (by omega)
              go_wp2
              go_roundw
              case rel => exact ⟨k + 1, by omega, by go_num, by rw [HNX.out, HEQ.out]; exact HF12.out⟩
              case measure => simp [intOf]; omega
        · have tka : ((t2.k : Int) == 0) = false := by simp; exact hk2
          have HEQ : Hid (pS tk lk = t2) := by
            show _ = _
            rw [HFS.out, need_had hk2]
          clear hk2
          go_wp2
          go_quiet (fail)
          have HJQ := Lib.hid (HJ.out.drewN nq)
          have HC := Lib.hid (HJQ.out.copy)
          have hcc := HC.out.2
          have g0 := cell_of_row _ _ 0 _ _ _ hcc
          have g1 := cell_of_row _ _ 1 _ _ _ hcc
          simp only [pairC, List.getElem?_toArray, List.getElem?_cons_zero, List.getElem?_cons_succ] at g0 g1
          have HRX := Lib.hid (HC.out.1.keep ((Below.refl _ _).alloc (Nat.le_refl _) (.cells #[.int .i64 v1, .int .i64 v2] 50)))
          clear hcc
          go_wp2_with (first
            | ((with_reducible show wpList _ _ _ _ _ _); refine wpList_load_row rfl 43 (.tmp 9) rfl (X) rfl 43 (rdC t2) (0, 0) _ HJQ.out.x Tryz.underlying43 rfl (by rw [HSR.out]; rfl) ?_)
            | ((with_reducible show wpList _ _ _ _ _ _); refine wpList_store_row rfl 43 (.tmp 2) (.tmp 64) rfl (w.heap.size) (rdC t2) rfl rfl 43 (rdC tk) HJQ.out.g.rd (by rw [HSR.out]; rfl) rfl (one_rd _) ?_)
            | (at_builtin; refine wpList_append_own _ rfl _ _ 23 rfl (w.heap.size + 2) 50 i0 (.agg #[.int .i64 0, .int .i64 0]) 2 16 Tryz.underlying23 hi hz0 hz1 hz2 rfl (by decide) _ lk.length _ rfl HRX.out.own ⟨(W.drewN nq).heap.size, 0, none⟩ 1 1 [.int .i64 v1, .int .i64 v2] rfl rfl ?c1 ?c2 ?c3 ?c4 ?c5 ?_))
          case c1 =>
            intro j u hj
            have hrow := heap_alloc_new ((W.drewN nq).setRow w.heap.size (rdC t2)) (.cells #[.int .i64 v1, .int .i64 v2] 50)
            simp only [size_setRow] at hrow
            have e : (Addr.mk (W.drewN nq).heap.size 0 none).add j = ⟨(W.drewN nq).heap.size, j, none⟩ := by cases j <;> simp [Addr.add]
            rw [e, cell_of_row _ _ _ _ _ _ hrow, ← hj]
            simp
          case c2 => intro u hu; simp at hu; rcases hu with rfl | rfl <;> rfl
          case c3 => have := HLE.out; unfold maxLen; omega
          case c4 => have := HLE.out; omega
          case c5 => have := lt_of_block HRX.out.res; simp at this ⊢; omega
          intro v' w12 ho12 hg12 _
          have HF12 := Lib.hid (HRX.out.grown (x := ⟨v1, v2⟩) hg12 (lk.length + 1) (by simp) ho12)
          clear ho12 hg12 g0 g1
          have hkb := HLE.out.2
          have hk1 : IntKind.i64.wrap ((k : Int) + 1) = (k : Int) + 1 := IntWalk.i64_in _ (by omega)
          go_wp2
          go_roundw
          case rel => exact ⟨k + 1, by omega, by go_num, by rw [HNX.out, HEQ.out]; exact HF12.out⟩
          case measure => simp [intOf]; omega
      · have HST := Lib.hid (it_stay T k hk0 (N - k))
        rw [show k + (N - k) = N by omega] at HST
        have tkn : (((itP T k).1.k : Int) == 0) = false := by simp; exact hk0
        have HK := Lib.hid hk0
        have HPO : Hid (∀ e w', GPost (itP T k).1 (itP T k).2 w e w' → GPost (itP T N).1 (itP T N).2 w e w') := fun e w' h => by rw [HST.out]; exact h
        obtain ⟨tk, htk⟩ : ∃ x, (itP T k).1 = x := ⟨_, rfl⟩
        obtain ⟨lk, hlk⟩ : ∃ x, (itP T k).2 = x := ⟨_, rfl⟩
        rw [htk, hlk] at HF
        rw [htk] at tkn HK
        rw [htk, hlk] at HPO
        have hq3 := rd_k HF.out.rd
        clear hk0 htk hlk HST
        have HKK : Hid (((tk.k : Int) != 0) = true) := by show _ = _; have := HK.out; simp; exact this
        have htt := HKK.out
        have HFN := Lib.hid (setRow_heap _ _ _ (rdC tk) _ _ HF.out.res)
        go_wp2_with (first
          | ((with_reducible show wpList _ _ _ _ _ _); refine wpList_load_row rfl 43 (.tmp 2) rfl (w.heap.size) rfl 43 (rdC tk) (0, 0) _ HF.out.rd Tryz.underlying43 rfl (by rw [HSR.out]; rfl) ?_)
          | ((with_reducible show wpList _ _ _ _ _ _); refine wpList_store_row rfl 43 (.tmp 4) (.tmp 73) rfl (w.heap.size + 1) (rdC tk) rfl rfl 43 rd0 HF.out.res (by rw [HSR.out]; rfl) rfl (one_rd _) ?_))
        refine bodyPost_ret (v := .tuple #[.agg (rdC tk), .slice none 0 0]) (results_row_tmp (fn := Tryz.f14) (p := 4) (u := 5) (ty := 43) rfl _ _ (w.heap.size + 1) 43 _ (0, 0) _ rfl HFN.out Tryz.underlying43 rfl (by rw [HSR.out]; rfl)) rfl (HPO.out _ _ ⟨_, rfl, .inl ⟨HK.out, rfl⟩, below_set2 HF.out.below (by omega)⟩)
    · obtain rfl : k = N := by omega
      have hkn : ¬ (k : Int) < n := by have := HNN.out; omega
      by_cases hk0 : (itP T k).1.k = 0
      · have tkn : (((itP T k).1.k : Int) == 0) = true := by simp; exact hk0
        have HK := Lib.hid hk0
        obtain ⟨tk, htk⟩ : ∃ x, (itP T k).1 = x := ⟨_, rfl⟩
        obtain ⟨lk, hlk⟩ : ∃ x, (itP T k).2 = x := ⟨_, rfl⟩
        rw [htk, hlk] at HF
        rw [htk] at tkn HK
        have HPO : Hid (∀ e w', GPost tk lk w e w' → GPost (itP T k).1 (itP T k).2 w e w') := fun e w' h => by rw [htk, hlk]; exact h
        have hq3 := rd_k HF.out.rd
        clear hk0 htk hlk
        have HKK : Hid (((tk.k : Int) != 0) = false) := by show _ = _; have := HK.out; simp; exact this
        have htt := HKK.out
        have HFN := Lib.hid (setRow_heap _ _ _ (rdC tk) _ _ HF.out.res)
        go_wp2_with (first
          | ((with_reducible show wpList _ _ _ _ _ _); refine wpList_load_row rfl 43 (.tmp 2) rfl (w.heap.size) rfl 43 (rdC tk) (0, 0) _ HF.out.rd Tryz.underlying43 rfl (by rw [HSR.out]; rfl) ?_)
          | ((with_reducible show wpList _ _ _ _ _ _); refine wpList_store_row rfl 43 (.tmp 4) (.tmp 74) rfl (w.heap.size + 1) (rdC tk) rfl rfl 43 rd0 HF.out.res (by rw [HSR.out]; rfl) rfl (one_rd _) ?_))
        refine bodyPost_ret (v := .tuple #[.agg (rdC tk), u6]) (results_row_tmp (fn := Tryz.f14) (p := 4) (u := 5) (ty := 43) rfl _ _ (w.heap.size + 1) 43 _ (0, 0) _ rfl HFN.out Tryz.underlying43 rfl (by rw [HSR.out]; rfl)) rfl (HPO.out _ _ ⟨_, rfl, .inr ⟨HK.out, row_base (row_beside HF.out.own (just_row _ _ _) (own_no_reader HF.out.own HF.out.res)) (by omega)⟩, below_set2 HF.out.below (by omega)⟩)
      · have tkn : (((itP T k).1.k : Int) == 0) = false := by simp; exact hk0
        have HK := Lib.hid hk0
        obtain ⟨tk, htk⟩ : ∃ x, (itP T k).1 = x := ⟨_, rfl⟩
        obtain ⟨lk, hlk⟩ : ∃ x, (itP T k).2 = x := ⟨_, rfl⟩
        rw [htk, hlk] at HF
        rw [htk] at tkn HK
        have HPO : Hid (∀ e w', GPost tk lk w e w' → GPost (itP T k).1 (itP T k).2 w e w') := fun e w' h => by rw [htk, hlk]; exact h
        have hq3 := rd_k HF.out.rd
        clear hk0 htk hlk
        have HKK : Hid (((tk.k : Int) != 0) = true) := by show _ = _; have := HK.out; simp; exact this
        have htt := HKK.out
        have HFN := Lib.hid (setRow_heap _ _ _ (rdC tk) _ _ HF.out.res)
        go_wp2_with (first
          | ((with_reducible show wpList _ _ _ _ _ _); refine wpList_load_row rfl 43 (.tmp 2) rfl (w.heap.size) rfl 43 (rdC tk) (0, 0) _ HF.out.rd Tryz.underlying43 rfl (by rw [HSR.out]; rfl) ?_)
          | ((with_reducible show wpList _ _ _ _ _ _); refine wpList_store_row rfl 43 (.tmp 4) (.tmp 73) rfl (w.heap.size + 1) (rdC tk) rfl rfl 43 rd0 HF.out.res (by rw [HSR.out]; rfl) rfl (one_rd _) ?_))
        refine bodyPost_ret (v := .tuple #[.agg (rdC tk), .slice none 0 0]) (results_row_tmp (fn := Tryz.f14) (p := 4) (u := 5) (ty := 43) rfl _ _ (w.heap.size + 1) 43 _ (0, 0) _ rfl HFN.out Tryz.underlying43 rfl (by rw [HSR.out]; rfl)) rfl (HPO.out _ _ ⟨_, rfl, .inl ⟨HK.out, rfl⟩, below_set2 HF.out.below (by omega)⟩)
end Go.Proofs.YtplllmfbpliciaaGreatDoor.Pai
