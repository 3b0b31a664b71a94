
/- A partition of the program's and the document's, side by side: one call of both. Condition: at most a thousand cells. -/

import Derived.Test.YtkjoobdaalajkaaPtD

import Derived.Deep.CutBlock

namespace Go.Proofs.Ytkjoobdaalajkaa.Pt

open Go.RowKit Go.PlainAid Go.Proofs.Ytkjoobdaalajkaa.Args Go.Proofs.Ytkjoobdaalajkaa.Cel

open Go.Proofs.Ytkjoobdaalajkaa.Mod (askN startN setM setS actN actM actS size_ch)

set_option linter.unusedVariables false

set_option linter.unusedSimpArgs false

/-- Numbers that stay small. -/
def Bd (m st wr : Int) (j : Nat) : Prop := (0 ≤ m ∧ m ≤ 3) ∧ (0 ≤ st ∧ st ≤ j) ∧ 0 ≤ wr ∧ wr ≤ j
theorem setM_in {m want : Int} (h : 0 ≤ m ∧ m ≤ 3) : 0 ≤ setM m want ∧ setM m want ≤ 3 := by
  unfold setM
  by_cases h0 : askN m want = 0
  · rw [if_pos h0]
    unfold askN at h0
    by_cases h1 : want < 0 ∨ 3 < want
    · rw [if_pos h1] at h0; omega
    · omega
  · rw [if_neg h0]; exact h
theorem actM_in {m act : Int} (h : 0 ≤ m ∧ m ≤ 3) : 0 ≤ actM m act ∧ actM m act ≤ 3 := by
  unfold actM
  split
  · exact h
  · split
    · omega
    · split <;> omega
theorem goN_in {how st : Int} {j : Nat} (h : 0 ≤ st ∧ st ≤ j) : 0 ≤ goN how st ∧ goN how st ≤ ((j + 1 : Nat) : Int) := by unfold goN; split <;> omega
theorem goW_in {how wr : Int} {j : Nat} (h : 0 ≤ wr ∧ wr ≤ j) : 0 ≤ goW how wr ∧ goW how wr ≤ ((j + 1 : Nat) : Int) := by unfold goW; split <;> omega
theorem wW_in {m : Int} {n : Nat} {i wr : Int} {j : Nat} (h : 0 ≤ wr ∧ wr ≤ j) : 0 ≤ wW m n i wr ∧ wW m n i wr ≤ ((j + 1 : Nat) : Int) := by
  unfold wW
  split
  · omega
  · have := setW_in n i wr; omega
theorem Bd.more {m st wr : Int} {j : Nat} (h : Bd m st wr j) : Bd m st wr (j + 1) := ⟨h.1, ⟨h.2.1.1, by have := h.2.1.2; omega⟩, h.2.2.1, by have := h.2.2.2; omega⟩
theorem set_idle (want : Int) : setM 0 want = 0 ∧ setS 0 want = 0 := by
  have h : askN 0 want ≠ 0 := by unfold askN; by_cases h1 : want < 0 ∨ 3 < want
                                 · rw [if_pos h1]; omega
                                 · rw [if_neg h1, if_pos (by omega)]; omega
  exact setM_no h
theorem act_idle (act : Int) : actM 0 act = 0 ∧ actS 0 act = 0 := by unfold actM actS; rw [if_pos (by omega), if_pos (by omega)]; exact ⟨rfl, rfl⟩
/-- What one call of both leads to: they answer alike. -/
def OneP (s : PK) (a : Option Addr) (cap lo hi : Nat) (d : PD) (N : Option Addr) (m st ca : Int) (ns : List Nat) (wr m2 st2 ca2 : Int) (ns2 : List Nat) (wr2 : Int) (j : Nat) (w : World) (e : Ending) (w' : World) : Prop :=
  ∃ (m' st' ca' : Int) (ns' : List Nat) (wr' : Int) (m3 st3 ca3 : Int) (ns3 : List Nat) (wr3 : Int) (b : Bool) (N' : Option Addr) (nc : Nat), e = .returned (.tuple #[.agg #[.int .i64 s.id, .string s.nm, .bool s.may, .slice a s.n cap, .int .i64 m3, .int .i64 st3, .int .i64 ca3, .slice a s.n cap, .slice N' s.n nc, .int .i64 wr3], .bool b]) ∧ IsP w' lo hi d s m' st' ca' ns' wr' ∧ NumsAt w' N' ns3 ∧ ns3.length = s.n ∧ (ns3 ≠ [] → ∀ y, N' = some y → hi ≤ y.block) ∧ (ns3 ≠ [] → ns2 ≠ []) ∧ (∀ y, N' = some y → w.heap.size ≤ y.block ∨ N = some y) ∧ Rng lo hi w w' ∧ Bd m' st' wr' (j + 1) ∧ Bd m3 st3 wr3 (j + 1) ∧ (m = 0 → m' = 0 ∧ st' = st ∧ ca' = ca ∧ ns' = ns) ∧ (m = m2 → st = st2 → ca = ca2 → ns = ns2 → wr = wr2 → b = true ∧ m' = m3 ∧ st' = st3 ∧ ca' = ca3 ∧ ns' = ns3 ∧ wr' = wr3)
theorem wL_len {m : Int} {n : Nat} {i : Int} {v : Nat} {ns : List Nat} : (wL m n i v ns).length = ns.length := by
  unfold wL setN; split; rfl; split; exact List.length_set; rfl
theorem goL_len {how : Int} {fs : List C2} {ns : List Nat} (h : fs.length = ns.length) : (goL how fs ns).length = ns.length := by
  unfold goL; split; exact startL_len _ _ _ h; split; exact startL_len _ _ _ h; rfl
theorem wL_ne {m : Int} {n : Nat} {i : Int} {v : Nat} {ns : List Nat} (h : wL m n i v ns ≠ []) : ns ≠ [] := by
  unfold wL at h
  by_cases h0 : m = 0
  · rw [if_pos h0] at h; exact h
  · rw [if_neg h0] at h; exact setN_ne h
theorem rp_apart {hi : Nat} {w : World} {N N' : Option Addr} {ns ns' : List Nat} (h1 : ns ≠ [] → ∀ y, N = some y → hi ≤ y.block) (h2 : ns' ≠ [] → ns ≠ []) (h3 : ∀ y, N' = some y → w.heap.size ≤ y.block ∨ N = some y) (h4 : hi ≤ w.heap.size) : ns' ≠ [] → ∀ y, N' = some y → hi ≤ y.block := by
  intro hne y hy
  rcases h3 y hy with h | h
  · omega
  · exact h1 (h2 hne) y h
theorem nums_rng {lo hi : Nat} {w w' : World} {N : Option Addr} {ns : List Nat} (h : NumsAt w N ns) (t : Rng lo hi w w') (hN : ns ≠ [] → ∀ y, N = some y → hi ≤ y.block) : NumsAt w' N ns := by
  intro i v hv
  have hne : ns ≠ [] := fun e => by rw [e] at hv; simp at hv
  obtain ⟨y, hy, hc⟩ := h i v hv
  have hyb : (y.add i).block = y.block := by cases i <;> rfl
  refine ⟨y, hy, (World.cell?_of_block ?_).trans hc⟩
  exact t.block _ (Go.block_lt_of_cell hc) (.inr (by rw [hyb]; exact hN hne y hy))
theorem one_end {w w4 : World} {lo hi : Nat} {d : PD} {s : PK} {m st ca : Int} {ns ns2 : List Nat} {wr : Int} {N : Option Addr} (R : Nat) (cs : Array Value) (r : Rng lo hi w w4) (hp : IsP w4 lo hi d s m st ca ns wr) (hn : NumsAt w4 N ns2) (hR : ns2 ≠ [] → ∀ y, N = some y → y.block ≠ R) (h1 : hi ≤ R) (h2 : w.heap.size ≤ R) :
    IsP (w4.setRow R cs) lo hi d s m st ca ns wr ∧ NumsAt (w4.setRow R cs) N ns2 ∧ Rng lo hi w (w4.setRow R cs) := by
  refine ⟨hp.apart (lo' := R) (hi' := R + 1) ⟨rfl, rfl, rfl, by simp, fun k _ h => setRow_other _ _ _ _ (by omega)⟩ (.inl h1), nums_row hn _ _ hR, ?_⟩
  exact ⟨r.os, r.tape, r.output, by simp [World.setRow]; exact r.size, fun k hk h => (setRow_other _ _ _ _ (by omega)).trans (r.block k hk h)⟩
section
attribute [-go_sem] storeVar loadVar
set_option maxRecDepth 8000 in
set_option maxHeartbeats 6400000 in
theorem one_any {s : PK} {a : Option Addr} {cap lo hi : Nat} {d : PD} {N : Option Addr} {nc : Nat} {m st ca : Int} {ns : List Nat} {wr m2 st2 ca2 : Int} {ns2 : List Nat} {wr2 : Int} {j : Nat} (w : World) (h : IsP w lo hi d s m st ca ns wr) (hx : NumsAt w N ns2) (hl2 : ns2.length = s.n) (hn : s.n ≤ 1000) (hN : ns2 ≠ [] → ∀ y, N = some y → hi ≤ y.block) (hf : CellsAt w a s.fs) (hb : Bd m st wr j) (hb2 : Bd m2 st2 wr2 j) (hj : j ≤ 1000) (k i : Int) (v : Nat) :
    Calls Try.prog 12 #[.pointer (some ⟨d.g, 0, none⟩), .agg #[.int .i64 s.id, .string s.nm, .bool s.may, .slice a s.n cap, .int .i64 m2, .int .i64 st2, .int .i64 ca2, .slice a s.n cap, .slice N s.n nc, .int .i64 wr2], .agg #[.int .i64 k, .int .i64 i, .int .u32 (v : Int)]] w (OneP s a cap lo hi d N m st ca ns wr m2 st2 ca2 ns2 wr2 j w) := by
  obtain ⟨W0, hW0⟩ : ∃ W, ((w.alloc (.cells #[.int .i64 s.id, .string s.nm, .bool s.may, .slice a s.n cap, .int .i64 m2, .int .i64 st2, .int .i64 ca2, .slice a s.n cap, .slice N s.n nc, .int .i64 wr2] 33)).alloc (.cells #[.int .i64 k, .int .i64 i, .int .u32 (v : Int)] 37)).alloc (.cells #[.int .i64 0, .string ⟨#[]⟩, .bool false, .slice none 0 0, .int .i64 0, .int .i64 0, .int .i64 0, .slice none 0 0, .slice none 0 0, .int .i64 0] 33) = W := ⟨_, rfl⟩
  have hb0 : Below w.heap.size w W0 := by rw [← hW0]; exact (((Below.refl _ _).alloc (Nat.le_refl _) _).alloc (by simp) _).alloc (by simp; omega) _
  have hs0 : W0.heap.size = w.heap.size + 3 := by rw [← hW0]; simp
  have hx0 : W0.heap[w.heap.size]? = some (.cells #[.int .i64 s.id, .string s.nm, .bool s.may, .slice a s.n cap, .int .i64 m2, .int .i64 st2, .int .i64 ca2, .slice a s.n cap, .slice N s.n nc, .int .i64 wr2] 33 (0, 0)) := by
    rw [← hW0, heap_alloc_old _ _ (by simp; omega), heap_alloc_old _ _ (by simp)]; exact heap_alloc_new _ _
  have hq0 : W0.heap[w.heap.size + 1]? = some (.cells #[.int .i64 k, .int .i64 i, .int .u32 (v : Int)] 37 (0, 0)) := by
    rw [← hW0, heap_alloc_old _ _ (by simp)]
    have := heap_alloc_new (w.alloc (.cells #[.int .i64 s.id, .string s.nm, .bool s.may, .slice a s.n cap, .int .i64 m2, .int .i64 st2, .int .i64 ca2, .slice a s.n cap, .slice N s.n nc, .int .i64 wr2] 33)) (.cells #[.int .i64 k, .int .i64 i, .int .u32 (v : Int)] 37)
    simpa using this
  have hr0 : W0.heap[w.heap.size + 2]? = some (.cells #[.int .i64 0, .string ⟨#[]⟩, .bool false, .slice none 0 0, .int .i64 0, .int .i64 0, .int .i64 0, .slice none 0 0, .slice none 0 0, .int .i64 0] 33 (0, 0)) := by
    rw [← hW0]
    have := heap_alloc_new ((w.alloc (.cells #[.int .i64 s.id, .string s.nm, .bool s.may, .slice a s.n cap, .int .i64 m2, .int .i64 st2, .int .i64 ca2, .slice a s.n cap, .slice N s.n nc, .int .i64 wr2] 33)).alloc (.cells #[.int .i64 k, .int .i64 i, .int .u32 (v : Int)] 37)) (.cells #[.int .i64 0, .string ⟨#[]⟩, .bool false, .slice none 0 0, .int .i64 0, .int .i64 0, .int .i64 0, .slice none 0 0, .slice none 0 0, .int .i64 0] 33)
    simpa using this
  have hp0 := h.keep hb0
  have HNL := Lib.hid hl2
  have HNP := Lib.hid h.ic.nlen
  have HB2D := Lib.hid hb2
  have HFL := Lib.hid h.ic.flen
  have HS : Hid (hi ≤ w.heap.size) := h.hs
  have HW0 := Lib.hid hW0
  have HB0 := Lib.hid hb0
  have HS0 := Lib.hid hs0
  have HX0 := Lib.hid hx0
  have HQ0 := Lib.hid hq0
  have HR0 := Lib.hid hr0
  have HP0 := Lib.hid hp0
  have HNU := Lib.hid (hx.kept hb0)
  have HNW := Lib.hid hx
  have HCE := Lib.hid (hf.kept hb0)
  have HN : Hid (s.n ≤ 1000) := hn
  have HNN := Lib.hid hN
  have HBD := Lib.hid hb
  have HJ : Hid (j ≤ 1000) := hj
  obtain ⟨X, hX⟩ : ∃ X, w.heap.size = X := ⟨_, rfl⟩
  have HXX := Lib.hid hX
  rw [hX] at hq0 HX0 HQ0 HR0 HS0 HS
  have q0 : Sem.run Try.prog (loadVar 3 ⟨X + 1, 0, none⟩) W0 = .ok (.int .i64 k) W0 := by simp [go_sem, loadVar, cell_of_row _ _ 0 _ _ _ hq0]
  have q1 : Sem.run Try.prog (loadVar 3 ⟨X + 1, 1, none⟩) W0 = .ok (.int .i64 i) W0 := by simp [go_sem, loadVar, cell_of_row _ _ 1 _ _ _ hq0]
  clear hW0 hb0 hs0 hx0 hq0 hr0 hp0 h hx hl2 hb2 hn hN hf hb hj hX
  have q2 : Sem.run Try.prog (loadVar 35 ⟨X + 1, 2, none⟩) W0 = .ok (.int .u32 (v : Int)) W0 := by simp [go_sem, loadVar, cell_of_row _ _ 2 _ _ _ HQ0.out]
  by_cases hk1 : k = 1
  · subst hk1
    have HRC := Lib.hid (rsetmode_any (s := s) (a := a) (cap := cap) (N := N) (nc := nc) (m := m2) (st := st2) (ca := ca2) (ns := ns2) (wr := wr2) W0 HNU.out HNL.out HN.out HFL.out HCE.out ⟨HB2D.out.2.1.1, by have := HB2D.out.2.1.2; have := HJ.out; omega⟩ i)
    go_enter Try.func12, Try.ntmps12
    go_upto_region 1 with fail
    rw [HW0.out, HXX.out]
    go_wp2_with ((with_reducible show wpList _ _ _ _ _ _); refine wpList_load_row rfl 33 (.tmp 4) rfl X rfl 33 _ (0, 0) _ HX0.out Try.underlying33 rfl (by rw [size_rp]; rfl) ?_)
    refine HRC.out.mono ?_
    rintro e w2 ⟨N', nc', rfl, hn2, hN2, hb2⟩
    have hsA : Sem.run Try.prog (storeVar 33 ⟨w2.heap.size, 0, none⟩ (.agg #[.int .i64 s.id, .string s.nm, .bool s.may, .slice a s.n cap, .int .i64 (setM m2 i), .int .i64 (goN (setS m2 i) st2), .int .i64 (goC (setS m2 i) 1 ca2), .slice a s.n cap, .slice N' s.n nc', .int .i64 (goW (setS m2 i) wr2)])) (w2.alloc (.cells #[.int .i64 0, .string ⟨#[]⟩, .bool false, .slice none 0 0, .int .i64 0, .int .i64 0, .int .i64 0, .slice none 0 0, .slice none 0 0, .int .i64 0] 33)) = .ok () (w2.alloc (.cells #[.int .i64 s.id, .string s.nm, .bool s.may, .slice a s.n cap, .int .i64 (setM m2 i), .int .i64 (goN (setS m2 i) st2), .int .i64 (goC (setS m2 i) 1 ca2), .slice a s.n cap, .slice N' s.n nc', .int .i64 (goW (setS m2 i) wr2)] 33)) := run_storeVar_new w2 _ #[.int .i64 0, .string ⟨#[]⟩, .bool false, .slice none 0 0, .int .i64 0, .int .i64 0, .int .i64 0, .slice none 0 0, .slice none 0 0, .int .i64 0] _ size_rp rfl (one_rp _ _ _ _ _ _ _ _ _ _ _ _ _ _ _)
    have hb3 : Below w2.heap.size w2 (w2.alloc (.cells #[.int .i64 s.id, .string s.nm, .bool s.may, .slice a s.n cap, .int .i64 (setM m2 i), .int .i64 (goN (setS m2 i) st2), .int .i64 (goC (setS m2 i) 1 ca2), .slice a s.n cap, .slice N' s.n nc', .int .i64 (goW (setS m2 i) wr2)] 33)) := (Below.refl _ _).alloc (Nat.le_refl _) _
    have hz3 := heap_alloc_new w2 (.cells #[.int .i64 s.id, .string s.nm, .bool s.may, .slice a s.n cap, .int .i64 (setM m2 i), .int .i64 (goN (setS m2 i) st2), .int .i64 (goC (setS m2 i) 1 ca2), .slice a s.n cap, .slice N' s.n nc', .int .i64 (goW (setS m2 i) wr2)] 33)
    have hq3 := (hb3.block _ (lt_of_block ((hb2.block _ (lt_of_block HQ0.out)).trans HQ0.out))).trans ((hb2.block _ (lt_of_block HQ0.out)).trans HQ0.out)
    have hr3 := (hb3.block _ (lt_of_block ((hb2.block _ (lt_of_block HR0.out)).trans HR0.out))).trans ((hb2.block _ (lt_of_block HR0.out)).trans HR0.out)
    have hp3 := (HP0.out.keep hb2).keep hb3
    have hn3 := hn2.kept hb3
    have hrg : Rng lo hi w (w2.alloc (.cells #[.int .i64 s.id, .string s.nm, .bool s.may, .slice a s.n cap, .int .i64 (setM m2 i), .int .i64 (goN (setS m2 i) st2), .int .i64 (goC (setS m2 i) 1 ca2), .slice a s.n cap, .slice N' s.n nc', .int .i64 (goW (setS m2 i) wr2)] 33)) := ((rng_below HB0.out).trans (rng_below hb2)).trans (rng_below hb3)
    have HM : Hid (∀ y, N' = some y → W0.heap.size ≤ y.block ∨ N = some y) := hN2
    have hZ : X + 3 ≤ w2.heap.size := by have := hb2.size; have := HS0.out; omega
    go_upto_region 4 with fail
    obtain ⟨w3, hw3⟩ : ∃ W, w2.alloc (.cells #[.int .i64 s.id, .string s.nm, .bool s.may, .slice a s.n cap, .int .i64 (setM m2 i), .int .i64 (goN (setS m2 i) st2), .int .i64 (goC (setS m2 i) 1 ca2), .slice a s.n cap, .slice N' s.n nc', .int .i64 (goW (setS m2 i) wr2)] 33) = W := ⟨_, rfl⟩
    obtain ⟨Y, hY⟩ : ∃ Y, w2.heap.size = Y := ⟨_, rfl⟩
    rw [hw3] at hz3 hq3 hr3 hp3 hn3 hrg
    rw [hY] at hz3 hZ
    rw [hw3, hY]
    have HZ3 := Lib.hid hz3
    have HQ3 := Lib.hid hq3
    have HR3 := Lib.hid hr3
    have HP3 := Lib.hid hp3
    have HN3 := Lib.hid hn3
    have HRG := Lib.hid hrg
    have HYX : Hid (X + 3 ≤ Y) := hZ
    have l0 : Sem.run Try.prog (loadVar 33 ⟨Y, 0, none⟩) w3.drew = .ok (.agg #[.int .i64 s.id, .string s.nm, .bool s.may, .slice a s.n cap, .int .i64 (setM m2 i), .int .i64 (goN (setS m2 i) st2), .int .i64 (goC (setS m2 i) 1 ca2), .slice a s.n cap, .slice N' s.n nc', .int .i64 (goW (setS m2 i) wr2)]) w3.drew := run_loadVar_row w3.drew Y _ _ _ (0, 0) _ HZ3.out Try.underlying33 rfl size_rp
    have l1 : Sem.run Try.prog (loadVar 3 ⟨X + 1, 1, none⟩) w3.drew = .ok (.int .i64 i) w3.drew := by simp [go_sem, loadVar, cell_of_row w3.drew _ 1 _ _ _ HQ3.out]
    have l2 : Sem.run Try.prog (loadVar 35 ⟨X + 1, 2, none⟩) w3.drew = .ok (.int .u32 (v : Int)) w3.drew := by simp [go_sem, loadVar, cell_of_row w3.drew _ 2 _ _ _ HQ3.out]
    have HPC := Lib.hid (fun (W : World) (h : IsP W lo hi d s m st ca ns wr) => setmode_any h HN.out ⟨HBD.out.2.1.1, by have := HBD.out.2.1.2; have := HJ.out; omega⟩ i)
    obtain ⟨kk, hkk⟩ : ∃ x, askN m i = x := ⟨_, rfl⟩
    obtain ⟨ll, hll⟩ : ∃ x, askN m2 i = x := ⟨_, rfl⟩
    rw [hkk] at HPC
    rw [hll]
    have HLL : Hid (m = m2 → kk = ll) := fun h => by rw [← hkk, ← hll, h]
    clear hkk hll
    clear hsA hb3 hz3 hq3 hr3 hp3 hn3 hrg hN2 hZ hw3 hY hn2 hb2 HRC q0 q1 q2
    go_region_held3 (fun wx => Sem.run Try.prog (loadVar 33 ⟨Y, 0, none⟩) wx = .ok (.agg #[.int .i64 s.id, .string s.nm, .bool s.may, .slice a s.n cap, .int .i64 (setM m2 i), .int .i64 (goN (setS m2 i) st2), .int .i64 (goC (setS m2 i) 1 ca2), .slice a s.n cap, .slice N' s.n nc', .int .i64 (goW (setS m2 i) wr2)]) wx ∧ Sem.run Try.prog (loadVar 3 ⟨X + 1, 1, none⟩) wx = .ok (.int .i64 i) wx ∧ Sem.run Try.prog (loadVar 35 ⟨X + 1, 2, none⟩) wx = .ok (.int .u32 (v : Int)) wx)
      (first | exact HKS.out | exact HKP.out | (refine ⟨?_, ?_, ?_⟩ <;> assumption) | (go_keep; done))
      (first
        | (go_at_call 23; refine (HPC.out _ (HP3.out.drewN 1)).mono ?_; rintro e w4 ⟨rfl, hp4, hr4⟩; have hz4 : w4.heap[Y]? = some (.cells #[.int .i64 s.id, .string s.nm, .bool s.may, .slice a s.n cap, .int .i64 (setM m2 i), .int .i64 (goN (setS m2 i) st2), .int .i64 (goC (setS m2 i) 1 ca2), .slice a s.n cap, .slice N' s.n nc', .int .i64 (goW (setS m2 i) wr2)] 33 (0, 0)) := (hr4.block Y (lt_of_block HZ3.out) (.inr (by have := HS.out; have := HYX.out; omega))).trans HZ3.out; have hq4 : w4.heap[X + 1]? = some (.cells #[.int .i64 1, .int .i64 i, .int .u32 (v : Int)] 37 (0, 0)) := (hr4.block (X + 1) (lt_of_block HQ3.out) (.inr (by have := HS.out; omega))).trans HQ3.out; have hr5 : w4.heap[X + 2]? = some (.cells #[.int .i64 0, .string ⟨#[]⟩, .bool false, .slice none 0 0, .int .i64 0, .int .i64 0, .int .i64 0, .slice none 0 0, .slice none 0 0, .int .i64 0] 33 (0, 0)) := (hr4.block (X + 2) (lt_of_block HR3.out) (.inr (by have := HS.out; omega))).trans HR3.out; have hst : Sem.run Try.prog (storeVar 33 ⟨X + 2, 0, none⟩ (.agg #[.int .i64 s.id, .string s.nm, .bool s.may, .slice a s.n cap, .int .i64 (setM m2 i), .int .i64 (goN (setS m2 i) st2), .int .i64 (goC (setS m2 i) 1 ca2), .slice a s.n cap, .slice N' s.n nc', .int .i64 (goW (setS m2 i) wr2)])) w4 = .ok () (w4.setRow (X + 2) #[.int .i64 s.id, .string s.nm, .bool s.may, .slice a s.n cap, .int .i64 (setM m2 i), .int .i64 (goN (setS m2 i) st2), .int .i64 (goC (setS m2 i) 1 ca2), .slice a s.n cap, .slice N' s.n nc', .int .i64 (goW (setS m2 i) wr2)]) := run_storeVar_row w4 (X + 2) _ _ #[.int .i64 0, .string ⟨#[]⟩, .bool false, .slice none 0 0, .int .i64 0, .int .i64 0, .int .i64 0, .slice none 0 0, .slice none 0 0, .int .i64 0] _ hr5 size_rp rfl (one_rp _ _ _ _ _ _ _ _ _ _ _ _ _ _ _); have HKP : Hid (Sem.run Try.prog (loadVar 33 ⟨Y, 0, none⟩) w4 = .ok (.agg #[.int .i64 s.id, .string s.nm, .bool s.may, .slice a s.n cap, .int .i64 (setM m2 i), .int .i64 (goN (setS m2 i) st2), .int .i64 (goC (setS m2 i) 1 ca2), .slice a s.n cap, .slice N' s.n nc', .int .i64 (goW (setS m2 i) wr2)]) w4 ∧ Sem.run Try.prog (loadVar 3 ⟨X + 1, 1, none⟩) w4 = .ok (.int .i64 i) w4 ∧ Sem.run Try.prog (loadVar 35 ⟨X + 1, 2, none⟩) w4 = .ok (.int .u32 (v : Int)) w4) := ⟨run_loadVar_row w4 Y _ _ _ (0, 0) _ hz4 Try.underlying33 rfl size_rp, by simp [go_sem, loadVar, cell_of_row w4 _ 1 _ _ _ hq4], by simp [go_sem, loadVar, cell_of_row w4 _ 2 _ _ _ hq4]⟩; have hz6 : (w4.setRow (X + 2) #[.int .i64 s.id, .string s.nm, .bool s.may, .slice a s.n cap, .int .i64 (setM m2 i), .int .i64 (goN (setS m2 i) st2), .int .i64 (goC (setS m2 i) 1 ca2), .slice a s.n cap, .slice N' s.n nc', .int .i64 (goW (setS m2 i) wr2)]).heap[Y]? = some (.cells #[.int .i64 s.id, .string s.nm, .bool s.may, .slice a s.n cap, .int .i64 (setM m2 i), .int .i64 (goN (setS m2 i) st2), .int .i64 (goC (setS m2 i) 1 ca2), .slice a s.n cap, .slice N' s.n nc', .int .i64 (goW (setS m2 i) wr2)] 33 (0, 0)) := (setRow_other _ _ _ _ (by have := HYX.out; omega)).trans hz4; have hq6 : (w4.setRow (X + 2) #[.int .i64 s.id, .string s.nm, .bool s.may, .slice a s.n cap, .int .i64 (setM m2 i), .int .i64 (goN (setS m2 i) st2), .int .i64 (goC (setS m2 i) 1 ca2), .slice a s.n cap, .slice N' s.n nc', .int .i64 (goW (setS m2 i) wr2)]).heap[X + 1]? = some (.cells #[.int .i64 1, .int .i64 i, .int .u32 (v : Int)] 37 (0, 0)) := (setRow_other _ _ _ _ (by omega)).trans hq4; have HKS : Hid (Sem.run Try.prog (loadVar 33 ⟨Y, 0, none⟩) (w4.setRow (X + 2) #[.int .i64 s.id, .string s.nm, .bool s.may, .slice a s.n cap, .int .i64 (setM m2 i), .int .i64 (goN (setS m2 i) st2), .int .i64 (goC (setS m2 i) 1 ca2), .slice a s.n cap, .slice N' s.n nc', .int .i64 (goW (setS m2 i) wr2)]) = .ok (.agg #[.int .i64 s.id, .string s.nm, .bool s.may, .slice a s.n cap, .int .i64 (setM m2 i), .int .i64 (goN (setS m2 i) st2), .int .i64 (goC (setS m2 i) 1 ca2), .slice a s.n cap, .slice N' s.n nc', .int .i64 (goW (setS m2 i) wr2)]) (w4.setRow (X + 2) #[.int .i64 s.id, .string s.nm, .bool s.may, .slice a s.n cap, .int .i64 (setM m2 i), .int .i64 (goN (setS m2 i) st2), .int .i64 (goC (setS m2 i) 1 ca2), .slice a s.n cap, .slice N' s.n nc', .int .i64 (goW (setS m2 i) wr2)]) ∧ Sem.run Try.prog (loadVar 3 ⟨X + 1, 1, none⟩) (w4.setRow (X + 2) #[.int .i64 s.id, .string s.nm, .bool s.may, .slice a s.n cap, .int .i64 (setM m2 i), .int .i64 (goN (setS m2 i) st2), .int .i64 (goC (setS m2 i) 1 ca2), .slice a s.n cap, .slice N' s.n nc', .int .i64 (goW (setS m2 i) wr2)]) = .ok (.int .i64 i) (w4.setRow (X + 2) #[.int .i64 s.id, .string s.nm, .bool s.may, .slice a s.n cap, .int .i64 (setM m2 i), .int .i64 (goN (setS m2 i) st2), .int .i64 (goC (setS m2 i) 1 ca2), .slice a s.n cap, .slice N' s.n nc', .int .i64 (goW (setS m2 i) wr2)]) ∧ Sem.run Try.prog (loadVar 35 ⟨X + 1, 2, none⟩) (w4.setRow (X + 2) #[.int .i64 s.id, .string s.nm, .bool s.may, .slice a s.n cap, .int .i64 (setM m2 i), .int .i64 (goN (setS m2 i) st2), .int .i64 (goC (setS m2 i) 1 ca2), .slice a s.n cap, .slice N' s.n nc', .int .i64 (goW (setS m2 i) wr2)]) = .ok (.int .u32 (v : Int)) (w4.setRow (X + 2) #[.int .i64 s.id, .string s.nm, .bool s.may, .slice a s.n cap, .int .i64 (setM m2 i), .int .i64 (goN (setS m2 i) st2), .int .i64 (goC (setS m2 i) 1 ca2), .slice a s.n cap, .slice N' s.n nc', .int .i64 (goW (setS m2 i) wr2)])) := ⟨run_loadVar_row (w4.setRow (X + 2) #[.int .i64 s.id, .string s.nm, .bool s.may, .slice a s.n cap, .int .i64 (setM m2 i), .int .i64 (goN (setS m2 i) st2), .int .i64 (goC (setS m2 i) 1 ca2), .slice a s.n cap, .slice N' s.n nc', .int .i64 (goW (setS m2 i) wr2)]) Y _ _ _ (0, 0) _ hz6 Try.underlying33 rfl size_rp, by simp [go_sem, loadVar, cell_of_row _ _ 1 _ _ _ hq6], by simp [go_sem, loadVar, cell_of_row _ _ 2 _ _ _ hq6]⟩; have HP4 := Lib.hid hp4; have HR4 := Lib.hid hr4; have HR5 := Lib.hid hr5; clear hz4 hq4 hz6 hq6 hp4 hr4 hr5))
    all_goals
      go_wp2
      have hrg4 : Rng lo hi w w4 := (HRG.out.trans (show Rng lo hi w3 (w3.drewN 1) from ⟨rfl, rfl, rfl, Nat.le_refl _, fun _ _ _ => rfl⟩)).trans HR4.out
      have hRr : (goL (setS m2 i) s.fs ns2) ≠ [] → ∀ y, N' = some y → hi ≤ y.block := rp_apart HNN.out (goL_ne) HM.out HP0.out.hs
      have hn4 : NumsAt w4 N' (goL (setS m2 i) s.fs ns2) := nums_rng (w := w3.drewN 1) HN3.out HR4.out hRr
      have hRR : (goL (setS m2 i) s.fs ns2) ≠ [] → ∀ y, N' = some y → y.block ≠ X + 2 := fun hq y hy => by
        have h1 := HS0.out
        rcases HM.out y hy with h | h
        · omega
        · have := NumsAt.lt HNW.out (goL_ne hq) y h; have := HXX.out; omega
      obtain ⟨f1, f2, f3⟩ := one_end (X + 2) #[.int .i64 s.id, .string s.nm, .bool s.may, .slice a s.n cap, .int .i64 (setM m2 i), .int .i64 (goN (setS m2 i) st2), .int .i64 (goC (setS m2 i) 1 ca2), .slice a s.n cap, .slice N' s.n nc', .int .i64 (goW (setS m2 i) wr2)] hrg4 HP4.out hn4 hRR (by have := HS.out; omega) (by have := HXX.out; omega)
      refine bodyPost_ret (v := .tuple #[.agg #[.int .i64 s.id, .string s.nm, .bool s.may, .slice a s.n cap, .int .i64 (setM m2 i), .int .i64 (goN (setS m2 i) st2), .int .i64 (goC (setS m2 i) 1 ca2), .slice a s.n cap, .slice N' s.n nc', .int .i64 (goW (setS m2 i) wr2)], .bool (kk == ll)]) (results_row_tmpC Try.results12 _ _ (X + 2) 33 _ (0, 0) _ rfl (setRow_heap _ _ _ _ _ _ HR5.out) Try.underlying33 rfl size_rp) rfl ⟨(setM m i), (goN (setS m i) st), (goC (setS m i) 1 ca), goL (setS m i) s.fs ns, (goW (setS m i) wr), (setM m2 i), (goN (setS m2 i) st2), (goC (setS m2 i) 1 ca2), goL (setS m2 i) s.fs ns2, (goW (setS m2 i) wr2), kk == ll, N', nc', rfl, f1, f2, by rw [goL_len (by rw [HFL.out, HNL.out])]; exact HNL.out, hRr, goL_ne, (fun y hy => (HM.out y hy).imp (fun h => by have h1 := HS0.out; have h2 := HXX.out; omega) id), f3, ⟨setM_in HBD.out.1, goN_in HBD.out.2.1, goW_in HBD.out.2.2⟩, ⟨setM_in HB2D.out.1, goN_in HB2D.out.2.1, goW_in HB2D.out.2.2⟩, fun h0 => by rw [h0, (set_idle i).1, (set_idle i).2]; exact ⟨rfl, rfl, rfl, rfl⟩, fun h1 h2 h3 h4 h5 => by
        have hl := HLL.out h1
        subst h1 h2 h3 h4 h5
        refine ⟨?_, rfl, rfl, rfl, rfl, rfl⟩
        rw [hl]; exact beq_self_eq_true _⟩
  · have t1 : (k == 1) = false := by simp [hk1]
    by_cases hk2 : k = 2
    · subst hk2
      have HCK := Lib.hid (rcell_any (s := s) (a := a) (cap := cap) (N := N) (nc := nc) (m := m2) (st := st2) (ca := ca2) (wr := wr2) W0 HNU.out HNL.out HN.out i)
      have HGV : Hid (cellK m2 s.n i = 0 → ∃ y t u, N = some y ∧ i = (t : Nat) ∧ t < s.n ∧ ns2[t]? = some u ∧ rdV m2 s.n i ns2 = u) := fun h0 => by
        unfold cellK at h0
        by_cases hm : m2 = 0
        · rw [if_pos hm] at h0; omega
        · rw [if_neg hm] at h0
          cases hb : inB s.n i with
          | false => rw [hb] at h0; simp at h0
          | true =>
            have hr : 0 ≤ i ∧ i < (s.n : Int) := of_decide_eq_true hb
            obtain ⟨t, rfl⟩ : ∃ t : Nat, i = t := ⟨i.toNat, by omega⟩
            have htl : t < ns2.length := by rw [HNL.out]; omega
            obtain ⟨y, hy, -⟩ := HNU.out t _ (List.getElem?_eq_getElem htl)
            refine ⟨y, t, ns2[t], hy, rfl, by omega, List.getElem?_eq_getElem htl, ?_⟩
            unfold rdV gvN
            rw [if_neg hm, hb, if_pos rfl, Int.toNat_natCast, List.getD, List.getElem?_eq_getElem htl]; rfl
      have HRV : Hid (cellK m2 s.n i ≠ 0 → rdV m2 s.n i ns2 = 0) := fun h0 => by
        unfold cellK at h0
        unfold rdV
        by_cases hm : m2 = 0
        · rw [if_pos hm]
        · rw [if_neg hm] at h0 ⊢
          cases hb : inB s.n i with
          | true => rw [hb] at h0; exact absurd rfl h0
          | false => unfold gvN; rw [hb]; rfl
      have HPC := Lib.hid (fun (W : World) (h : IsP W lo hi d s m st ca ns wr) => read_any h HBD.out.1 i)
      obtain ⟨K, hK⟩ : ∃ x, cellK m2 s.n i = x := ⟨_, rfl⟩
      obtain ⟨V, hV⟩ : ∃ x, rdV m2 s.n i ns2 = x := ⟨_, rfl⟩
      obtain ⟨K1, hK1⟩ : ∃ x, cellK m s.n i = x := ⟨_, rfl⟩
      obtain ⟨V1, hV1⟩ : ∃ x, rdV m s.n i ns = x := ⟨_, rfl⟩
      have HLL : Hid (m = m2 → ns = ns2 → K1 = K ∧ V1 = V) := fun h1 h2 => by rw [← hK1, ← hK, ← hV1, ← hV, h1, h2]; exact ⟨rfl, rfl⟩
      rw [hK1, hV1] at HPC
      rw [hK, hV] at HGV
      rw [hK, hV] at HRV
      rw [hK] at HCK
      clear hK hV hK1 hV1 hk1
      go_enter Try.func12, Try.ntmps12
      go_upto_region 1 with fail
      rw [HW0.out, HXX.out]
      go_wp2_with ((with_reducible show wpList _ _ _ _ _ _); refine wpList_load_row rfl 33 (.tmp 4) rfl X rfl 33 _ (0, 0) _ HX0.out Try.underlying33 rfl (by rw [size_rp]; rfl) ?_)
      refine HCK.out.mono ?_
      rintro e w2 ⟨rfl, hb2⟩
      have hp2 := HP0.out.keep hb2
      have hx2 := (hb2.block _ (lt_of_block HX0.out)).trans HX0.out
      have hq2 := (hb2.block _ (lt_of_block HQ0.out)).trans HQ0.out
      have HP2 := Lib.hid hp2
      have HPD := Lib.hid (hp2.drewN 1)
      have HX2 := Lib.hid hx2
      have HQ2 := Lib.hid hq2
      have HR2 := Lib.hid ((hb2.block _ (lt_of_block HR0.out)).trans HR0.out)
      have HB2 := Lib.hid (HB0.out.trans (hb2.mono HB0.out.size))
      have HN2 := Lib.hid (HNU.out.kept hb2)
      have l1 : Sem.run Try.prog (loadVar 3 ⟨X + 1, 1, none⟩) w2.drew = .ok (.int .i64 i) w2.drew := by simp [go_sem, loadVar, cell_of_row w2.drew _ 1 _ _ _ hq2]
      clear hb2 hp2 hx2 hq2 HCK q0 q1 q2
      go_upto_region 7 with fail
      go_region_held3 (fun wx => Sem.run Try.prog (loadVar 3 ⟨X + 1, 1, none⟩) wx = .ok (.int .i64 i) wx)
        (first | assumption | (go_keep; done))
        (first
          | (go_at_call 47; refine (HPC.out _ HPD.out).mono ?_; rintro e w4 ⟨rfl, rfl⟩))
      all_goals
        obtain ⟨W, hW⟩ : ∃ W, w2.drewN 1 = W := ⟨_, rfl⟩
        have HPW : Hid (IsP W lo hi d s m st ca ns wr) := by rw [← hW]; exact HPD.out
        have HXW : Hid (W.heap[X]? = some (.cells #[.int .i64 s.id, .string s.nm, .bool s.may, .slice a s.n cap, .int .i64 m2, .int .i64 st2, .int .i64 ca2, .slice a s.n cap, .slice N s.n nc, .int .i64 wr2] 33 (0, 0))) := by rw [← hW]; exact HX2.out
        have HQW : Hid (W.heap[X + 1]? = some (.cells #[.int .i64 2, .int .i64 i, .int .u32 (v : Int)] 37 (0, 0))) := by rw [← hW]; exact HQ2.out
        have HRW : Hid (W.heap[X + 2]? = some (.cells #[.int .i64 0, .string ⟨#[]⟩, .bool false, .slice none 0 0, .int .i64 0, .int .i64 0, .int .i64 0, .slice none 0 0, .slice none 0 0, .int .i64 0] 33 (0, 0))) := by rw [← hW]; exact HR2.out
        have HNX : Hid (NumsAt W N ns2) := by rw [← hW]; exact HN2.out
        have HRG : Hid (Rng lo hi w W) := by rw [← hW]; exact (rng_below HB2.out).trans ⟨rfl, rfl, rfl, Nat.le_refl _, fun _ _ _ => rfl⟩
        have hRR : ns2 ≠ [] → ∀ y, N = some y → y.block ≠ X + 2 := fun hq y hy => by have := NumsAt.lt HNW.out hq y hy; have := HXX.out; omega
        have HE := Lib.hid (one_end (X + 2) #[.int .i64 s.id, .string s.nm, .bool s.may, .slice a s.n cap, .int .i64 m2, .int .i64 st2, .int .i64 ca2, .slice a s.n cap, .slice N s.n nc, .int .i64 wr2] HRG.out HPW.out HNX.out hRR (by have := HS.out; omega) (by have := HXX.out; omega))
        try (change Code.wp _ _ _ _ (w2.drewN 1))
        rw [hW]
        clear hW hRR l1
        have q1 : Sem.run Try.prog (loadVar 3 ⟨X + 1, 1, none⟩) W = .ok (.int .i64 i) W := by simp [go_sem, loadVar, cell_of_row _ _ 1 _ _ _ HQW.out]
        by_cases hK : K = 0
        · obtain ⟨y, t, u, rfl, rfl, htl, hu, rfl⟩ := HGV.out hK
          subst hK
          obtain ⟨y', hy', hc⟩ := HNX.out t V hu
          obtain rfl := Option.some.inj hy'
          have l8 : Sem.run Try.prog (loadVar 29 ⟨X, 8, none⟩) W = .ok (.slice (some y) s.n nc) W := by simp [go_sem, loadVar, cell_of_row _ _ 8 _ _ _ HXW.out]
          have l9 : Sem.run Try.prog (loadVar 35 (y.add t)) W = .ok (.int .u32 (V : Int)) W := by simp [go_sem, loadVar, hc]
          have b0 : (0 : Int) ≤ t := by omega
          have b1 : (t : Int) < s.n := by omega
          have b2 : decide (t < s.n) = true := decide_eq_true htl
          clear hu hc htl HGV HRV
          by_cases hv : V1 = V
          · have HV : Hid (m = m2 → ns = ns2 → K1 = 0) := fun h1 h2 => (HLL.out h1 h2).1
            subst hv
            clear HLL
            go_wp2_with (first
              | ((with_reducible show wpList _ _ _ _ _ _); refine wpList_load_row rfl 33 (.tmp 4) rfl X rfl 33 _ (0, 0) _ HXW.out Try.underlying33 rfl (by rw [size_rp]; rfl) ?_)
              | ((with_reducible show wpList _ _ _ _ _ _); refine wpList_store_row rfl 33 (.tmp 6) (.tmp 62) rfl (X + 2) #[.int .i64 s.id, .string s.nm, .bool s.may, .slice a s.n cap, .int .i64 m2, .int .i64 st2, .int .i64 ca2, .slice a s.n cap, .slice (some y) s.n nc, .int .i64 wr2] rfl rfl 33 #[.int .i64 0, .string ⟨#[]⟩, .bool false, .slice none 0 0, .int .i64 0, .int .i64 0, .int .i64 0, .slice none 0 0, .slice none 0 0, .int .i64 0] HRW.out (by rw [size_rp]; rfl) rfl (one_rp _ _ _ _ _ _ _ _ _ _ _ _ _ _ _) ?_))
            refine bodyPost_ret (v := .tuple #[.agg #[.int .i64 s.id, .string s.nm, .bool s.may, .slice a s.n cap, .int .i64 m2, .int .i64 st2, .int .i64 ca2, .slice a s.n cap, .slice (some y) s.n nc, .int .i64 wr2], .bool (K1 == 0)]) (results_row_tmpC Try.results12 _ _ (X + 2) 33 _ (0, 0) _ rfl (setRow_heap _ _ _ _ _ _ HRW.out) Try.underlying33 rfl size_rp) rfl ⟨m, st, ca, ns, wr, m2, st2, ca2, ns2, wr2, (K1 == 0), some y, nc, rfl, HE.out.1, HE.out.2.1, HNL.out, HNN.out, id, (fun y hy => .inr hy), HE.out.2.2, HBD.out.more, HB2D.out.more, fun h => ⟨h, rfl, rfl, rfl⟩, fun h1 h2 h3 h4 h5 => ⟨(by rw [HV.out h1 h4]; exact beq_self_eq_true _), h1, h2, h3, h4, h5⟩⟩
          · have HV : Hid (m = m2 → ns = ns2 → V1 = V) := fun h1 h2 => (HLL.out h1 h2).2
            have tv : ((V1 : Int) == (V : Int)) = false := by simp; omega
            have HNE : Hid (V1 ≠ V) := hv
            clear HLL hv
            go_wp2_with (first
              | ((with_reducible show wpList _ _ _ _ _ _); refine wpList_load_row rfl 33 (.tmp 4) rfl X rfl 33 _ (0, 0) _ HXW.out Try.underlying33 rfl (by rw [size_rp]; rfl) ?_)
              | ((with_reducible show wpList _ _ _ _ _ _); refine wpList_store_row rfl 33 (.tmp 6) (.tmp 62) rfl (X + 2) #[.int .i64 s.id, .string s.nm, .bool s.may, .slice a s.n cap, .int .i64 m2, .int .i64 st2, .int .i64 ca2, .slice a s.n cap, .slice (some y) s.n nc, .int .i64 wr2] rfl rfl 33 #[.int .i64 0, .string ⟨#[]⟩, .bool false, .slice none 0 0, .int .i64 0, .int .i64 0, .int .i64 0, .slice none 0 0, .slice none 0 0, .int .i64 0] HRW.out (by rw [size_rp]; rfl) rfl (one_rp _ _ _ _ _ _ _ _ _ _ _ _ _ _ _) ?_))
            refine bodyPost_ret (v := .tuple #[.agg #[.int .i64 s.id, .string s.nm, .bool s.may, .slice a s.n cap, .int .i64 m2, .int .i64 st2, .int .i64 ca2, .slice a s.n cap, .slice (some y) s.n nc, .int .i64 wr2], .bool (false)]) (results_row_tmpC Try.results12 _ _ (X + 2) 33 _ (0, 0) _ rfl (setRow_heap _ _ _ _ _ _ HRW.out) Try.underlying33 rfl size_rp) rfl ⟨m, st, ca, ns, wr, m2, st2, ca2, ns2, wr2, (false), some y, nc, rfl, HE.out.1, HE.out.2.1, HNL.out, HNN.out, id, (fun y hy => .inr hy), HE.out.2.2, HBD.out.more, HB2D.out.more, fun h => ⟨h, rfl, rfl, rfl⟩, fun h1 h2 h3 h4 h5 => ⟨(HNE.out (HV.out h1 h4)).elim, h1, h2, h3, h4, h5⟩⟩
        · obtain rfl := HRV.out hK
          have t0 : (K == 0) = false := by simp [hK]
          clear hK HGV HRV
          by_cases hv : V1 = 0
          · have HV : Hid (m = m2 → ns = ns2 → K1 = K) := fun h1 h2 => (HLL.out h1 h2).1
            subst hv
            clear HLL
            go_wp2_with (first
              | ((with_reducible show wpList _ _ _ _ _ _); refine wpList_load_row rfl 33 (.tmp 4) rfl X rfl 33 _ (0, 0) _ HXW.out Try.underlying33 rfl (by rw [size_rp]; rfl) ?_)
              | ((with_reducible show wpList _ _ _ _ _ _); refine wpList_store_row rfl 33 (.tmp 6) (.tmp 62) rfl (X + 2) #[.int .i64 s.id, .string s.nm, .bool s.may, .slice a s.n cap, .int .i64 m2, .int .i64 st2, .int .i64 ca2, .slice a s.n cap, .slice N s.n nc, .int .i64 wr2] rfl rfl 33 #[.int .i64 0, .string ⟨#[]⟩, .bool false, .slice none 0 0, .int .i64 0, .int .i64 0, .int .i64 0, .slice none 0 0, .slice none 0 0, .int .i64 0] HRW.out (by rw [size_rp]; rfl) rfl (one_rp _ _ _ _ _ _ _ _ _ _ _ _ _ _ _) ?_))
            refine bodyPost_ret (v := .tuple #[.agg #[.int .i64 s.id, .string s.nm, .bool s.may, .slice a s.n cap, .int .i64 m2, .int .i64 st2, .int .i64 ca2, .slice a s.n cap, .slice N s.n nc, .int .i64 wr2], .bool (K1 == K)]) (results_row_tmpC Try.results12 _ _ (X + 2) 33 _ (0, 0) _ rfl (setRow_heap _ _ _ _ _ _ HRW.out) Try.underlying33 rfl size_rp) rfl ⟨m, st, ca, ns, wr, m2, st2, ca2, ns2, wr2, (K1 == K), N, nc, rfl, HE.out.1, HE.out.2.1, HNL.out, HNN.out, id, (fun y hy => .inr hy), HE.out.2.2, HBD.out.more, HB2D.out.more, fun h => ⟨h, rfl, rfl, rfl⟩, fun h1 h2 h3 h4 h5 => ⟨(by rw [HV.out h1 h4]; exact beq_self_eq_true _), h1, h2, h3, h4, h5⟩⟩
          · have HV : Hid (m = m2 → ns = ns2 → V1 = 0) := fun h1 h2 => (HLL.out h1 h2).2
            have tv : ((V1 : Int) == 0) = false := by simp; omega
            have HNE : Hid (V1 ≠ 0) := hv
            clear HLL hv
            go_wp2_with (first
              | ((with_reducible show wpList _ _ _ _ _ _); refine wpList_load_row rfl 33 (.tmp 4) rfl X rfl 33 _ (0, 0) _ HXW.out Try.underlying33 rfl (by rw [size_rp]; rfl) ?_)
              | ((with_reducible show wpList _ _ _ _ _ _); refine wpList_store_row rfl 33 (.tmp 6) (.tmp 62) rfl (X + 2) #[.int .i64 s.id, .string s.nm, .bool s.may, .slice a s.n cap, .int .i64 m2, .int .i64 st2, .int .i64 ca2, .slice a s.n cap, .slice N s.n nc, .int .i64 wr2] rfl rfl 33 #[.int .i64 0, .string ⟨#[]⟩, .bool false, .slice none 0 0, .int .i64 0, .int .i64 0, .int .i64 0, .slice none 0 0, .slice none 0 0, .int .i64 0] HRW.out (by rw [size_rp]; rfl) rfl (one_rp _ _ _ _ _ _ _ _ _ _ _ _ _ _ _) ?_))
            refine bodyPost_ret (v := .tuple #[.agg #[.int .i64 s.id, .string s.nm, .bool s.may, .slice a s.n cap, .int .i64 m2, .int .i64 st2, .int .i64 ca2, .slice a s.n cap, .slice N s.n nc, .int .i64 wr2], .bool (false)]) (results_row_tmpC Try.results12 _ _ (X + 2) 33 _ (0, 0) _ rfl (setRow_heap _ _ _ _ _ _ HRW.out) Try.underlying33 rfl size_rp) rfl ⟨m, st, ca, ns, wr, m2, st2, ca2, ns2, wr2, (false), N, nc, rfl, HE.out.1, HE.out.2.1, HNL.out, HNN.out, id, (fun y hy => .inr hy), HE.out.2.2, HBD.out.more, HB2D.out.more, fun h => ⟨h, rfl, rfl, rfl⟩, fun h1 h2 h3 h4 h5 => ⟨(HNE.out (HV.out h1 h4)).elim, h1, h2, h3, h4, h5⟩⟩
    · have t2 : (k == 2) = false := by simp [hk2]
      by_cases hk3 : k = 3
      · subst hk3
        clear hk1 hk2
        have HRC := Lib.hid (rwrite_any (s := s) (a := a) (cap := cap) (N := N) (nc := nc) (m := m2) (st := st2) (ca := ca2) (ns := ns2) (wr := wr2) W0 HNU.out HNL.out HN.out ⟨HB2D.out.2.2.1, by have := HB2D.out.2.2.2; have := HJ.out; omega⟩ i v)
        go_enter Try.func12, Try.ntmps12
        go_upto_region 1 with fail
        rw [HW0.out, HXX.out]
        go_wp2_with ((with_reducible show wpList _ _ _ _ _ _); refine wpList_load_row rfl 33 (.tmp 4) rfl X rfl 33 _ (0, 0) _ HX0.out Try.underlying33 rfl (by rw [size_rp]; rfl) ?_)
        refine HRC.out.mono ?_
        rintro e w2 ⟨N', nc', rfl, hn2, hN2, hb2⟩
        have hsA : Sem.run Try.prog (storeVar 33 ⟨w2.heap.size, 0, none⟩ (.agg #[.int .i64 s.id, .string s.nm, .bool s.may, .slice a s.n cap, .int .i64 m2, .int .i64 st2, .int .i64 ca2, .slice a s.n cap, .slice N' s.n nc', .int .i64 (wW m2 s.n i wr2)])) (w2.alloc (.cells #[.int .i64 0, .string ⟨#[]⟩, .bool false, .slice none 0 0, .int .i64 0, .int .i64 0, .int .i64 0, .slice none 0 0, .slice none 0 0, .int .i64 0] 33)) = .ok () (w2.alloc (.cells #[.int .i64 s.id, .string s.nm, .bool s.may, .slice a s.n cap, .int .i64 m2, .int .i64 st2, .int .i64 ca2, .slice a s.n cap, .slice N' s.n nc', .int .i64 (wW m2 s.n i wr2)] 33)) := run_storeVar_new w2 _ #[.int .i64 0, .string ⟨#[]⟩, .bool false, .slice none 0 0, .int .i64 0, .int .i64 0, .int .i64 0, .slice none 0 0, .slice none 0 0, .int .i64 0] _ size_rp rfl (one_rp _ _ _ _ _ _ _ _ _ _ _ _ _ _ _)
        have hb3 : Below w2.heap.size w2 (w2.alloc (.cells #[.int .i64 s.id, .string s.nm, .bool s.may, .slice a s.n cap, .int .i64 m2, .int .i64 st2, .int .i64 ca2, .slice a s.n cap, .slice N' s.n nc', .int .i64 (wW m2 s.n i wr2)] 33)) := (Below.refl _ _).alloc (Nat.le_refl _) _
        have hz3 := heap_alloc_new w2 (.cells #[.int .i64 s.id, .string s.nm, .bool s.may, .slice a s.n cap, .int .i64 m2, .int .i64 st2, .int .i64 ca2, .slice a s.n cap, .slice N' s.n nc', .int .i64 (wW m2 s.n i wr2)] 33)
        have hq3 := (hb3.block _ (lt_of_block ((hb2.block _ (lt_of_block HQ0.out)).trans HQ0.out))).trans ((hb2.block _ (lt_of_block HQ0.out)).trans HQ0.out)
        have hr3 := (hb3.block _ (lt_of_block ((hb2.block _ (lt_of_block HR0.out)).trans HR0.out))).trans ((hb2.block _ (lt_of_block HR0.out)).trans HR0.out)
        have hp3 := (HP0.out.keep hb2).keep hb3
        have hn3 := hn2.kept hb3
        have hrg : Rng lo hi w (w2.alloc (.cells #[.int .i64 s.id, .string s.nm, .bool s.may, .slice a s.n cap, .int .i64 m2, .int .i64 st2, .int .i64 ca2, .slice a s.n cap, .slice N' s.n nc', .int .i64 (wW m2 s.n i wr2)] 33)) := ((rng_below HB0.out).trans (rng_below hb2)).trans (rng_below hb3)
        have HM : Hid (∀ y, N' = some y → W0.heap.size ≤ y.block ∨ N = some y) := hN2
        have hZ : X + 3 ≤ w2.heap.size := by have := hb2.size; have := HS0.out; omega
        go_upto_region 14 with fail
        obtain ⟨w3, hw3⟩ : ∃ W, w2.alloc (.cells #[.int .i64 s.id, .string s.nm, .bool s.may, .slice a s.n cap, .int .i64 m2, .int .i64 st2, .int .i64 ca2, .slice a s.n cap, .slice N' s.n nc', .int .i64 (wW m2 s.n i wr2)] 33) = W := ⟨_, rfl⟩
        obtain ⟨Y, hY⟩ : ∃ Y, w2.heap.size = Y := ⟨_, rfl⟩
        rw [hw3] at hz3 hq3 hr3 hp3 hn3 hrg
        rw [hY] at hz3 hZ
        rw [hw3, hY]
        have HZ3 := Lib.hid hz3
        have HQ3 := Lib.hid hq3
        have HR3 := Lib.hid hr3
        have HP3 := Lib.hid hp3
        have HN3 := Lib.hid hn3
        have HRG := Lib.hid hrg
        have HYX : Hid (X + 3 ≤ Y) := hZ
        have l0 : Sem.run Try.prog (loadVar 33 ⟨Y, 0, none⟩) w3.drew = .ok (.agg #[.int .i64 s.id, .string s.nm, .bool s.may, .slice a s.n cap, .int .i64 m2, .int .i64 st2, .int .i64 ca2, .slice a s.n cap, .slice N' s.n nc', .int .i64 (wW m2 s.n i wr2)]) w3.drew := run_loadVar_row w3.drew Y _ _ _ (0, 0) _ HZ3.out Try.underlying33 rfl size_rp
        have l1 : Sem.run Try.prog (loadVar 3 ⟨X + 1, 1, none⟩) w3.drew = .ok (.int .i64 i) w3.drew := by simp [go_sem, loadVar, cell_of_row w3.drew _ 1 _ _ _ HQ3.out]
        have l2 : Sem.run Try.prog (loadVar 35 ⟨X + 1, 2, none⟩) w3.drew = .ok (.int .u32 (v : Int)) w3.drew := by simp [go_sem, loadVar, cell_of_row w3.drew _ 2 _ _ _ HQ3.out]
        have HPC := Lib.hid (fun (W : World) (h : IsP W lo hi d s m st ca ns wr) => write_any h HBD.out.1 ⟨HBD.out.2.2.1, by have := HBD.out.2.2.2; have := HJ.out; omega⟩ i v)
        obtain ⟨kk, hkk⟩ : ∃ x, cellK m s.n i = x := ⟨_, rfl⟩
        obtain ⟨ll, hll⟩ : ∃ x, cellK m2 s.n i = x := ⟨_, rfl⟩
        rw [hkk] at HPC
        rw [hll]
        have HLL : Hid (m = m2 → kk = ll) := fun h => by rw [← hkk, ← hll, h]
        clear hkk hll
        clear hsA hb3 hz3 hq3 hr3 hp3 hn3 hrg hN2 hZ hw3 hY hn2 hb2 HRC q0 q1 q2
        go_region_held3 (fun wx => Sem.run Try.prog (loadVar 33 ⟨Y, 0, none⟩) wx = .ok (.agg #[.int .i64 s.id, .string s.nm, .bool s.may, .slice a s.n cap, .int .i64 m2, .int .i64 st2, .int .i64 ca2, .slice a s.n cap, .slice N' s.n nc', .int .i64 (wW m2 s.n i wr2)]) wx ∧ Sem.run Try.prog (loadVar 3 ⟨X + 1, 1, none⟩) wx = .ok (.int .i64 i) wx ∧ Sem.run Try.prog (loadVar 35 ⟨X + 1, 2, none⟩) wx = .ok (.int .u32 (v : Int)) wx)
          (first | exact HKS.out | exact HKP.out | (refine ⟨?_, ?_, ?_⟩ <;> assumption) | (go_keep; done))
          (first
            | (go_at_call 25; refine (HPC.out _ (HP3.out.drewN 1)).mono ?_; rintro e w4 ⟨rfl, hp4, hr4⟩; have hz4 : w4.heap[Y]? = some (.cells #[.int .i64 s.id, .string s.nm, .bool s.may, .slice a s.n cap, .int .i64 m2, .int .i64 st2, .int .i64 ca2, .slice a s.n cap, .slice N' s.n nc', .int .i64 (wW m2 s.n i wr2)] 33 (0, 0)) := (hr4.block Y (lt_of_block HZ3.out) (.inr (by have := HS.out; have := HYX.out; omega))).trans HZ3.out; have hq4 : w4.heap[X + 1]? = some (.cells #[.int .i64 3, .int .i64 i, .int .u32 (v : Int)] 37 (0, 0)) := (hr4.block (X + 1) (lt_of_block HQ3.out) (.inr (by have := HS.out; omega))).trans HQ3.out; have hr5 : w4.heap[X + 2]? = some (.cells #[.int .i64 0, .string ⟨#[]⟩, .bool false, .slice none 0 0, .int .i64 0, .int .i64 0, .int .i64 0, .slice none 0 0, .slice none 0 0, .int .i64 0] 33 (0, 0)) := (hr4.block (X + 2) (lt_of_block HR3.out) (.inr (by have := HS.out; omega))).trans HR3.out; have hst : Sem.run Try.prog (storeVar 33 ⟨X + 2, 0, none⟩ (.agg #[.int .i64 s.id, .string s.nm, .bool s.may, .slice a s.n cap, .int .i64 m2, .int .i64 st2, .int .i64 ca2, .slice a s.n cap, .slice N' s.n nc', .int .i64 (wW m2 s.n i wr2)])) w4 = .ok () (w4.setRow (X + 2) #[.int .i64 s.id, .string s.nm, .bool s.may, .slice a s.n cap, .int .i64 m2, .int .i64 st2, .int .i64 ca2, .slice a s.n cap, .slice N' s.n nc', .int .i64 (wW m2 s.n i wr2)]) := run_storeVar_row w4 (X + 2) _ _ #[.int .i64 0, .string ⟨#[]⟩, .bool false, .slice none 0 0, .int .i64 0, .int .i64 0, .int .i64 0, .slice none 0 0, .slice none 0 0, .int .i64 0] _ hr5 size_rp rfl (one_rp _ _ _ _ _ _ _ _ _ _ _ _ _ _ _); have HKP : Hid (Sem.run Try.prog (loadVar 33 ⟨Y, 0, none⟩) w4 = .ok (.agg #[.int .i64 s.id, .string s.nm, .bool s.may, .slice a s.n cap, .int .i64 m2, .int .i64 st2, .int .i64 ca2, .slice a s.n cap, .slice N' s.n nc', .int .i64 (wW m2 s.n i wr2)]) w4 ∧ Sem.run Try.prog (loadVar 3 ⟨X + 1, 1, none⟩) w4 = .ok (.int .i64 i) w4 ∧ Sem.run Try.prog (loadVar 35 ⟨X + 1, 2, none⟩) w4 = .ok (.int .u32 (v : Int)) w4) := ⟨run_loadVar_row w4 Y _ _ _ (0, 0) _ hz4 Try.underlying33 rfl size_rp, by simp [go_sem, loadVar, cell_of_row w4 _ 1 _ _ _ hq4], by simp [go_sem, loadVar, cell_of_row w4 _ 2 _ _ _ hq4]⟩; have hz6 : (w4.setRow (X + 2) #[.int .i64 s.id, .string s.nm, .bool s.may, .slice a s.n cap, .int .i64 m2, .int .i64 st2, .int .i64 ca2, .slice a s.n cap, .slice N' s.n nc', .int .i64 (wW m2 s.n i wr2)]).heap[Y]? = some (.cells #[.int .i64 s.id, .string s.nm, .bool s.may, .slice a s.n cap, .int .i64 m2, .int .i64 st2, .int .i64 ca2, .slice a s.n cap, .slice N' s.n nc', .int .i64 (wW m2 s.n i wr2)] 33 (0, 0)) := (setRow_other _ _ _ _ (by have := HYX.out; omega)).trans hz4; have hq6 : (w4.setRow (X + 2) #[.int .i64 s.id, .string s.nm, .bool s.may, .slice a s.n cap, .int .i64 m2, .int .i64 st2, .int .i64 ca2, .slice a s.n cap, .slice N' s.n nc', .int .i64 (wW m2 s.n i wr2)]).heap[X + 1]? = some (.cells #[.int .i64 3, .int .i64 i, .int .u32 (v : Int)] 37 (0, 0)) := (setRow_other _ _ _ _ (by omega)).trans hq4; have HKS : Hid (Sem.run Try.prog (loadVar 33 ⟨Y, 0, none⟩) (w4.setRow (X + 2) #[.int .i64 s.id, .string s.nm, .bool s.may, .slice a s.n cap, .int .i64 m2, .int .i64 st2, .int .i64 ca2, .slice a s.n cap, .slice N' s.n nc', .int .i64 (wW m2 s.n i wr2)]) = .ok (.agg #[.int .i64 s.id, .string s.nm, .bool s.may, .slice a s.n cap, .int .i64 m2, .int .i64 st2, .int .i64 ca2, .slice a s.n cap, .slice N' s.n nc', .int .i64 (wW m2 s.n i wr2)]) (w4.setRow (X + 2) #[.int .i64 s.id, .string s.nm, .bool s.may, .slice a s.n cap, .int .i64 m2, .int .i64 st2, .int .i64 ca2, .slice a s.n cap, .slice N' s.n nc', .int .i64 (wW m2 s.n i wr2)]) ∧ Sem.run Try.prog (loadVar 3 ⟨X + 1, 1, none⟩) (w4.setRow (X + 2) #[.int .i64 s.id, .string s.nm, .bool s.may, .slice a s.n cap, .int .i64 m2, .int .i64 st2, .int .i64 ca2, .slice a s.n cap, .slice N' s.n nc', .int .i64 (wW m2 s.n i wr2)]) = .ok (.int .i64 i) (w4.setRow (X + 2) #[.int .i64 s.id, .string s.nm, .bool s.may, .slice a s.n cap, .int .i64 m2, .int .i64 st2, .int .i64 ca2, .slice a s.n cap, .slice N' s.n nc', .int .i64 (wW m2 s.n i wr2)]) ∧ Sem.run Try.prog (loadVar 35 ⟨X + 1, 2, none⟩) (w4.setRow (X + 2) #[.int .i64 s.id, .string s.nm, .bool s.may, .slice a s.n cap, .int .i64 m2, .int .i64 st2, .int .i64 ca2, .slice a s.n cap, .slice N' s.n nc', .int .i64 (wW m2 s.n i wr2)]) = .ok (.int .u32 (v : Int)) (w4.setRow (X + 2) #[.int .i64 s.id, .string s.nm, .bool s.may, .slice a s.n cap, .int .i64 m2, .int .i64 st2, .int .i64 ca2, .slice a s.n cap, .slice N' s.n nc', .int .i64 (wW m2 s.n i wr2)])) := ⟨run_loadVar_row (w4.setRow (X + 2) #[.int .i64 s.id, .string s.nm, .bool s.may, .slice a s.n cap, .int .i64 m2, .int .i64 st2, .int .i64 ca2, .slice a s.n cap, .slice N' s.n nc', .int .i64 (wW m2 s.n i wr2)]) Y _ _ _ (0, 0) _ hz6 Try.underlying33 rfl size_rp, by simp [go_sem, loadVar, cell_of_row _ _ 1 _ _ _ hq6], by simp [go_sem, loadVar, cell_of_row _ _ 2 _ _ _ hq6]⟩; have HP4 := Lib.hid hp4; have HR4 := Lib.hid hr4; have HR5 := Lib.hid hr5; clear hz4 hq4 hz6 hq6 hp4 hr4 hr5))
        all_goals
          go_wp2
          have hrg4 : Rng lo hi w w4 := (HRG.out.trans (show Rng lo hi w3 (w3.drewN 1) from ⟨rfl, rfl, rfl, Nat.le_refl _, fun _ _ _ => rfl⟩)).trans HR4.out
          have hRr : (wL m2 s.n i v ns2) ≠ [] → ∀ y, N' = some y → hi ≤ y.block := rp_apart HNN.out (wL_ne) HM.out HP0.out.hs
          have hn4 : NumsAt w4 N' (wL m2 s.n i v ns2) := nums_rng (w := w3.drewN 1) HN3.out HR4.out hRr
          have hRR : (wL m2 s.n i v ns2) ≠ [] → ∀ y, N' = some y → y.block ≠ X + 2 := fun hq y hy => by
            have h1 := HS0.out
            rcases HM.out y hy with h | h
            · omega
            · have := NumsAt.lt HNW.out (wL_ne hq) y h; have := HXX.out; omega
          obtain ⟨f1, f2, f3⟩ := one_end (X + 2) #[.int .i64 s.id, .string s.nm, .bool s.may, .slice a s.n cap, .int .i64 m2, .int .i64 st2, .int .i64 ca2, .slice a s.n cap, .slice N' s.n nc', .int .i64 (wW m2 s.n i wr2)] hrg4 HP4.out hn4 hRR (by have := HS.out; omega) (by have := HXX.out; omega)
          refine bodyPost_ret (v := .tuple #[.agg #[.int .i64 s.id, .string s.nm, .bool s.may, .slice a s.n cap, .int .i64 m2, .int .i64 st2, .int .i64 ca2, .slice a s.n cap, .slice N' s.n nc', .int .i64 (wW m2 s.n i wr2)], .bool (kk == ll)]) (results_row_tmpC Try.results12 _ _ (X + 2) 33 _ (0, 0) _ rfl (setRow_heap _ _ _ _ _ _ HR5.out) Try.underlying33 rfl size_rp) rfl ⟨m, st, ca, wL m s.n i v ns, (wW m s.n i wr), m2, st2, ca2, wL m2 s.n i v ns2, (wW m2 s.n i wr2), kk == ll, N', nc', rfl, f1, f2, by rw [wL_len]; exact HNL.out, hRr, wL_ne, (fun y hy => (HM.out y hy).imp (fun h => by have h1 := HS0.out; have h2 := HXX.out; omega) id), f3, ⟨HBD.out.1, HBD.out.more.2.1, wW_in HBD.out.2.2⟩, ⟨HB2D.out.1, HB2D.out.more.2.1, wW_in HB2D.out.2.2⟩, fun h0 => ⟨h0, rfl, rfl, if_pos h0⟩, fun h1 h2 h3 h4 h5 => by
            have hl := HLL.out h1
            subst h1 h2 h3 h4 h5
            refine ⟨?_, rfl, rfl, rfl, rfl, rfl⟩
            rw [hl]; exact beq_self_eq_true _⟩
      · have t3 : (k == 3) = false := by simp [hk3]
        by_cases hk4 : k = 4
        · subst hk4
          clear hk1 hk2 hk3
          have HRC := Lib.hid (ract_any (s := s) (a := a) (cap := cap) (N := N) (nc := nc) (m := m2) (st := st2) (ca := ca2) (ns := ns2) (wr := wr2) W0 HNU.out HNL.out HN.out HFL.out HCE.out ⟨HB2D.out.2.1.1, by have := HB2D.out.2.1.2; have := HJ.out; omega⟩ i)
          go_enter Try.func12, Try.ntmps12
          go_upto_region 1 with fail
          rw [HW0.out, HXX.out]
          go_wp2_with ((with_reducible show wpList _ _ _ _ _ _); refine wpList_load_row rfl 33 (.tmp 4) rfl X rfl 33 _ (0, 0) _ HX0.out Try.underlying33 rfl (by rw [size_rp]; rfl) ?_)
          refine HRC.out.mono ?_
          rintro e w2 ⟨N', nc', rfl, hn2, hN2, hb2⟩
          have hsA : Sem.run Try.prog (storeVar 33 ⟨w2.heap.size, 0, none⟩ (.agg #[.int .i64 s.id, .string s.nm, .bool s.may, .slice a s.n cap, .int .i64 (actM m2 i), .int .i64 (goN (actS m2 i) st2), .int .i64 (goC (actS m2 i) 2 ca2), .slice a s.n cap, .slice N' s.n nc', .int .i64 (goW (actS m2 i) wr2)])) (w2.alloc (.cells #[.int .i64 0, .string ⟨#[]⟩, .bool false, .slice none 0 0, .int .i64 0, .int .i64 0, .int .i64 0, .slice none 0 0, .slice none 0 0, .int .i64 0] 33)) = .ok () (w2.alloc (.cells #[.int .i64 s.id, .string s.nm, .bool s.may, .slice a s.n cap, .int .i64 (actM m2 i), .int .i64 (goN (actS m2 i) st2), .int .i64 (goC (actS m2 i) 2 ca2), .slice a s.n cap, .slice N' s.n nc', .int .i64 (goW (actS m2 i) wr2)] 33)) := run_storeVar_new w2 _ #[.int .i64 0, .string ⟨#[]⟩, .bool false, .slice none 0 0, .int .i64 0, .int .i64 0, .int .i64 0, .slice none 0 0, .slice none 0 0, .int .i64 0] _ size_rp rfl (one_rp _ _ _ _ _ _ _ _ _ _ _ _ _ _ _)
          have hb3 : Below w2.heap.size w2 (w2.alloc (.cells #[.int .i64 s.id, .string s.nm, .bool s.may, .slice a s.n cap, .int .i64 (actM m2 i), .int .i64 (goN (actS m2 i) st2), .int .i64 (goC (actS m2 i) 2 ca2), .slice a s.n cap, .slice N' s.n nc', .int .i64 (goW (actS m2 i) wr2)] 33)) := (Below.refl _ _).alloc (Nat.le_refl _) _
          have hz3 := heap_alloc_new w2 (.cells #[.int .i64 s.id, .string s.nm, .bool s.may, .slice a s.n cap, .int .i64 (actM m2 i), .int .i64 (goN (actS m2 i) st2), .int .i64 (goC (actS m2 i) 2 ca2), .slice a s.n cap, .slice N' s.n nc', .int .i64 (goW (actS m2 i) wr2)] 33)
          have hq3 := (hb3.block _ (lt_of_block ((hb2.block _ (lt_of_block HQ0.out)).trans HQ0.out))).trans ((hb2.block _ (lt_of_block HQ0.out)).trans HQ0.out)
          have hr3 := (hb3.block _ (lt_of_block ((hb2.block _ (lt_of_block HR0.out)).trans HR0.out))).trans ((hb2.block _ (lt_of_block HR0.out)).trans HR0.out)
          have hp3 := (HP0.out.keep hb2).keep hb3
          have hn3 := hn2.kept hb3
          have hrg : Rng lo hi w (w2.alloc (.cells #[.int .i64 s.id, .string s.nm, .bool s.may, .slice a s.n cap, .int .i64 (actM m2 i), .int .i64 (goN (actS m2 i) st2), .int .i64 (goC (actS m2 i) 2 ca2), .slice a s.n cap, .slice N' s.n nc', .int .i64 (goW (actS m2 i) wr2)] 33)) := ((rng_below HB0.out).trans (rng_below hb2)).trans (rng_below hb3)
          have HM : Hid (∀ y, N' = some y → W0.heap.size ≤ y.block ∨ N = some y) := hN2
          have hZ : X + 3 ≤ w2.heap.size := by have := hb2.size; have := HS0.out; omega
          go_upto_region 17 with fail
          obtain ⟨w3, hw3⟩ : ∃ W, w2.alloc (.cells #[.int .i64 s.id, .string s.nm, .bool s.may, .slice a s.n cap, .int .i64 (actM m2 i), .int .i64 (goN (actS m2 i) st2), .int .i64 (goC (actS m2 i) 2 ca2), .slice a s.n cap, .slice N' s.n nc', .int .i64 (goW (actS m2 i) wr2)] 33) = W := ⟨_, rfl⟩
          obtain ⟨Y, hY⟩ : ∃ Y, w2.heap.size = Y := ⟨_, rfl⟩
          rw [hw3] at hz3 hq3 hr3 hp3 hn3 hrg
          rw [hY] at hz3 hZ
          rw [hw3, hY]
          have HZ3 := Lib.hid hz3
          have HQ3 := Lib.hid hq3
          have HR3 := Lib.hid hr3
          have HP3 := Lib.hid hp3
          have HN3 := Lib.hid hn3
          have HRG := Lib.hid hrg
          have HYX : Hid (X + 3 ≤ Y) := hZ
          have l0 : Sem.run Try.prog (loadVar 33 ⟨Y, 0, none⟩) w3.drew = .ok (.agg #[.int .i64 s.id, .string s.nm, .bool s.may, .slice a s.n cap, .int .i64 (actM m2 i), .int .i64 (goN (actS m2 i) st2), .int .i64 (goC (actS m2 i) 2 ca2), .slice a s.n cap, .slice N' s.n nc', .int .i64 (goW (actS m2 i) wr2)]) w3.drew := run_loadVar_row w3.drew Y _ _ _ (0, 0) _ HZ3.out Try.underlying33 rfl size_rp
          have l1 : Sem.run Try.prog (loadVar 3 ⟨X + 1, 1, none⟩) w3.drew = .ok (.int .i64 i) w3.drew := by simp [go_sem, loadVar, cell_of_row w3.drew _ 1 _ _ _ HQ3.out]
          have l2 : Sem.run Try.prog (loadVar 35 ⟨X + 1, 2, none⟩) w3.drew = .ok (.int .u32 (v : Int)) w3.drew := by simp [go_sem, loadVar, cell_of_row w3.drew _ 2 _ _ _ HQ3.out]
          have HPC := Lib.hid (fun (W : World) (h : IsP W lo hi d s m st ca ns wr) => act_any h HN.out ⟨HBD.out.2.1.1, by have := HBD.out.2.1.2; have := HJ.out; omega⟩ i)
          obtain ⟨kk, hkk⟩ : ∃ x, goes (actS m i) = x := ⟨_, rfl⟩
          obtain ⟨ll, hll⟩ : ∃ x, goes (actS m2 i) = x := ⟨_, rfl⟩
          rw [hkk] at HPC
          rw [hll]
          have HLL : Hid (m = m2 → kk = ll) := fun h => by rw [← hkk, ← hll, h]
          clear hkk hll
          clear hsA hb3 hz3 hq3 hr3 hp3 hn3 hrg hN2 hZ hw3 hY hn2 hb2 HRC q0 q1 q2
          go_region_held3 (fun wx => Sem.run Try.prog (loadVar 33 ⟨Y, 0, none⟩) wx = .ok (.agg #[.int .i64 s.id, .string s.nm, .bool s.may, .slice a s.n cap, .int .i64 (actM m2 i), .int .i64 (goN (actS m2 i) st2), .int .i64 (goC (actS m2 i) 2 ca2), .slice a s.n cap, .slice N' s.n nc', .int .i64 (goW (actS m2 i) wr2)]) wx ∧ Sem.run Try.prog (loadVar 3 ⟨X + 1, 1, none⟩) wx = .ok (.int .i64 i) wx ∧ Sem.run Try.prog (loadVar 35 ⟨X + 1, 2, none⟩) wx = .ok (.int .u32 (v : Int)) wx)
            (first | exact HKS.out | exact HKP.out | (refine ⟨?_, ?_, ?_⟩ <;> assumption) | (go_keep; done))
            (first
              | (go_at_call 24; refine (HPC.out _ (HP3.out.drewN 1)).mono ?_; rintro e w4 ⟨rfl, hp4, hr4⟩; have hz4 : w4.heap[Y]? = some (.cells #[.int .i64 s.id, .string s.nm, .bool s.may, .slice a s.n cap, .int .i64 (actM m2 i), .int .i64 (goN (actS m2 i) st2), .int .i64 (goC (actS m2 i) 2 ca2), .slice a s.n cap, .slice N' s.n nc', .int .i64 (goW (actS m2 i) wr2)] 33 (0, 0)) := (hr4.block Y (lt_of_block HZ3.out) (.inr (by have := HS.out; have := HYX.out; omega))).trans HZ3.out; have hq4 : w4.heap[X + 1]? = some (.cells #[.int .i64 4, .int .i64 i, .int .u32 (v : Int)] 37 (0, 0)) := (hr4.block (X + 1) (lt_of_block HQ3.out) (.inr (by have := HS.out; omega))).trans HQ3.out; have hr5 : w4.heap[X + 2]? = some (.cells #[.int .i64 0, .string ⟨#[]⟩, .bool false, .slice none 0 0, .int .i64 0, .int .i64 0, .int .i64 0, .slice none 0 0, .slice none 0 0, .int .i64 0] 33 (0, 0)) := (hr4.block (X + 2) (lt_of_block HR3.out) (.inr (by have := HS.out; omega))).trans HR3.out; have hst : Sem.run Try.prog (storeVar 33 ⟨X + 2, 0, none⟩ (.agg #[.int .i64 s.id, .string s.nm, .bool s.may, .slice a s.n cap, .int .i64 (actM m2 i), .int .i64 (goN (actS m2 i) st2), .int .i64 (goC (actS m2 i) 2 ca2), .slice a s.n cap, .slice N' s.n nc', .int .i64 (goW (actS m2 i) wr2)])) w4 = .ok () (w4.setRow (X + 2) #[.int .i64 s.id, .string s.nm, .bool s.may, .slice a s.n cap, .int .i64 (actM m2 i), .int .i64 (goN (actS m2 i) st2), .int .i64 (goC (actS m2 i) 2 ca2), .slice a s.n cap, .slice N' s.n nc', .int .i64 (goW (actS m2 i) wr2)]) := run_storeVar_row w4 (X + 2) _ _ #[.int .i64 0, .string ⟨#[]⟩, .bool false, .slice none 0 0, .int .i64 0, .int .i64 0, .int .i64 0, .slice none 0 0, .slice none 0 0, .int .i64 0] _ hr5 size_rp rfl (one_rp _ _ _ _ _ _ _ _ _ _ _ _ _ _ _); have HKP : Hid (Sem.run Try.prog (loadVar 33 ⟨Y, 0, none⟩) w4 = .ok (.agg #[.int .i64 s.id, .string s.nm, .bool s.may, .slice a s.n cap, .int .i64 (actM m2 i), .int .i64 (goN (actS m2 i) st2), .int .i64 (goC (actS m2 i) 2 ca2), .slice a s.n cap, .slice N' s.n nc', .int .i64 (goW (actS m2 i) wr2)]) w4 ∧ Sem.run Try.prog (loadVar 3 ⟨X + 1, 1, none⟩) w4 = .ok (.int .i64 i) w4 ∧ Sem.run Try.prog (loadVar 35 ⟨X + 1, 2, none⟩) w4 = .ok (.int .u32 (v : Int)) w4) := ⟨run_loadVar_row w4 Y _ _ _ (0, 0) _ hz4 Try.underlying33 rfl size_rp, by simp [go_sem, loadVar, cell_of_row w4 _ 1 _ _ _ hq4], by simp [go_sem, loadVar, cell_of_row w4 _ 2 _ _ _ hq4]⟩; have hz6 : (w4.setRow (X + 2) #[.int .i64 s.id, .string s.nm, .bool s.may, .slice a s.n cap, .int .i64 (actM m2 i), .int .i64 (goN (actS m2 i) st2), .int .i64 (goC (actS m2 i) 2 ca2), .slice a s.n cap, .slice N' s.n nc', .int .i64 (goW (actS m2 i) wr2)]).heap[Y]? = some (.cells #[.int .i64 s.id, .string s.nm, .bool s.may, .slice a s.n cap, .int .i64 (actM m2 i), .int .i64 (goN (actS m2 i) st2), .int .i64 (goC (actS m2 i) 2 ca2), .slice a s.n cap, .slice N' s.n nc', .int .i64 (goW (actS m2 i) wr2)] 33 (0, 0)) := (setRow_other _ _ _ _ (by have := HYX.out; omega)).trans hz4; have hq6 : (w4.setRow (X + 2) #[.int .i64 s.id, .string s.nm, .bool s.may, .slice a s.n cap, .int .i64 (actM m2 i), .int .i64 (goN (actS m2 i) st2), .int .i64 (goC (actS m2 i) 2 ca2), .slice a s.n cap, .slice N' s.n nc', .int .i64 (goW (actS m2 i) wr2)]).heap[X + 1]? = some (.cells #[.int .i64 4, .int .i64 i, .int .u32 (v : Int)] 37 (0, 0)) := (setRow_other _ _ _ _ (by omega)).trans hq4; have HKS : Hid (Sem.run Try.prog (loadVar 33 ⟨Y, 0, none⟩) (w4.setRow (X + 2) #[.int .i64 s.id, .string s.nm, .bool s.may, .slice a s.n cap, .int .i64 (actM m2 i), .int .i64 (goN (actS m2 i) st2), .int .i64 (goC (actS m2 i) 2 ca2), .slice a s.n cap, .slice N' s.n nc', .int .i64 (goW (actS m2 i) wr2)]) = .ok (.agg #[.int .i64 s.id, .string s.nm, .bool s.may, .slice a s.n cap, .int .i64 (actM m2 i), .int .i64 (goN (actS m2 i) st2), .int .i64 (goC (actS m2 i) 2 ca2), .slice a s.n cap, .slice N' s.n nc', .int .i64 (goW (actS m2 i) wr2)]) (w4.setRow (X + 2) #[.int .i64 s.id, .string s.nm, .bool s.may, .slice a s.n cap, .int .i64 (actM m2 i), .int .i64 (goN (actS m2 i) st2), .int .i64 (goC (actS m2 i) 2 ca2), .slice a s.n cap, .slice N' s.n nc', .int .i64 (goW (actS m2 i) wr2)]) ∧ Sem.run Try.prog (loadVar 3 ⟨X + 1, 1, none⟩) (w4.setRow (X + 2) #[.int .i64 s.id, .string s.nm, .bool s.may, .slice a s.n cap, .int .i64 (actM m2 i), .int .i64 (goN (actS m2 i) st2), .int .i64 (goC (actS m2 i) 2 ca2), .slice a s.n cap, .slice N' s.n nc', .int .i64 (goW (actS m2 i) wr2)]) = .ok (.int .i64 i) (w4.setRow (X + 2) #[.int .i64 s.id, .string s.nm, .bool s.may, .slice a s.n cap, .int .i64 (actM m2 i), .int .i64 (goN (actS m2 i) st2), .int .i64 (goC (actS m2 i) 2 ca2), .slice a s.n cap, .slice N' s.n nc', .int .i64 (goW (actS m2 i) wr2)]) ∧ Sem.run Try.prog (loadVar 35 ⟨X + 1, 2, none⟩) (w4.setRow (X + 2) #[.int .i64 s.id, .string s.nm, .bool s.may, .slice a s.n cap, .int .i64 (actM m2 i), .int .i64 (goN (actS m2 i) st2), .int .i64 (goC (actS m2 i) 2 ca2), .slice a s.n cap, .slice N' s.n nc', .int .i64 (goW (actS m2 i) wr2)]) = .ok (.int .u32 (v : Int)) (w4.setRow (X + 2) #[.int .i64 s.id, .string s.nm, .bool s.may, .slice a s.n cap, .int .i64 (actM m2 i), .int .i64 (goN (actS m2 i) st2), .int .i64 (goC (actS m2 i) 2 ca2), .slice a s.n cap, .slice N' s.n nc', .int .i64 (goW (actS m2 i) wr2)])) := ⟨run_loadVar_row (w4.setRow (X + 2) #[.int .i64 s.id, .string s.nm, .bool s.may, .slice a s.n cap, .int .i64 (actM m2 i), .int .i64 (goN (actS m2 i) st2), .int .i64 (goC (actS m2 i) 2 ca2), .slice a s.n cap, .slice N' s.n nc', .int .i64 (goW (actS m2 i) wr2)]) Y _ _ _ (0, 0) _ hz6 Try.underlying33 rfl size_rp, by simp [go_sem, loadVar, cell_of_row _ _ 1 _ _ _ hq6], by simp [go_sem, loadVar, cell_of_row _ _ 2 _ _ _ hq6]⟩; have HP4 := Lib.hid hp4; have HR4 := Lib.hid hr4; have HR5 := Lib.hid hr5; clear hz4 hq4 hz6 hq6 hp4 hr4 hr5))
          all_goals
            go_wp2
            have hrg4 : Rng lo hi w w4 := (HRG.out.trans (show Rng lo hi w3 (w3.drewN 1) from ⟨rfl, rfl, rfl, Nat.le_refl _, fun _ _ _ => rfl⟩)).trans HR4.out
            have hRr : (goL (actS m2 i) s.fs ns2) ≠ [] → ∀ y, N' = some y → hi ≤ y.block := rp_apart HNN.out (goL_ne) HM.out HP0.out.hs
            have hn4 : NumsAt w4 N' (goL (actS m2 i) s.fs ns2) := nums_rng (w := w3.drewN 1) HN3.out HR4.out hRr
            have hRR : (goL (actS m2 i) s.fs ns2) ≠ [] → ∀ y, N' = some y → y.block ≠ X + 2 := fun hq y hy => by
              have h1 := HS0.out
              rcases HM.out y hy with h | h
              · omega
              · have := NumsAt.lt HNW.out (goL_ne hq) y h; have := HXX.out; omega
            obtain ⟨f1, f2, f3⟩ := one_end (X + 2) #[.int .i64 s.id, .string s.nm, .bool s.may, .slice a s.n cap, .int .i64 (actM m2 i), .int .i64 (goN (actS m2 i) st2), .int .i64 (goC (actS m2 i) 2 ca2), .slice a s.n cap, .slice N' s.n nc', .int .i64 (goW (actS m2 i) wr2)] hrg4 HP4.out hn4 hRR (by have := HS.out; omega) (by have := HXX.out; omega)
            refine bodyPost_ret (v := .tuple #[.agg #[.int .i64 s.id, .string s.nm, .bool s.may, .slice a s.n cap, .int .i64 (actM m2 i), .int .i64 (goN (actS m2 i) st2), .int .i64 (goC (actS m2 i) 2 ca2), .slice a s.n cap, .slice N' s.n nc', .int .i64 (goW (actS m2 i) wr2)], .bool (kk == ll)]) (results_row_tmpC Try.results12 _ _ (X + 2) 33 _ (0, 0) _ rfl (setRow_heap _ _ _ _ _ _ HR5.out) Try.underlying33 rfl size_rp) rfl ⟨(actM m i), (goN (actS m i) st), (goC (actS m i) 2 ca), goL (actS m i) s.fs ns, (goW (actS m i) wr), (actM m2 i), (goN (actS m2 i) st2), (goC (actS m2 i) 2 ca2), goL (actS m2 i) s.fs ns2, (goW (actS m2 i) wr2), kk == ll, N', nc', rfl, f1, f2, by rw [goL_len (by rw [HFL.out, HNL.out])]; exact HNL.out, hRr, goL_ne, (fun y hy => (HM.out y hy).imp (fun h => by have h1 := HS0.out; have h2 := HXX.out; omega) id), f3, ⟨actM_in HBD.out.1, goN_in HBD.out.2.1, goW_in HBD.out.2.2⟩, ⟨actM_in HB2D.out.1, goN_in HB2D.out.2.1, goW_in HB2D.out.2.2⟩, fun h0 => by rw [h0, (act_idle i).1, (act_idle i).2]; exact ⟨rfl, rfl, rfl, rfl⟩, fun h1 h2 h3 h4 h5 => by
              have hl := HLL.out h1
              subst h1 h2 h3 h4 h5
              refine ⟨?_, rfl, rfl, rfl, rfl, rfl⟩
              rw [hl]; exact beq_self_eq_true _⟩
        · have t4 : (k == 4) = false := by simp [hk4]
          clear hk1 hk2 hk3 hk4
          have HE := Lib.hid (one_end (X + 2) #[.int .i64 s.id, .string s.nm, .bool s.may, .slice a s.n cap, .int .i64 m2, .int .i64 st2, .int .i64 ca2, .slice a s.n cap, .slice N s.n nc, .int .i64 wr2] (rng_below (lo := lo) (hi := hi) HB0.out) HP0.out HNU.out (fun hq y hy => by have := NumsAt.lt HNW.out hq y hy; have := HXX.out; omega) (by have := HS.out; omega) (by have := HXX.out; omega))
          go_enter Try.func12, Try.ntmps12
          go_upto_region 1 with fail
          rw [HW0.out, HXX.out]
          go_wp2_with (first
            | ((with_reducible show wpList _ _ _ _ _ _); refine wpList_load_row rfl 33 (.tmp 4) rfl X rfl 33 _ (0, 0) _ HX0.out Try.underlying33 rfl (by rw [size_rp]; rfl) ?_)
            | ((with_reducible show wpList _ _ _ _ _ _); refine wpList_store_row rfl 33 (.tmp 6) (.tmp 111) rfl (X + 2) #[.int .i64 s.id, .string s.nm, .bool s.may, .slice a s.n cap, .int .i64 m2, .int .i64 st2, .int .i64 ca2, .slice a s.n cap, .slice N s.n nc, .int .i64 wr2] rfl rfl 33 #[.int .i64 0, .string ⟨#[]⟩, .bool false, .slice none 0 0, .int .i64 0, .int .i64 0, .int .i64 0, .slice none 0 0, .slice none 0 0, .int .i64 0] HR0.out (by rw [size_rp]; rfl) rfl (one_rp _ _ _ _ _ _ _ _ _ _ _ _ _ _ _) ?_))
          refine bodyPost_ret (v := .tuple #[.agg #[.int .i64 s.id, .string s.nm, .bool s.may, .slice a s.n cap, .int .i64 m2, .int .i64 st2, .int .i64 ca2, .slice a s.n cap, .slice N s.n nc, .int .i64 wr2], .bool true]) (results_row_tmpC Try.results12 _ _ (X + 2) 33 _ (0, 0) _ rfl (setRow_heap _ _ _ _ _ _ HR0.out) Try.underlying33 rfl size_rp) rfl ⟨m, st, ca, ns, wr, m2, st2, ca2, ns2, wr2, true, N, nc, rfl, HE.out.1, HE.out.2.1, HNL.out, HNN.out, id, (fun y hy => .inr hy), HE.out.2.2, HBD.out.more, HB2D.out.more, fun h => ⟨h, rfl, rfl, rfl⟩, fun h1 h2 h3 h4 h5 => ⟨rfl, h1, h2, h3, h4, h5⟩⟩
end

end Go.Proofs.Ytkjoobdaalajkaa.Pt
