
/- A partition of the program's and the document's, side by side: one call of both. Condition: at most a thousand cells. -/

import Derived.Test.YtjdgpbjjhgfikaaPtD

import Derived.Deep.CutBlock

namespace Go.Proofs.Ytjdgpbjjhgfikaa.Pt

open Go.RowKit Go.PlainAid Go.Proofs.Ytjdgpbjjhgfikaa.Args Go.Proofs.Ytjdgpbjjhgfikaa.Cel

open Go.Proofs.Ytjdgpbjjhgfikaa.Mod (askN startN setM setS actN actM actS size_ch)

set_option linter.unusedVariables false

set_option linter.unusedSimpArgs false

/-- Numbers that stay small. -/
def Bd (m st wr : Int) (j : Nat) : Prop := (0 ≤ m ∧ m ≤ 3) ∧ (0 ≤ st ∧ st ≤ j) ∧ 0 ≤ wr ∧ wr ≤ j
theorem setM_in {m want : Int} (h : 0 ≤ m ∧ m ≤ 3) : 0 ≤ setM m want ∧ setM m want ≤ 3 := by
  unfold setM
  by_cases h0 : askN m want = 0
  · rw [if_pos h0]
    unfold askN at h0
    by_cases h1 : want < 0 ∨ 3 < want
    · rw [if_pos h1] at h0; omega
    · omega
  · rw [if_neg h0]; exact h
theorem actM_in {m act : Int} (h : 0 ≤ m ∧ m ≤ 3) : 0 ≤ actM m act ∧ actM m act ≤ 3 := by
  unfold actM
  split
  · exact h
  · split
    · omega
    · split <;> omega
theorem goN_in {how st : Int} {j : Nat} (h : 0 ≤ st ∧ st ≤ j) : 0 ≤ goN how st ∧ goN how st ≤ ((j + 1 : Nat) : Int) := by unfold goN; split <;> omega
theorem goW_in {how wr : Int} {j : Nat} (h : 0 ≤ wr ∧ wr ≤ j) : 0 ≤ goW how wr ∧ goW how wr ≤ ((j + 1 : Nat) : Int) := by unfold goW; split <;> omega
theorem wW_in {m : Int} {n : Nat} {i wr : Int} {j : Nat} (h : 0 ≤ wr ∧ wr ≤ j) : 0 ≤ wW m n i wr ∧ wW m n i wr ≤ ((j + 1 : Nat) : Int) := by
  unfold wW
  split
  · omega
  · have := setW_in n i wr; omega
theorem Bd.more {m st wr : Int} {j : Nat} (h : Bd m st wr j) : Bd m st wr (j + 1) := ⟨h.1, ⟨h.2.1.1, by have := h.2.1.2; omega⟩, h.2.2.1, by have := h.2.2.2; omega⟩
theorem set_idle (want : Int) : setM 0 want = 0 ∧ setS 0 want = 0 := by
  have h : askN 0 want ≠ 0 := by unfold askN; by_cases h1 : want < 0 ∨ 3 < want
                                 · rw [if_pos h1]; omega
                                 · rw [if_neg h1, if_pos (by omega)]; omega
  exact setM_no h
theorem act_idle (act : Int) : actM 0 act = 0 ∧ actS 0 act = 0 := by unfold actM actS; rw [if_pos (by omega), if_pos (by omega)]; exact ⟨rfl, rfl⟩
/-- What one call of both leads to: they answer alike. -/
def OneP (s : PK) (a : Option Addr) (cap lo hi : Nat) (d : PD) (N : Option Addr) (m st ca : Int) (ns : List Nat) (wr m2 st2 ca2 : Int) (ns2 : List Nat) (wr2 : Int) (j : Nat) (w : World) (e : Ending) (w' : World) : Prop :=
  ∃ (m' st' ca' : Int) (ns' : List Nat) (wr' : Int) (m3 st3 ca3 : Int) (ns3 : List Nat) (wr3 : Int) (b : Bool) (N' : Option Addr) (nc : Nat), e = .returned (.tuple #[.agg #[.int .i64 s.id, .string s.nm, .bool s.may, .slice a s.n cap, .int .i64 m3, .int .i64 st3, .int .i64 ca3, .slice a s.n cap, .slice N' s.n nc, .int .i64 wr3], .bool b]) ∧ IsP w' lo hi d s m' st' ca' ns' wr' ∧ NumsAt w' N' ns3 ∧ ns3.length = s.n ∧ (ns3 ≠ [] → ∀ y, N' = some y → hi ≤ y.block) ∧ (ns3 ≠ [] → ns2 ≠ []) ∧ (∀ y, N' = some y → w.heap.size ≤ y.block ∨ N = some y) ∧ Rng lo hi w w' ∧ Bd m' st' wr' (j + 1) ∧ Bd m3 st3 wr3 (j + 1) ∧ (m = 0 → m' = 0 ∧ st' = st ∧ ca' = ca ∧ ns' = ns) ∧ (m = m2 → st = st2 → ca = ca2 → ns = ns2 → wr = wr2 → b = true ∧ m' = m3 ∧ st' = st3 ∧ ca' = ca3 ∧ ns' = ns3 ∧ wr' = wr3)
theorem wL_len {m : Int} {n : Nat} {i : Int} {v : Nat} {ns : List Nat} : (wL m n i v ns).length = ns.length := by
  unfold wL setN; split; rfl; split; exact List.length_set; rfl
theorem goL_len {how : Int} {fs : List C2} {ns : List Nat} (h : fs.length = ns.length) : (goL how fs ns).length = ns.length := by
  unfold goL; split; exact startL_len _ _ _ h; split; exact startL_len _ _ _ h; rfl
theorem wL_ne {m : Int} {n : Nat} {i : Int} {v : Nat} {ns : List Nat} (h : wL m n i v ns ≠ []) : ns ≠ [] := by
  unfold wL at h
  by_cases h0 : m = 0
  · rw [if_pos h0] at h; exact h
  · rw [if_neg h0] at h; exact setN_ne h
theorem rp_apart {hi : Nat} {w : World} {N N' : Option Addr} {ns ns' : List Nat} (h1 : ns ≠ [] → ∀ y, N = some y → hi ≤ y.block) (h2 : ns' ≠ [] → ns ≠ []) (h3 : ∀ y, N' = some y → w.heap.size ≤ y.block ∨ N = some y) (h4 : hi ≤ w.heap.size) : ns' ≠ [] → ∀ y, N' = some y → hi ≤ y.block := by
  intro hne y hy
  rcases h3 y hy with h | h
  · omega
  · exact h1 (h2 hne) y h
theorem nums_rng {lo hi : Nat} {w w' : World} {N : Option Addr} {ns : List Nat} (h : NumsAt w N ns) (t : Rng lo hi w w') (hN : ns ≠ [] → ∀ y, N = some y → hi ≤ y.block) : NumsAt w' N ns := by
  intro i v hv
  have hne : ns ≠ [] := fun e => by rw [e] at hv; simp at hv
  obtain ⟨y, hy, hc⟩ := h i v hv
  have hyb : (y.add i).block = y.block := by cases i <;> rfl
  refine ⟨y, hy, (World.cell?_of_block ?_).trans hc⟩
  exact t.block _ (Go.block_lt_of_cell hc) (.inr (by rw [hyb]; exact hN hne y hy))
theorem one_end {w w4 : World} {lo hi : Nat} {d : PD} {s : PK} {m st ca : Int} {ns ns2 : List Nat} {wr : Int} {N : Option Addr} (R : Nat) (cs : Array Value) (r : Rng lo hi w w4) (hp : IsP w4 lo hi d s m st ca ns wr) (hn : NumsAt w4 N ns2) (hR : ns2 ≠ [] → ∀ y, N = some y → y.block ≠ R) (h1 : hi ≤ R) (h2 : w.heap.size ≤ R) :
    IsP (w4.setRow R cs) lo hi d s m st ca ns wr ∧ NumsAt (w4.setRow R cs) N ns2 ∧ Rng lo hi w (w4.setRow R cs) := by
  refine ⟨hp.apart (lo' := R) (hi' := R + 1) ⟨rfl, rfl, rfl, by simp, fun k _ h => setRow_other _ _ _ _ (by omega)⟩ (.inl h1), nums_row hn _ _ hR, ?_⟩
  exact ⟨r.os, r.tape, r.output, by simp [World.setRow]; exact r.size, fun k hk h => (setRow_other _ _ _ _ (by omega)).trans (r.block k hk h)⟩
section
attribute [-go_sem] storeVar loadVar
end

end Go.Proofs.Ytjdgpbjjhgfikaa.Pt
