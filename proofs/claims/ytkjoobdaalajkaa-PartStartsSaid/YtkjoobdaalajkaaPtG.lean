
/- A partition of the program's, and the document's in a box: what the laws hold of both while they walk. Condition: at most a thousand cells. -/

import Derived.Test.YtkjoobdaalajkaaPtF

namespace Go.Proofs.Ytkjoobdaalajkaa.Pt

open Go.RowKit Go.PlainAid Go.Proofs.Ytkjoobdaalajkaa.Args Go.Proofs.Ytkjoobdaalajkaa.Cel

open Go.Proofs.Ytkjoobdaalajkaa.Mod (askN startN setM setS actN actM actS size_ch)

set_option linter.unusedVariables false

set_option linter.unusedSimpArgs false

structure PX (w0 : World) (B lo hi : Nat) (d : PD) (s : PK) (a : Option Addr) (cap Y : Nat) (m st ca : Int) (ns : List Nat) (wr : Int) (N : Option Addr) (ns2 : List Nat) (cs : Array Value) (W : World) : Prop where
  ip : IsP W lo hi d s m st ca ns wr
  num : NumsAt W N ns2
  nl : ns2.length = s.n
  nhi : ns2 ≠ [] → ∀ y, N = some y → hi ≤ y.block ∧ y.block ≠ Y
  box : W.heap[Y]? = some (.cells cs 33 (0, 0))
  abox : W.heap[B]? = some (.cells #[.int .i64 s.id, .string s.nm, .bool s.may, .slice a s.n cap] 24 (0, 0))
  below : Below w0.heap.size w0 W
  yhi : hi ≤ Y
  bl : B < lo
  blo : w0.heap.size ≤ B
section

variable {w0 W W' : World} {B lo hi : Nat} {d : PD} {s : PK} {a : Option Addr} {cap Y : Nat} {m st ca : Int} {ns : List Nat} {wr : Int} {N : Option Addr} {ns2 : List Nat} {cs : Array Value}

theorem PX.keep (h : PX w0 B lo hi d s a cap Y m st ca ns wr N ns2 cs W) (b : Below W.heap.size W W') : PX w0 B lo hi d s a cap Y m st ca ns wr N ns2 cs W' :=
  ⟨h.ip.keep b, h.num.kept b, h.nl, h.nhi, (b.block _ (lt_of_block h.box)).trans h.box, (b.block _ (lt_of_block h.abox)).trans h.abox, h.below.trans (b.mono h.below.size), h.yhi, h.bl, h.blo⟩
theorem PX.drewN (h : PX w0 B lo hi d s a cap Y m st ca ns wr N ns2 cs W) (k : Nat) : PX w0 B lo hi d s a cap Y m st ca ns wr N ns2 cs (W.drewN k) := h.keep ⟨rfl, rfl, rfl, Nat.le_refl _, fun _ _ => rfl⟩
theorem PX.rest (h : PX w0 B lo hi d s a cap Y m st ca ns wr N ns2 cs W) (t : Rng lo hi W W') : W'.heap[Y]? = some (.cells cs 33 (0, 0)) ∧ W'.heap[B]? = some (.cells #[.int .i64 s.id, .string s.nm, .bool s.may, .slice a s.n cap] 24 (0, 0)) ∧ Below w0.heap.size w0 W' :=
  ⟨(t.block _ (lt_of_block h.box) (.inr h.yhi)).trans h.box, (t.block _ (lt_of_block h.abox) (.inl h.bl)).trans h.abox, t.below h.below h.below.size (Nat.le_of_lt (Nat.lt_of_le_of_lt h.blo h.bl))⟩
/-- The program's alone has changed. -/
theorem PX.prog {m' st' ca' : Int} {ns' : List Nat} {wr' : Int} (h : PX w0 B lo hi d s a cap Y m st ca ns wr N ns2 cs W) (i : IsP W' lo hi d s m' st' ca' ns' wr') (t : Rng lo hi W W') : PX w0 B lo hi d s a cap Y m' st' ca' ns' wr' N ns2 cs W' :=
  ⟨i, nums_rng h.num t (fun hn y hy => (h.nhi hn y hy).1), h.nl, h.nhi, (h.rest t).1, (h.rest t).2.1, (h.rest t).2.2, h.yhi, h.bl, h.blo⟩
/-- Both have. -/
theorem PX.both {m' st' ca' : Int} {ns' : List Nat} {wr' : Int} {N' : Option Addr} {ns3 : List Nat} (h : PX w0 B lo hi d s a cap Y m st ca ns wr N ns2 cs W) (i : IsP W' lo hi d s m' st' ca' ns' wr') (hn : NumsAt W' N' ns3) (hl : ns3.length = s.n) (hh : ns3 ≠ [] → ∀ y, N' = some y → hi ≤ y.block) (hne : ns3 ≠ [] → ns2 ≠ []) (ho : ∀ y, N' = some y → W.heap.size ≤ y.block ∨ N = some y) (t : Rng lo hi W W') :
    PX w0 B lo hi d s a cap Y m' st' ca' ns' wr' N' ns3 cs W' :=
  ⟨i, hn, hl, fun hq y hy => ⟨hh hq y hy, by
    rcases ho y hy with h1 | h1
    · have := lt_of_block h.box; omega
    · exact (h.nhi (hne hq) y h1).2⟩, (h.rest t).1, (h.rest t).2.1, (h.rest t).2.2, h.yhi, h.bl, h.blo⟩
theorem PX.setx (h : PX w0 B lo hi d s a cap Y m st ca ns wr N ns2 cs W) (cs' : Array Value) : PX w0 B lo hi d s a cap Y m st ca ns wr N ns2 cs' (W.setRow Y cs') := by
  have hbl := h.bl
  have hyh := h.yhi
  have hlo := Nat.lt_of_le_of_lt h.ip.glo h.ip.ghi
  refine ⟨h.ip.apart (lo' := Y) (hi' := Y + 1) ⟨rfl, rfl, rfl, by simp [World.setRow], fun k _ hk => setRow_other _ _ _ _ (by omega)⟩ (.inl h.yhi), nums_row h.num _ _ (fun hq y hy => (h.nhi hq y hy).2), h.nl, h.nhi, setRow_heap _ _ _ _ _ _ h.box, (setRow_other _ _ _ _ (by omega)).trans h.abox, ?_, h.yhi, h.bl, h.blo⟩
  exact h.below.trans ⟨rfl, rfl, rfl, by simp [World.setRow], fun b hb => setRow_other _ _ _ _ (by have := h.blo; omega)⟩
end

theorem set0 {m : Int} (h : 0 ≤ m ∧ m ≤ 3) : setM m 0 = 0 ∧ setS m 0 = 0 := by
  have hc : m = 0 ∨ m = 1 ∨ m = 2 ∨ m = 3 := by omega
  rcases hc with rfl | rfl | rfl | rfl <;> decide
theorem size_ap : (Try.prog.info? 24).map (·.size) = some 4 := by kernel_rfl
theorem size_op : (Try.prog.info? 37).map (·.size) = some 3 := by kernel_rfl
theorem same_self (x : Sh) : sameSh x x = true := decide_eq_true ⟨rfl, rfl, rfl, rfl, rfl⟩
end Go.Proofs.Ytkjoobdaalajkaa.Pt
