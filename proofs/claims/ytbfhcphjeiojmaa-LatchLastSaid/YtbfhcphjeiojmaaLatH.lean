
/- Calls that came in to a latch; what a round of them keeps. No condition. -/

import Derived.Test.YtbfhcphjeiojmaaLatG

namespace Go.Proofs.Ytbfhcphjeiojmaa.Lat

open Go.RowKit Go.PlainAid Go.Proofs.Ytbfhcphjeiojmaa.Args Go.Proofs.Ytbfhcphjeiojmaa.Cel Go.Proofs.Ytbfhcphjeiojmaa.Mpv

set_option linter.unusedVariables false

set_option linter.unusedSimpArgs false

structure O4 where
  b : Bool
  c : Int
  i : Int
  n : Int
def Op4At (w : World) (A : Option Addr) (l : List O4) : Prop :=
  ∀ i x, l[i]? = some x → I64 x.c ∧ I64 x.i ∧ ∃ y, A = some y ∧ w.cell? (y.add (i * 4)) = some (.bool x.b) ∧ w.cell? ⟨(y.add (i * 4)).block, (y.add (i * 4)).off + 1, none⟩ = some (.int .i64 x.c) ∧ w.cell? ⟨(y.add (i * 4)).block, (y.add (i * 4)).off + 2, none⟩ = some (.int .i64 x.i) ∧ w.cell? ⟨(y.add (i * 4)).block, (y.add (i * 4)).off + 3, none⟩ = some (.int .u64 x.n)
theorem Op4At.kept {w w' : World} {A : Option Addr} {l : List O4} (h : Op4At w A l) (b : Below w.heap.size w w') : Op4At w' A l := by
  intro i x hx
  obtain ⟨h0, h1, y, e, c0, c1, c2, c3⟩ := h i x hx
  exact ⟨h0, h1, y, e, (b.cell (Go.block_lt_of_cell c0)).trans c0, (b.cell (Go.block_lt_of_cell c1)).trans c1, (b.cell (Go.block_lt_of_cell c2)).trans c2, (b.cell (Go.block_lt_of_cell c3)).trans c3⟩
theorem ops4_in {w : World} {a : Option Addr} {len cap : Nat} (h : IsRecs w a len cap [.bool, .int .i64, .int .i64, .int .u64]) : ∃ l : List O4, l.length = len ∧ Op4At w a l ∧ len ≤ maxLen := by
  rcases h with ⟨rfl, rfl, rfl⟩ | ⟨y, rfl, hlc, hcm, hcell⟩
  · exact ⟨[], rfl, fun i x hx => by simp at hx, Nat.zero_le _⟩
  · obtain ⟨l, hl, hp⟩ := list_of (fun i (x : O4) => I64 x.c ∧ I64 x.i ∧ w.cell? (y.add (i * 4)) = some (.bool x.b) ∧ w.cell? ⟨(y.add (i * 4)).block, (y.add (i * 4)).off + 1, none⟩ = some (.int .i64 x.c) ∧ w.cell? ⟨(y.add (i * 4)).block, (y.add (i * 4)).off + 2, none⟩ = some (.int .i64 x.i) ∧ w.cell? ⟨(y.add (i * 4)).block, (y.add (i * 4)).off + 3, none⟩ = some (.int .u64 x.n)) len (by
      intro i hi
      obtain ⟨_, c0, b, rfl⟩ := hcell i hi 0 _ rfl
      obtain ⟨_, c1, c, rfl, hc⟩ := hcell i hi 1 _ rfl
      obtain ⟨_, c2, id, rfl, hid⟩ := hcell i hi 2 _ rfl
      obtain ⟨_, c3, n, rfl, hn⟩ := hcell i hi 3 _ rfl
      exact ⟨⟨b, c, id, n⟩, bounds_i64 hc, bounds_i64 hid, c0, c1, c2, c3⟩)
    exact ⟨l, hl, fun i x hx => ⟨(hp i x hx).1, (hp i x hx).2.1, y, rfl, (hp i x hx).2.2⟩, by omega⟩
theorem eq_stat (l c n : Int) (w : World) : (Op.equalIn 10000 50 (.agg #[.int .u64 l, .int .i64 c, .int .i64 n]) (.agg #[.int .u64 l, .int .i64 c, .int .i64 n])).run Try.prog w = .ok true w := by
  have hS : Try.prog.underlying 50 = some (.struct (Try.prog.fieldsOf 50)) := by kernel_rfl
  rw [show (10000 : Nat) = 9999 + 1 from rfl, run_equalIn_agg w 9999 50 _ _ hS (by kernel_rfl)]
  simp only [Program.fieldsOf, Try.underlying50]
  simp [go_sem]
theorem IsL.other {w w' : World} {B q a b c X : Nat} {s : Int → Bool} {t : P2 → Bool} {u : Int → Bool} {la cu nx : Int} (h : IsL w B q a b c s t u la cu nx) (j : JustL X w w') (ha : a < X) (hb : b < X) (hc : c < X) (hq : q < X) : IsL w' B q a b c s t u la cu nx :=
  ⟨(j.2.2.2.2 q (lt_of_block h.box) (by omega)).trans h.box, h.ms.kept (j.2.2.2.2 a h.ms.blk (by omega)), h.mt.kept (j.2.2.2.2 b h.mt.blk (by omega)), h.mu.kept (j.2.2.2.2 c h.mu.blk (by omega)), h.qB, h.aq, h.bq, h.cq⟩
theorem just_row (w : World) (X : Nat) (cs : Array Value) : JustL X w (w.setRow X cs) := ⟨rfl, rfl, rfl, by simp [World.setRow], fun k _ h1 => setRow_other _ _ _ _ (by omega)⟩
theorem code_zero {s : Int → Bool} {t : P2 → Bool} {u : Int → Bool} {caller cu id : Int} (h : codeR s t u caller cu id = 0) : t ⟨cu, id⟩ = true ∧ s id = true ∧ u caller = true := by
  unfold codeR at h
  by_cases h1 : s id = false
  · rw [if_pos h1] at h; cases h
  · rw [if_neg h1] at h
    by_cases h2 : u caller = false
    · rw [if_pos h2] at h; cases h
    · rw [if_neg h2] at h
      by_cases h3 : id = cu
      · rw [if_pos h3] at h; cases h
      · rw [if_neg h3] at h
        by_cases h4 : t ⟨cu, id⟩ = false
        · rw [if_pos h4] at h; cases h
        · exact ⟨by simpa using h4, by simpa using h1, by simpa using h2⟩
/-- The module's box M, the latch in q, its status as the law has it in X. -/
structure Rnd (w : World) (M B q a b c X : Nat) (cs : Array Value) (s : Int → Bool) (t : P2 → Bool) (u : Int → Bool) (la cu nx : Int) (W : World) : Prop where
  mb : W.heap[M]? = some (.cells cs 28 (0, 0))
  lt : IsL W B q a b c s t u la cu nx
  st : W.heap[X]? = some (.cells #[.int .u64 la, .int .i64 cu, .int .i64 nx] 50 (0, 0))
  ic : I64 cu
  ix : I64 nx
  way : nx = cu ∨ t ⟨cu, nx⟩ = true
  Mq : M < q
  aX : a < X
  bX : b < X
  cX : c < X
  qX : q < X
  wM : w.heap.size ≤ M
  bel : Below w.heap.size w W
theorem Rnd.keep {w : World} {M B q a b c X : Nat} {cs : Array Value} {s : Int → Bool} {t : P2 → Bool} {u : Int → Bool} {la cu nx : Int} {W W' : World} (h : Rnd w M B q a b c X cs s t u la cu nx W) (e : Below W.heap.size W W') : Rnd w M B q a b c X cs s t u la cu nx W' :=
  ⟨(e.block _ (lt_of_block h.mb)).trans h.mb, h.lt.keep e, (e.block _ (lt_of_block h.st)).trans h.st, h.ic, h.ix, h.way, h.Mq, h.aX, h.bX, h.cX, h.qX, h.wM, h.bel.trans (e.mono h.bel.size)⟩
/-- The latch moves on; the law's status not yet. -/
theorem Rnd.moved {w : World} {M B q a b c X : Nat} {cs : Array Value} {s : Int → Bool} {t : P2 → Bool} {u : Int → Bool} {la cu nx la' cu' nx' : Int} {W W' : World} (h : Rnd w M B q a b c X cs s t u la cu nx W) (hl : IsL W' B q a b c s t u la' cu' nx') (j : JustL q W W') :
    W'.heap[M]? = some (.cells cs 28 (0, 0)) ∧ W'.heap[X]? = some (.cells #[.int .u64 la, .int .i64 cu, .int .i64 nx] 50 (0, 0)) ∧ Below w.heap.size w W' :=
  ⟨(j.2.2.2.2 M (lt_of_block h.mb) (by have := h.Mq; omega)).trans h.mb, (j.2.2.2.2 X (lt_of_block h.st) (by have := h.qX; omega)).trans h.st, JustL.below h.bel j h.bel.size (by have := h.wM; have := h.Mq; omega)⟩
theorem Rnd.next {w : World} {M B q a b c X : Nat} {cs : Array Value} {s : Int → Bool} {t : P2 → Bool} {u : Int → Bool} {la cu nx la' cu' nx' : Int} {W W' W2 : World} (h : Rnd w M B q a b c X cs s t u la cu nx W) (hl : IsL W' B q a b c s t u la' cu' nx') (j : JustL q W W') (j2 : JustL X W' W2) (hx : W2.heap[X]? = some (.cells #[.int .u64 la', .int .i64 cu', .int .i64 nx'] 50 (0, 0)))
    (hic : I64 cu') (hix : I64 nx') (hw : nx' = cu' ∨ t ⟨cu', nx'⟩ = true) : Rnd w M B q a b c X cs s t u la' cu' nx' W2 := by
  obtain ⟨h1, h2, h3⟩ := h.moved hl j
  have hX := h.qX
  have hM := h.Mq
  have hwM := h.wM
  exact ⟨(j2.2.2.2.2 M (lt_of_block h1) (by omega)).trans h1, hl.other j2 h.aX h.bX h.cX h.qX, hx, hic, hix, hw, h.Mq, h.aX, h.bX, h.cX, h.qX, h.wM, JustL.below h3 j2 h3.size (by omega)⟩
theorem Rnd.cells {w : World} {M B q a b c X : Nat} {cs : Array Value} {s : Int → Bool} {t : P2 → Bool} {u : Int → Bool} {la cu nx : Int} {W : World} (h : Rnd w M B q a b c X cs s t u la cu nx W) : W.cell? ⟨X, 0, none⟩ = some (.int .u64 la) ∧ W.cell? ⟨X, 1, none⟩ = some (.int .i64 cu) ∧ W.cell? ⟨X, 2, none⟩ = some (.int .i64 nx) := by
  refine ⟨?_, ?_, ?_⟩ <;> rw [cell_of_row W _ _ _ _ _ h.st] <;> rfl
end Go.Proofs.Ytbfhcphjeiojmaa.Lat
