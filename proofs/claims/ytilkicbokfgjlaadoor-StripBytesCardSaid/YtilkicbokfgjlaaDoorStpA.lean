
/- A strip in memory: New, Len, Add. Condition: none. -/

import Derived.Test.YtilkicbokfgjlaaDoorStpM

import Derived.Test.YtilkicbokfgjlaaDoorTwoA

namespace Go.Proofs.YtilkicbokfgjlaaDoor.Stp

open Go.RowKit Go.PlainAid Go.Proofs.YtilkicbokfgjlaaDoor.Cel

set_option linter.unusedVariables false

set_option linter.unusedSimpArgs false

/-- Rows lie at an address. -/
def RAt (w : World) (A : Option Addr) (l : List RW) : Prop :=
  ∀ i x, l[i]? = some x → ∃ y, A = some y ∧ w.cell? (y.add (i * 2)) = some (.int .i64 x.i) ∧ w.cell? ⟨(y.add (i * 2)).block, (y.add (i * 2)).off + 1, none⟩ = some (.int .i64 x.c)
theorem RAt.kept {w w' : World} {A : Option Addr} {l : List RW} (h : RAt w A l) (b : Below w.heap.size w w') : RAt w' A l := by
  intro i x hx
  obtain ⟨y, e, h1, h2⟩ := h i x hx
  exact ⟨y, e, (b.cell (Go.block_lt_of_cell h1)).trans h1, (b.cell (Go.block_lt_of_cell h2)).trans h2⟩
theorem add_more (y : Addr) (n m : Nat) (h : 0 < m) : (⟨(y.add n).block, (y.add n).off + m, none⟩ : Addr) = y.add (n + m) := by
  obtain ⟨b, o, s⟩ := y
  cases n with
  | zero => cases m with
    | zero => omega
    | succ m => simp [Addr.add]
  | succ n => cases m with
    | zero => omega
    | succ m => simp [Addr.add]; omega
theorem cells_flat {w : World} {y : Addr} {l : List RW} (h : RAt w (some y) l) : ∀ j v, (flatR l)[j]? = some v → w.cell? (y.add j) = some v := by
  intro j v hj
  have hjl : j < l.length * 2 := by rw [← flatR_len]; exact (List.getElem?_eq_some_iff.1 hj).1
  obtain ⟨x, hx⟩ : ∃ x, l[j / 2]? = some x := ⟨_, List.getElem?_eq_getElem (by omega)⟩
  obtain ⟨y', hy, c1, c2⟩ := h (j / 2) x hx
  obtain rfl := Option.some.inj hy
  have hg := flatR_get l (j / 2) x (j % 2) hx (by omega)
  rw [show j / 2 * 2 + j % 2 = j by omega, hj] at hg
  rcases (show j % 2 = 0 ∨ j % 2 = 1 by omega) with h0 | h0
  · rw [h0] at hg
    rw [show j = j / 2 * 2 by omega, c1]
    exact hg.symm
  · rw [h0] at hg
    rw [add_more _ _ _ (by omega)] at c2
    rw [show j = j / 2 * 2 + 1 by omega, c2]
    exact hg.symm
theorem own_rat {w : World} {B e n c : Nat} {A : Option Addr} {l : List RW} (h : w.ownsRow B e 2 (.slice A n c) n (flatR l)) : RAt w A l := by
  intro i x hx
  have hil := (List.getElem?_eq_some_iff.1 hx).1
  have hn : n * 2 = l.length * 2 := by rw [← flatR_len]; exact h.1.symm
  rcases h.2 with ⟨h0, h1⟩ | ⟨g, cap, cur, h0, _⟩
  · omega
  · injection h0 with h1 h2 h3
    subst h1
    refine ⟨_, rfl, ?_, ?_⟩
    · have := (h.cellAt (i * 2) (by omega)).trans (flatR_get l i x 0 hx (by omega))
      have e : (Addr.mk g 0 none).add (i * 2) = ⟨g, i * 2, none⟩ := by cases i <;> simp [Addr.add]
      rw [e]; exact this
    · have := (h.cellAt (i * 2 + 1) (by omega)).trans (flatR_get l i x 1 hx (by omega))
      have e : (Addr.mk g 0 none).add (i * 2) = ⟨g, i * 2, none⟩ := by cases i <;> simp [Addr.add]
      rw [e]; exact this
/-- Just strips and their runs have changed, none below B. -/
structure Chg (B : Nat) (w w' : World) : Prop where
  os : w'.os = w.os
  tape : w'.tape = w.tape
  output : w'.output = w.output
  size : w.heap.size ≤ w'.heap.size
  low : ∀ k, k < B → k < w.heap.size → w'.heap[k]? = w.heap[k]?
  block : ∀ k, k < w.heap.size → (∀ cs t r, w.heap[k]? = some (.cells cs t r) → t ≠ 80 ∧ t ≠ 78) → w'.heap[k]? = w.heap[k]?
theorem Chg.refl (B : Nat) (w : World) : Chg B w w := ⟨rfl, rfl, rfl, Nat.le_refl _, fun _ _ _ => rfl, fun _ _ _ => rfl⟩
theorem Chg.trans {B : Nat} {a b c : World} (h : Chg B a b) (k : Chg B b c) : Chg B a c :=
  ⟨k.os.trans h.os, k.tape.trans h.tape, k.output.trans h.output, Nat.le_trans h.size k.size, fun i hi hs => (k.low i hi (Nat.lt_of_lt_of_le hs h.size)).trans (h.low i hi hs), fun i hi ht => (k.block i (Nat.lt_of_lt_of_le hi h.size) (by rw [h.block i hi ht]; exact ht)).trans (h.block i hi ht)⟩
theorem Chg.of {B : Nat} {w w' : World} (b : Below w.heap.size w w') : Chg B w w' := ⟨b.os, b.tape, b.output, b.size, fun k _ hk => b.block k hk, fun k hk _ => b.block k hk⟩
theorem Chg.below {B : Nat} {w0 w w' : World} (h : Below B w0 w) (k : Chg B w w') (hB : B ≤ w.heap.size) : Below B w0 w' :=
  ⟨k.os.trans h.os, k.tape.trans h.tape, k.output.trans h.output, Nat.le_trans h.size k.size, fun i hi => (k.low i hi (by omega)).trans (h.block i hi)⟩
theorem Chg.less {B B' : Nat} {w w' : World} (h : Chg B w w') (hB : B' ≤ B) : Chg B' w w' := ⟨h.os, h.tape, h.output, h.size, fun k hk hs => h.low k (by omega) hs, h.block⟩
theorem Chg.own {B B' e s n : Nat} {v : Value} {xs : List Value} {w w' : World} (k : Chg B w w') (h : w.ownsRow B' e s v n xs) (he : e ≠ 80 ∧ e ≠ 78) : w'.ownsRow B' e s v n xs := by
  refine ⟨h.1, ?_⟩
  rcases h.2 with h | ⟨g, cap, cur, h1, h2, h3, h4⟩
  · exact .inl h
  · exact .inr ⟨g, cap, cur, h1, h2, (k.block g (lt_of_block h3) (fun cs t r e' => by rw [h3] at e'; simp only [Option.some.injEq, Obj.cells.injEq] at e'; rw [← e'.2.1]; exact he)).trans h3, h4⟩
/-- A strip in block g, its rows. -/
structure IsS (w : World) (B g : Nat) (A : Option Addr) (c : Nat) (X : List RW) : Prop where
  box : w.heap[g]? = some (.cells #[.slice A X.length c] 80 (0, 0))
  own : w.ownsRow B 78 2 (.slice A X.length c) X.length (flatR (runsF 0 X))
  low : B ≤ g
  gsz : B ≤ w.heap.size
def IsSt (w : World) (B g : Nat) (X : List RW) : Prop := ∃ A c, IsS w B g A c X
section

variable {w w' : World} {B g : Nat} {A : Option Addr} {c : Nat} {X : List RW}

theorem IsS.keep (h : IsS w B g A c X) (b : Below w.heap.size w w') : IsS w' B g A c X :=
  ⟨(b.block _ (lt_of_block h.box)).trans h.box, own_keep h.own b, h.low, Nat.le_trans h.gsz b.size⟩
theorem IsSt.keep (h : IsSt w B g X) (b : Below w.heap.size w w') : IsSt w' B g X := by
  obtain ⟨A, c, h⟩ := h
  exact ⟨A, c, h.keep b⟩
theorem IsS.base {B' : Nat} (h : IsS w B g A c X) (hB : B' ≤ B) : IsS w B' g A c X := ⟨h.box, own_base h.own hB, Nat.le_trans hB h.low, Nat.le_trans hB h.gsz⟩
theorem IsSt.base {B' : Nat} (h : IsSt w B g X) (hB : B' ≤ B) : IsSt w B' g X := by
  obtain ⟨A, c, h⟩ := h
  exact ⟨A, c, h.base hB⟩
theorem IsS.cell (h : IsS w B g A c X) : w.cell? ⟨g, 0, none⟩ = some (.slice A X.length c) := by rw [cell_of_row w _ _ _ _ _ h.box]; rfl
theorem IsS.free (h : IsS w B g A c X) (o : Nat) : w.frozen? ⟨g, o, none⟩ = false := by simp [World.frozen?, h.box]
theorem IsS.rat (h : IsS w B g A c X) : RAt w A (runsF 0 X) := own_rat h.own
theorem IsS.lt (h : IsS w B g A c X) : g < w.heap.size := lt_of_block h.box
theorem IsS.apart (h : IsS w B g A c X) : ∀ a, A = some a → a.block ≠ g ∧ a = ⟨a.block, 0, none⟩ ∧ B ≤ a.block ∧ a.block < w.heap.size := by
  intro a ha
  obtain ⟨h1, h2, h3⟩ := own_at h.own a ha
  refine ⟨fun e => ?_, h1, h2, h3⟩
  rcases h.own.2 with ⟨h0, _⟩ | ⟨q, c', cur, h0, _, h5, _⟩
  · injection h0 with h4; subst ha; cases h4
  · injection h0 with h4
    subst ha
    obtain rfl := Option.some.inj h4
    dsimp only at e
    rw [e, h.box] at h5
    simp only [Option.some.injEq, Obj.cells.injEq] at h5
    exact absurd h5.2.1 (by decide)
/-- A strip that is kept while another one changes. -/
theorem IsS.other {B' : Nat} (h : IsS w B g A c X) (k : Chg B' w w') (hB : w.heap.size ≤ B') : IsS w' B g A c X :=
  h.keep ⟨k.os, k.tape, k.output, k.size, fun i hi => k.low i (by omega) hi⟩
end

theorem below_n (w : World) (n : Nat) : Below w.heap.size w (w.drewN n) := ⟨rfl, rfl, rfl, Nat.le_refl _, fun _ _ => rfl⟩
theorem infoRun : (Tryd.prog.info? 78).map (fun i => (i.zero, i.size, i.bytes)) = some (some (.agg #[.int .i64 0, .int .i64 0]), 2, 16) := by kernel_rfl
theorem new_any (w : World) : Calls Tryd.prog 17 #[] w fun e w' => e = .returned (.pointer (some ⟨w.heap.size, 0, none⟩)) ∧ IsSt w' w.heap.size w.heap.size [] ∧ w.heap.size < w'.heap.size ∧ Below w.heap.size w w' := by
  go_enter Tryd.func17, Tryd.ntmps17
  go_wp2
  go_ret
  exact ⟨rfl, ⟨none, 0, heap_alloc_new w _, World.ownsRow_nil _ _ _ _, Nat.le_refl _, by simp⟩, by simp, (Below.refl _ _).alloc (Nat.le_refl _) _⟩
set_option maxRecDepth 4000 in
theorem len_any (w : World) (B g : Nat) (A : Option Addr) (c : Nat) (X : List RW) (h : IsS w B g A c X) (ho : OkX X) :
    Calls Tryd.prog 30 #[.pointer (some ⟨g, 0, none⟩)] w fun e w' => e = .returned (.int .i64 (sumR X)) ∧ ∃ n, w' = w.drewN n := by
  have c0 := h.cell
  rcases snoc_cases X with rfl | ⟨Y, y, rfl⟩
  · clear h ho
    go_enter Tryd.func30, Tryd.ntmps30
    go_wp2
    go_ret
    exact ⟨rfl, 0, rfl⟩
  · have hk : (runsF 0 (Y ++ [y]))[Y.length]? = some ⟨y.i, 0 + sumR Y + y.c⟩ := by rw [runsF_snoc, List.getElem?_append_right (by rw [runsF_len]; exact Nat.le_refl _), runsF_len]; simp
    obtain ⟨ax, rfl, _, c2⟩ := h.rat _ _ hk
    dsimp only at c2
    have hlen := ho.len
    rw [List.length_append, List.length_singleton] at c0 hlen
    rw [sumR_snoc]
    rw [show (0 : Int) + sumR Y + y.c = sumR Y + y.c by omega] at c2
    obtain ⟨v, hv⟩ : ∃ v, sumR Y + y.c = v := ⟨_, rfl⟩
    rw [hv] at c2 ⊢
    obtain ⟨m, hm⟩ : ∃ m, Y.length = m := ⟨_, rfl⟩
    rw [hm] at c0 c2 hlen
    obtain ⟨n, hn⟩ : ∃ n, m + 1 = n := ⟨_, rfl⟩
    rw [hn] at c0 hlen
    have hw1 : IntKind.i64.wrap ((n : Int) - 1) = (m : Int) := by rw [show (n : Int) - 1 = m by omega]; exact IntWalk.i64_in _ (by omega)
    have h0 : (0 : Int) ≤ m := by omega
    have h1 : (m : Int) < n := by omega
    have hz : ((n : Int) == 0) = false := by simp; omega
    have hz2 : (n == 0) = false := by simp; omega
    clear h ho hk hv hm hn
    go_enter Tryd.func30, Tryd.ntmps30
    go_wp2
    go_region
    all_goals
      go_wp2
      go_ret
      exact ⟨rfl, 1, rfl⟩
end Go.Proofs.YtilkicbokfgjlaaDoor.Stp
