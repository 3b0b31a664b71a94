
/- Numbers in their order, anew: slices.Sorted of slices.Values. No condition but that there are at most 2 to the power 40. -/

import Derived.RangeFuncBox

import Derived.RangeFuncLeaves

import Derived.Shelf.Abstract

import Derived.WalkKit

import Derived.OwnWalkIn

import Derived.TacticsInMore

import Derived.LoopNIn

import Derived.LoopIn

import Derived.Maps.AppendAt

import Derived.Sort.OwnSortedInts

import Derived.Test.YteefmdelacihfaaActR

import Derived.Test.YteefmdelacihfaaShelf

namespace Go.Proofs.Yteefmdelacihfaa.Win

open Go.RowKit Go.PlainAid Go.Shelf Go.Proofs.Yteefmdelacihfaa.Oct Go.Proofs.Yteefmdelacihfaa.Flt Go.Proofs.Yteefmdelacihfaa.Rdr Go.Proofs.Yteefmdelacihfaa.Args

set_option linter.unusedVariables false

set_option linter.unusedSimpArgs false
attribute [local go_sem] Oper.semAt_some

/-- The first k of numbers. -/
def upZ (zs : List Int) (k : Nat) : List Int := (List.range k).map fun j => zs[j]?.getD 0
theorem upZ_succ (zs : List Int) (k : Nat) : upZ zs (k + 1) = upZ zs k ++ [zs[k]?.getD 0] := by simp [upZ, List.range_succ]
theorem upZ_len (zs : List Int) (k : Nat) : (upZ zs k).length = k := by simp [upZ]
theorem upZ_all (zs : List Int) : upZ zs zs.length = zs := by
  apply List.ext_getElem
  · simp [upZ]
  · intro i h1 h2
    simp [upZ, h2]
theorem upZ_take (zs : List Int) {k : Nat} (hk : k ≤ zs.length) : upZ zs k = zs.take k := by
  apply List.ext_getElem
  · simp [upZ, hk]
  · intro i h1 h2
    have : i < zs.length := by simp [upZ] at h1; omega
    simp [upZ, this]
theorem add_block (y : Addr) (j : Nat) : (y.add j).block = y.block := by unfold Addr.add; split <;> rfl
/-- A slice of numbers, below a block; or none. -/
def IntsBelow (n₀ : Nat) (W : World) (sv : Value) (zs : List Int) : Prop :=
  (sv = .slice none 0 0 ∧ zs = []) ∨ ∃ (y : Addr) (cap : Nat), sv = .slice (some y) zs.length cap ∧ (0 < zs.length → y.block < n₀) ∧ ∀ j, j < zs.length → W.cell? (y.add j) = some (.int .i64 (zs[j]?.getD 0))
theorem IntsBelow.below {n₀ : Nat} {A B : World} (h : Below n₀ A B) {sv : Value} {zs : List Int} : IntsBelow n₀ A sv zs → IntsBelow n₀ B sv zs
  | .inl e => .inl e
  | .inr ⟨y, cap, e, hb, hc⟩ => .inr ⟨y, cap, e, hb, fun j hj => (h.cell (by rw [add_block]; exact hb (by omega))).trans (hc j hj)⟩
theorem infoInt : (Try.prog.info? 3).map (fun i => (i.zero, i.size, i.bytes)) = some (some (.int .i64 0), 1, 8) := by kernel_rfl
/-- A row of the call's own that holds numbers, nil just where there is none. -/
def OwnsZ (B : Nat) (zs : List Int) (v : Value) (W : World) : Prop := W.ownsRow B 3 1 v zs.length (zs.map (Value.int .i64)) ∧ (v = .slice none 0 0 ↔ zs = [])
def sortZ (zs : List Int) : List Int := zs.mergeSort fun x y => decide (x ≤ y)
theorem sortZ_mem (zs : List Int) (x : Int) : x ∈ sortZ zs ↔ x ∈ zs := (List.mergeSort_perm zs _).mem_iff
theorem sortZ_rises (zs : List Int) : (sortZ zs).Pairwise (· ≤ ·) := by
  have := List.pairwise_mergeSort (le := fun x y : Int => decide (x ≤ y)) (fun a b c h1 h2 => by simp at *; omega) (fun a b => by simp; omega) zs
  exact this.imp fun h => by simpa using h
theorem sortZ_len (zs : List Int) : (sortZ zs).length = zs.length := List.length_mergeSort zs
/-- Numbers of the call's own, sorted. -/
theorem sort_own (g cap B : Nat) (zs : List Int) (w : World) (h : w.ownsRow B 3 1 (.slice (some ⟨g, 0, none⟩) zs.length cap) zs.length (zs.map (Value.int .i64))) (hl : zs.length < 4611686018427387904) :
    Calls Try.prog 38 #[.slice (some ⟨g, 0, none⟩) zs.length cap] w fun e w' => e = .returned (.tuple #[]) ∧ w'.ownsRow B 3 1 (.slice (some ⟨g, 0, none⟩) zs.length cap) zs.length ((sortZ zs).map (Value.int .i64)) ∧ w.grownBy w' (some g) := by
  rcases h.2 with ⟨h0, _⟩ | ⟨g', cap', cur, e, hb, hg, h1, h2, h3, h4⟩
  · cases h0
  · cases e
    refine (Try.slices_Sort_int g 0 cap zs w (Go.holds_of_blockI hg (by rw [← h4, Nat.mul_one])) (lt_of_block hg) hl).mono ?_
    rintro e w' ⟨rfl, n, os, rfl⟩
    exact ⟨rfl, Go.ownsRow_sortedI (List.length_mergeSort zs) hb hg h1 h2 h3, Go.grownBy_sortedI _⟩
end Go.Proofs.Yteefmdelacihfaa.Win
