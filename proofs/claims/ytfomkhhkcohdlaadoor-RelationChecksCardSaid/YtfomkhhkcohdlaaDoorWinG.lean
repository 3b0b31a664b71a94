
/- Windows: from where on, and up to where, one has ticks of a frame; whose a tick is. Condition: the windows' numbers may be, and the frame's. slices.Repeat of a single number. Condition: 1 to 1,000 times. -/

import Derived.Test.YtfomkhhkcohdlaaDoorWinR

import Derived.Test.YtfomkhhkcohdlaaDoorWinA

import Derived.Test.YtfomkhhkcohdlaaDoorRdrC

import Derived.Test.YtfomkhhkcohdlaaDoorFltO

import Derived.Test.YtfomkhhkcohdlaaDoorActR

import Derived.Test.YtfomkhhkcohdlaaDoorOctM

import Derived.OwnWalk

import Derived.Laws.CopyOwn

import Derived.Laws.OwnMore

import Derived.Deep.RegionHeld3

import Derived.BigRegion

import Derived.Deep.RegionLaw

namespace Go.Proofs.YtfomkhhkcohdlaaDoor.Win

open Go.RowKit Go.PlainAid Go.Proofs.YtfomkhhkcohdlaaDoor.Oct Go.Proofs.YtfomkhhkcohdlaaDoor.Flt Go.Proofs.YtfomkhhkcohdlaaDoor.Rdr Go.Proofs.YtfomkhhkcohdlaaDoor.Args

open Go.Proofs.YtfomkhhkcohdlaaDoor.Act (A3 actL flatA ActsAt I64 Wide)

set_option linter.unusedVariables false

set_option linter.unusedSimpArgs false

/-- Of two places the first is free; the ways are made shorter as they are gone. -/
def FPost (w : World) (B NB nc m : Nat) (S : Nat → Bool) (i : Nat) (e : Ending) (w' : World) : Prop :=
  ∃ (j : Nat) (nx : List Int), e = .returned (.int .i64 (j : Int)) ∧ FreeAt S m i j ∧ Ways nx S m ∧ w'.ownsRow B 3 1 (.slice (some ⟨NB, 0, none⟩) (m + 1) nc) (m + 1) (nx.map (Value.int .i64)) ∧ w.grownBy w' (some NB)
theorem grown_refl (w : World) (r : Option Nat) : w.grownBy w r := ⟨rfl, rfl, rfl, Nat.le_refl _, fun _ _ _ => rfl⟩
theorem grown_trans {a b c : World} {r : Option Nat} (h : a.grownBy b r) (k : b.grownBy c r) : a.grownBy c r := ⟨k.os.trans h.os, k.tape.trans h.tape, k.output.trans h.output, Nat.le_trans h.size k.size, fun q hq hne => (k.block q (Nat.lt_of_lt_of_le hq h.size) hne).trans (h.block q hq hne)⟩
def FRel (w : World) (B NB nc m : Nat) (S : Nat → Bool) (i : Nat) (v : Value) (wr : World) : Prop :=
  ∃ (k : Nat) (nx : List Int), v = .int .i64 (k : Int) ∧ i ≤ k ∧ k ≤ m ∧ (∀ q, i ≤ q → q < k → S q = true) ∧ Ways nx S m ∧ wr.ownsRow B 3 1 (.slice (some ⟨NB, 0, none⟩) (m + 1) nc) (m + 1) (nx.map (Value.int .i64)) ∧ w.grownBy wr (some NB)
end Go.Proofs.YtfomkhhkcohdlaaDoor.Win

namespace Go.Proofs.YtfomkhhkcohdlaaDoor.Win

open Go.RowKit Go.PlainAid Go.Proofs.YtfomkhhkcohdlaaDoor.Oct Go.Proofs.YtfomkhhkcohdlaaDoor.Flt Go.Proofs.YtfomkhhkcohdlaaDoor.Rdr Go.Proofs.YtfomkhhkcohdlaaDoor.Args

set_option linter.unusedVariables false

set_option linter.unusedSimpArgs false

theorem and_mask (n : Nat) (hn : n ≤ 1000) : bits .and .u64 (n : Int) 4294967295 = (n : Int) := by
  have h := u64_and_nat n 4294967295 (by omega) (by omega)
  rw [show ((4294967295 : Nat) : Int) = 4294967295 from rfl] at h
  rw [h, show (4294967295 : Nat) = 2 ^ 32 - 1 from rfl, Nat.and_two_pow_sub_one_eq_mod]
  congr 1
  omega
theorem u64_small (n : Int) (h0 : 0 ≤ n) (h1 : n ≤ 1000000) : IntKind.u64.wrap n = n := by
  unfold IntKind.wrap; simp [IntKind.bits, IntKind.signed]; omega
theorem info_int : (Tryd.prog.info? 3).map (fun i => (i.zero, i.size, i.bytes)) = some (some (.int .i64 0), 1, 8) := by kernel_rfl
theorem size_int : (Tryd.prog.info? 3).map (·.size) = some 1 := by kernel_rfl
/-- So many of a number, and zeros behind. -/
def rep (z : Int) (n k : Nat) : List Value := List.replicate k (.int .i64 z) ++ List.replicate (n - k) (.int .i64 0)
theorem rep_len (z : Int) {n k : Nat} (h : k ≤ n) : (rep z n k).length = n := by unfold rep; simp; omega
theorem rep_zero (z : Int) (n : Nat) : rep z n 0 = List.replicate n (.int .i64 0) := by unfold rep; simp
theorem rep_all (z : Int) (n : Nat) : rep z n n = List.replicate n (.int .i64 z) := by unfold rep; simp
theorem rep_get (z : Int) {n k j : Nat} (hj : j < k) : (rep z n k)[j]? = some (.int .i64 z) := by
  unfold rep; rw [List.getElem?_append_left (by simp; exact hj)]; simp [hj]
theorem rep_more (z : Int) {n k d : Nat} (h : k + d ≤ n) : (rep z n k).take k ++ (List.replicate d (.int .i64 z) ++ (rep z n k).drop (k + d)) = rep z n (k + d) := by
  unfold rep
  rw [List.take_left' (by simp), List.drop_append, List.drop_replicate, List.drop_replicate, List.length_replicate, show k - (k + d) = 0 by omega, show n - k - (k + d - k) = n - (k + d) by omega, List.replicate_zero, List.nil_append, ← List.append_assoc, List.replicate_append_replicate]
def RPRel (z : Int) (g n : Nat) (w : World) (v : Value) (wr : World) : Prop :=
  ∃ k : Nat, 1 ≤ k ∧ k ≤ n ∧ v = .int .i64 (k : Int) ∧ wr.heap[g]? = some (.cells (rep z n k).toArray 3 (0, 0)) ∧ Below w.heap.size w wr
end Go.Proofs.YtfomkhhkcohdlaaDoor.Win
