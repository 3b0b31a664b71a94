/- Windows: from where on, and up to where, one has ticks of a frame; whose a tick is. Condition: the windows' numbers may be, and the frame's. slices.Repeat of a single number. Condition: 1 to 1,000 times. Windows: the cuts of a frame, rising. Condition: at most 1,000 windows of plain numbers, a frame of 0 to 1,048,576. -/
import Derived.Test.YtnngldkpkhabeaaMg23
import Derived.Test.YtnngldkpkhabeaaMg21
import Derived.Test.YtnngldkpkhabeaaMg06
import Derived.Test.YtnngldkpkhabeaaMg02
import Derived.Test.YtnngldkpkhabeaaMg10
import Derived.Test.YtnngldkpkhabeaaMg03
import Derived.OwnWalk
import Derived.Laws.CopyOwn
import Derived.Laws.OwnMore
import Derived.Deep.RegionHeld3
import Derived.BigRegion
import Derived.Deep.RegionLaw
import Derived.Test.YtnngldkpkhabeaaMg22
import Derived.Test.YtnngldkpkhabeaaMg05
namespace Go.Proofs.Ytnngldkpkhabeaa.Win

open Go.RowKit Go.PlainAid Go.Proofs.Ytnngldkpkhabeaa.Oct Go.Proofs.Ytnngldkpkhabeaa.Flt Go.Proofs.Ytnngldkpkhabeaa.Rdr Go.Proofs.Ytnngldkpkhabeaa.Args

open Go.Proofs.Ytnngldkpkhabeaa.Act (A3 actL flatA ActsAt I64 Wide)

set_option linter.unusedVariables false

set_option linter.unusedSimpArgs false

/-- Of two places the first is free; the ways are made shorter as they are gone. -/
def FPost (w : World) (B NB nc m : Nat) (S : Nat → Bool) (i : Nat) (e : Ending) (w' : World) : Prop :=
  ∃ (j : Nat) (nx : List Int), e = .returned (.int .i64 (j : Int)) ∧ FreeAt S m i j ∧ Ways nx S m ∧ w'.ownsRow B 3 1 (.slice (some ⟨NB, 0, none⟩) (m + 1) nc) (m + 1) (nx.map (Value.int .i64)) ∧ w.grownBy w' (some NB)
theorem grown_refl (w : World) (r : Option Nat) : w.grownBy w r := ⟨rfl, rfl, rfl, Nat.le_refl _, fun _ _ _ => rfl⟩
theorem grown_trans {a b c : World} {r : Option Nat} (h : a.grownBy b r) (k : b.grownBy c r) : a.grownBy c r := ⟨k.os.trans h.os, k.tape.trans h.tape, k.output.trans h.output, Nat.le_trans h.size k.size, fun q hq hne => (k.block q (Nat.lt_of_lt_of_le hq h.size) hne).trans (h.block q hq hne)⟩
def FRel (w : World) (B NB nc m : Nat) (S : Nat → Bool) (i : Nat) (v : Value) (wr : World) : Prop :=
  ∃ (k : Nat) (nx : List Int), v = .int .i64 (k : Int) ∧ i ≤ k ∧ k ≤ m ∧ (∀ q, i ≤ q → q < k → S q = true) ∧ Ways nx S m ∧ wr.ownsRow B 3 1 (.slice (some ⟨NB, 0, none⟩) (m + 1) nc) (m + 1) (nx.map (Value.int .i64)) ∧ w.grownBy wr (some NB)
end Go.Proofs.Ytnngldkpkhabeaa.Win

namespace Go.Proofs.Ytnngldkpkhabeaa.Win

open Go.RowKit Go.PlainAid Go.Proofs.Ytnngldkpkhabeaa.Oct Go.Proofs.Ytnngldkpkhabeaa.Flt Go.Proofs.Ytnngldkpkhabeaa.Rdr Go.Proofs.Ytnngldkpkhabeaa.Args

set_option linter.unusedVariables false

set_option linter.unusedSimpArgs false

theorem and_mask (n : Nat) (hn : n ≤ 1000) : bits .and .u64 (n : Int) 4294967295 = (n : Int) := by
  have h := u64_and_nat n 4294967295 (by omega) (by omega)
  rw [show ((4294967295 : Nat) : Int) = 4294967295 from rfl] at h
  rw [h, show (4294967295 : Nat) = 2 ^ 32 - 1 from rfl, Nat.and_two_pow_sub_one_eq_mod]
  congr 1
  omega
theorem u64_small (n : Int) (h0 : 0 ≤ n) (h1 : n ≤ 1000000) : IntKind.u64.wrap n = n := by
  unfold IntKind.wrap; simp [IntKind.bits, IntKind.signed]; omega
theorem info_int : (Try.prog.info? 3).map (fun i => (i.zero, i.size, i.bytes)) = some (some (.int .i64 0), 1, 8) := by kernel_rfl
theorem size_int : (Try.prog.info? 3).map (·.size) = some 1 := by kernel_rfl
/-- So many of a number, and zeros behind. -/
def rep (z : Int) (n k : Nat) : List Value := List.replicate k (.int .i64 z) ++ List.replicate (n - k) (.int .i64 0)
theorem rep_len (z : Int) {n k : Nat} (h : k ≤ n) : (rep z n k).length = n := by unfold rep; simp; omega
theorem rep_zero (z : Int) (n : Nat) : rep z n 0 = List.replicate n (.int .i64 0) := by unfold rep; simp
theorem rep_all (z : Int) (n : Nat) : rep z n n = List.replicate n (.int .i64 z) := by unfold rep; simp
theorem rep_get (z : Int) {n k j : Nat} (hj : j < k) : (rep z n k)[j]? = some (.int .i64 z) := by
  unfold rep; rw [List.getElem?_append_left (by simp; exact hj)]; simp [hj]
theorem rep_more (z : Int) {n k d : Nat} (h : k + d ≤ n) : (rep z n k).take k ++ (List.replicate d (.int .i64 z) ++ (rep z n k).drop (k + d)) = rep z n (k + d) := by
  unfold rep
  rw [List.take_left' (by simp), List.drop_append, List.drop_replicate, List.drop_replicate, List.length_replicate, show k - (k + d) = 0 by omega, show n - k - (k + d - k) = n - (k + d) by omega, List.replicate_zero, List.nil_append, ← List.append_assoc, List.replicate_append_replicate]
def RPRel (z : Int) (g n : Nat) (w : World) (v : Value) (wr : World) : Prop :=
  ∃ k : Nat, 1 ≤ k ∧ k ≤ n ∧ v = .int .i64 (k : Int) ∧ wr.heap[g]? = some (.cells (rep z n k).toArray 3 (0, 0)) ∧ Below w.heap.size w wr
end Go.Proofs.Ytnngldkpkhabeaa.Win
namespace Go.Proofs.Ytnngldkpkhabeaa.Win

open Go.RowKit Go.PlainAid Go.Proofs.Ytnngldkpkhabeaa.Oct Go.Proofs.Ytnngldkpkhabeaa.Flt Go.Proofs.Ytnngldkpkhabeaa.Rdr Go.Proofs.Ytnngldkpkhabeaa.Args

open Go.Proofs.Ytnngldkpkhabeaa.Act (A3 actL flatA ActsAt I64 Wide row_beside row_base)

set_option linter.unusedVariables false

set_option linter.unusedSimpArgs false

/-- All of the cuts, in the order of the windows. -/
def cutL (fr : Int) (l : List A3) : List Int := [0, fr] ++ l.flatMap fun x => [fW fr x, tW fr x]
theorem cutL_nil (fr : Int) : cutL fr [] = [0, fr] := rfl
theorem cutL_snoc (fr : Int) (l : List A3) (x : A3) : cutL fr (l ++ [x]) = cutL fr l ++ [fW fr x, tW fr x] := by simp [cutL]
theorem cutL_len (fr : Int) (l : List A3) : (cutL fr l).length = 2 + 2 * l.length := by
  induction l with
  | nil => rfl
  | cons x l ih => simp [cutL] at ih ⊢; omega
theorem cutL_mem (fr : Int) (l : List A3) (v : Int) : v ∈ cutL fr l ↔ v = 0 ∨ v = fr ∨ ∃ x ∈ l, v = fW fr x ∨ v = tW fr x := by simp [cutL]
def cutsOf (fr : Int) (l : List A3) : List Int := Lib.compact (sortZ (cutL fr l))
theorem cutsOf_mem (fr : Int) (l : List A3) (v : Int) : v ∈ cutsOf fr l ↔ v = 0 ∨ v = fr ∨ ∃ x ∈ l, v = fW fr x ∨ v = tW fr x := by
  unfold cutsOf
  rw [(compact_rises _ (sortZ_rises _)).2, sortZ_mem, cutL_mem]
theorem cutsOf_cuts (fr : Int) (l : List A3) (hf : 0 ≤ fr) (hn : ∀ x ∈ l, Num x) : Cuts (cutsOf fr l) fr := by
  refine ⟨(compact_rises _ (sortZ_rises _)).1, fun v hv => ?_, (cutsOf_mem _ _ _).2 (.inl rfl), (cutsOf_mem _ _ _).2 (.inr (.inl rfl))⟩
  rcases (cutsOf_mem _ _ _).1 hv with rfl | rfl | ⟨x, hx, rfl | rfl⟩
  · exact ⟨Int.le_refl _, hf⟩
  · exact ⟨hf, Int.le_refl _⟩
  · exact fW_in (hn x hx) hf
  · exact tW_in (hn x hx) hf
theorem compact_le (zs : List Int) : (Lib.compact zs).length ≤ zs.length := by
  unfold Lib.compact Lib.compactUpTo
  rw [List.length_map]
  exact Nat.le_trans (List.length_filter_le _ _) (by simp)
theorem cutsOf_le (fr : Int) (l : List A3) : (cutsOf fr l).length ≤ 2 + 2 * l.length := by
  have h := compact_le (sortZ (cutL fr l))
  rw [sortZ_len, cutL_len] at h
  exact h
theorem cutsOf_two (fr : Int) (l : List A3) (hf : 1 ≤ fr) (hn : ∀ x ∈ l, Num x) : 2 ≤ (cutsOf fr l).length := by
  have h := cutsOf_cuts fr l (by omega) hn
  have h0 := h.2.2.1
  have h1 := h.2.2.2
  rcases hc : cutsOf fr l with _ | ⟨a, _ | ⟨b, t⟩⟩
  · rw [hc] at h0; simp at h0
  · rw [hc] at h0 h1; simp at h0 h1; omega
  · simp
theorem owns_first {w : World} {B g n cap : Nat} {T : TypeId} {xs : List Value} (k : Nat) (hk : k ≤ n) (h : w.ownsRow B T 1 (.slice (some ⟨g, 0, none⟩) n cap) n xs) : w.ownsRow B T 1 (.slice (some ⟨g, 0, none⟩) k cap) k (xs.take k) := by
  obtain ⟨h1, h2⟩ := h
  refine ⟨by simp; omega, ?_⟩
  rcases h2 with ⟨e, _⟩ | ⟨g', cap', cur, e, hb, hg, r1, r2, r3, r4⟩
  · cases e
  · cases e
    refine .inr ⟨g, cap, cur, rfl, hb, hg, by omega, r2, r3, ?_⟩
    rw [← r4, List.take_take, Nat.mul_one, Nat.mul_one, Nat.min_eq_left hk]
/-- Numbers of the call's own, each once. -/
theorem compact_own (g cap B : Nat) (zs : List Int) (w : World) (h : w.ownsRow B 3 1 (.slice (some ⟨g, 0, none⟩) zs.length cap) zs.length (zs.map (Value.int .i64))) (hl : zs.length < 4611686018427387904) :
    Calls Try.prog 60 #[.slice (some ⟨g, 0, none⟩) zs.length cap] w fun e w' => e = .returned (.slice (some ⟨g, 0, none⟩) (Lib.compact zs).length cap) ∧ w'.ownsRow B 3 1 (.slice (some ⟨g, 0, none⟩) (Lib.compact zs).length cap) (Lib.compact zs).length ((Lib.compact zs).map (Value.int .i64)) ∧ w.grownBy w' (some g) := by
  rcases h.2 with ⟨h0, _⟩ | ⟨g', cap', cur, e, hb, hg, h1, h2, h3, h4⟩
  · cases h0
  · cases e
    refine (Try.slices_Compact_int g 0 cap zs w (Go.holds_of_blockI hg (by rw [← h4, Nat.mul_one])) (by omega) h1).mono ?_
    rintro e w' ⟨rfl, q, rfl⟩
    have hle := compact_le zs
    have hlen : (Lib.compact zs ++ List.replicate (zs.length - (Lib.compact zs).length) 0).length = zs.length := by simp; omega
    have h5 := Go.ownsRow_sortedI (n := q) (os := #[]) hlen hb hg h1 h2 h3
    have h6 := Go.grownBy_sortedI (w := w) (g := g) (n := q) (os := #[]) (Lib.compact zs ++ List.replicate (zs.length - (Lib.compact zs).length) 0).toArray
    have e0 : ∀ W : World, Go.Sort.grow W #[] = W := fun W => by unfold Go.Sort.grow; simp
    rw [e0] at h5 h6
    refine ⟨rfl, ?_, h6⟩
    have h7 := owns_first (Lib.compact zs).length hle h5
    rw [List.map_append, List.take_left' (by simp)] at h7
    exact h7
end Go.Proofs.Ytnngldkpkhabeaa.Win
