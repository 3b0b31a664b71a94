
/- Windows: the cuts of a frame, rising. Condition: at most 1,000 windows of plain numbers, a frame of 0 to 1,048,576. -/

import Derived.Test.YtfomkhhkcohdlaaDoorWinG

import Derived.Test.YtfomkhhkcohdlaaDoorWinV

import Derived.Test.YtfomkhhkcohdlaaDoorShelf

import Derived.OwnWalk

namespace Go.Proofs.YtfomkhhkcohdlaaDoor.Win

open Go.RowKit Go.PlainAid Go.Proofs.YtfomkhhkcohdlaaDoor.Oct Go.Proofs.YtfomkhhkcohdlaaDoor.Flt Go.Proofs.YtfomkhhkcohdlaaDoor.Rdr Go.Proofs.YtfomkhhkcohdlaaDoor.Args

open Go.Proofs.YtfomkhhkcohdlaaDoor.Act (A3 actL flatA ActsAt I64 Wide row_beside row_base)

set_option linter.unusedVariables false

set_option linter.unusedSimpArgs false

/-- All of the cuts, in the order of the windows. -/
def cutL (fr : Int) (l : List A3) : List Int := [0, fr] ++ l.flatMap fun x => [fW fr x, tW fr x]
theorem cutL_nil (fr : Int) : cutL fr [] = [0, fr] := rfl
theorem cutL_snoc (fr : Int) (l : List A3) (x : A3) : cutL fr (l ++ [x]) = cutL fr l ++ [fW fr x, tW fr x] := by simp [cutL]
theorem cutL_len (fr : Int) (l : List A3) : (cutL fr l).length = 2 + 2 * l.length := by
  induction l with
  | nil => rfl
  | cons x l ih => simp [cutL] at ih ⊢; omega
theorem cutL_mem (fr : Int) (l : List A3) (v : Int) : v ∈ cutL fr l ↔ v = 0 ∨ v = fr ∨ ∃ x ∈ l, v = fW fr x ∨ v = tW fr x := by simp [cutL]
def cutsOf (fr : Int) (l : List A3) : List Int := Lib.compact (sortZ (cutL fr l))
theorem cutsOf_mem (fr : Int) (l : List A3) (v : Int) : v ∈ cutsOf fr l ↔ v = 0 ∨ v = fr ∨ ∃ x ∈ l, v = fW fr x ∨ v = tW fr x := by
  unfold cutsOf
  rw [(compact_rises _ (sortZ_rises _)).2, sortZ_mem, cutL_mem]
theorem cutsOf_cuts (fr : Int) (l : List A3) (hf : 0 ≤ fr) (hn : ∀ x ∈ l, Num x) : Cuts (cutsOf fr l) fr := by
  refine ⟨(compact_rises _ (sortZ_rises _)).1, fun v hv => ?_, (cutsOf_mem _ _ _).2 (.inl rfl), (cutsOf_mem _ _ _).2 (.inr (.inl rfl))⟩
  rcases (cutsOf_mem _ _ _).1 hv with rfl | rfl | ⟨x, hx, rfl | rfl⟩
  · exact ⟨Int.le_refl _, hf⟩
  · exact ⟨hf, Int.le_refl _⟩
  · exact fW_in (hn x hx) hf
  · exact tW_in (hn x hx) hf
theorem compact_le (zs : List Int) : (Lib.compact zs).length ≤ zs.length := by
  unfold Lib.compact Lib.compactUpTo
  rw [List.length_map]
  exact Nat.le_trans (List.length_filter_le _ _) (by simp)
theorem cutsOf_le (fr : Int) (l : List A3) : (cutsOf fr l).length ≤ 2 + 2 * l.length := by
  have h := compact_le (sortZ (cutL fr l))
  rw [sortZ_len, cutL_len] at h
  exact h
theorem cutsOf_two (fr : Int) (l : List A3) (hf : 1 ≤ fr) (hn : ∀ x ∈ l, Num x) : 2 ≤ (cutsOf fr l).length := by
  have h := cutsOf_cuts fr l (by omega) hn
  have h0 := h.2.2.1
  have h1 := h.2.2.2
  rcases hc : cutsOf fr l with _ | ⟨a, _ | ⟨b, t⟩⟩
  · rw [hc] at h0; simp at h0
  · rw [hc] at h0 h1; simp at h0 h1; omega
  · simp
theorem owns_first {w : World} {B g n cap : Nat} {T : TypeId} {xs : List Value} (k : Nat) (hk : k ≤ n) (h : w.ownsRow B T 1 (.slice (some ⟨g, 0, none⟩) n cap) n xs) : w.ownsRow B T 1 (.slice (some ⟨g, 0, none⟩) k cap) k (xs.take k) := by
  obtain ⟨h1, h2⟩ := h
  refine ⟨by simp; omega, ?_⟩
  rcases h2 with ⟨e, _⟩ | ⟨g', cap', cur, e, hb, hg, r1, r2, r3, r4⟩
  · cases e
  · cases e
    refine .inr ⟨g, cap, cur, rfl, hb, hg, by omega, r2, r3, ?_⟩
    rw [← r4, List.take_take, Nat.mul_one, Nat.mul_one, Nat.min_eq_left hk]
/-- Numbers of the call's own, each once. -/
theorem compact_own (g cap B : Nat) (zs : List Int) (w : World) (h : w.ownsRow B 3 1 (.slice (some ⟨g, 0, none⟩) zs.length cap) zs.length (zs.map (Value.int .i64))) (hl : zs.length < 4611686018427387904) :
    Calls Tryd.prog 22 #[.slice (some ⟨g, 0, none⟩) zs.length cap] w fun e w' => e = .returned (.slice (some ⟨g, 0, none⟩) (Lib.compact zs).length cap) ∧ w'.ownsRow B 3 1 (.slice (some ⟨g, 0, none⟩) (Lib.compact zs).length cap) (Lib.compact zs).length ((Lib.compact zs).map (Value.int .i64)) ∧ w.grownBy w' (some g) := by
  rcases h.2 with ⟨h0, _⟩ | ⟨g', cap', cur, e, hb, hg, h1, h2, h3, h4⟩
  · cases h0
  · cases e
    refine (Tryd.slices_Compact_int g 0 cap zs w (Go.holds_of_blockI hg (by rw [← h4, Nat.mul_one])) (by omega) h1).mono ?_
    rintro e w' ⟨rfl, q, rfl⟩
    have hle := compact_le zs
    have hlen : (Lib.compact zs ++ List.replicate (zs.length - (Lib.compact zs).length) 0).length = zs.length := by simp; omega
    have h5 := Go.ownsRow_sortedI (n := q) (os := #[]) hlen hb hg h1 h2 h3
    have h6 := Go.grownBy_sortedI (w := w) (g := g) (n := q) (os := #[]) (Lib.compact zs ++ List.replicate (zs.length - (Lib.compact zs).length) 0).toArray
    have e0 : ∀ W : World, Go.Sort.grow W #[] = W := fun W => by unfold Go.Sort.grow; simp
    rw [e0] at h5 h6
    refine ⟨rfl, ?_, h6⟩
    have h7 := owns_first (Lib.compact zs).length hle h5
    rw [List.map_append, List.take_left' (by simp)] at h7
    exact h7
end Go.Proofs.YtfomkhhkcohdlaaDoor.Win
