
/- Windows: whose all ticks are (Word). Condition: at most 400 windows of plain numbers, a frame of 1 to 1,048,576. -/

import Derived.Test.YtofcjkfaccdnjaaDoorWinN

import Derived.Maps.AppendAt

import Derived.OwnWalk

namespace Go.Proofs.YtofcjkfaccdnjaaDoor.Win

open Go.RowKit Go.PlainAid Go.Proofs.YtofcjkfaccdnjaaDoor.Oct Go.Proofs.YtofcjkfaccdnjaaDoor.Flt Go.Proofs.YtofcjkfaccdnjaaDoor.Rdr Go.Proofs.YtofcjkfaccdnjaaDoor.Args

open Go.Proofs.YtofcjkfaccdnjaaDoor.Act (A3 actL flatA flatA_snoc flatA_get flatA_len ActsAt I64 Wide row_beside row_base)

set_option linter.unusedVariables false

set_option linter.unusedSimpArgs false

/-- Rows, tick by tick. -/
def wordL (l : List A3) : List Int := l.flatMap fun x => List.replicate x.a.toNat x.s
theorem wordL_snoc (l : List A3) (x : A3) : wordL (l ++ [x]) = wordL l ++ List.replicate x.a.toNat x.s := by simp [wordL]
def ticksL (g : Int → Int) (a : Int) (n : Nat) : List Int := (List.range n).map fun j : Nat => g (a + (j : Int))
theorem ticks_len (g : Int → Int) (a : Int) (n : Nat) : (ticksL g a n).length = n := by simp [ticksL]
theorem ticks_succ (g : Int → Int) (a : Int) (n : Nat) : ticksL g a (n + 1) = ticksL g a n ++ [g (a + (n : Int))] := by
  unfold ticksL; rw [List.range_succ]; simp
theorem ticks_add (g : Int → Int) (a : Int) (n : Nat) : ∀ k, ticksL g a (n + k) = ticksL g a n ++ ticksL g (a + (n : Int)) k
  | 0 => by simp [ticksL]
  | k + 1 => by
    rw [← Nat.add_assoc, ticks_succ, ticks_add g a n k, ticks_succ, List.append_assoc]
    rw [show a + ((n + k : Nat) : Int) = a + (n : Int) + (k : Int) by omega]
theorem ticks_const (g : Int → Int) (a c : Int) : ∀ n : Nat, (∀ j : Nat, j < n → g (a + (j : Int)) = c) → ticksL g a n = List.replicate n c
  | 0, _ => by simp [ticksL]
  | n + 1, h => by
    rw [ticks_succ, ticks_const g a c n (fun j hj => h j (by omega)), h n (by omega), List.replicate_succ']
theorem word_ticks (fr : Int) (l : List A3) : ∀ (cs : List Int) (a : Int) (m : Nat), (a :: cs).length = m + 1 → (a :: cs).Pairwise (· < ·) → (∀ i u v, (a :: cs)[i]? = some u → (a :: cs)[i + 1]? = some v → ∀ t, u ≤ t → t < v → ownT fr l t = ownT fr l u) →
    wordL (rowsL fr l (a :: cs) m) = ticksL (ownT fr l) a ((a :: cs).getLast (by simp) - a).toNat
  | [], a, m, hm, _, _ => by
    obtain rfl : m = 0 := by simpa using hm.symm
    simp [rowsL, wordL, ticksL]
  | b :: cs, a, m, hm, h, hc => by
    obtain ⟨n, rfl⟩ : ∃ n, m = n + 1 := ⟨m - 1, by simp at hm; omega⟩
    have hab : a < b := by rw [List.pairwise_cons] at h; exact h.1 b (by simp)
    have ih := word_ticks fr l cs b n (by simpa using hm) (by rw [List.pairwise_cons] at h; exact h.2) (fun i u v hu hv => hc (i + 1) u v (by simpa using hu) (by simpa using hv))
    have hlast : b ≤ (b :: cs).getLast (by simp) := by
      rw [List.pairwise_cons] at h
      rcases cs with _ | ⟨c, cs⟩
      · simp
      · have := (List.pairwise_cons.1 h.2).1 ((b :: c :: cs).getLast (by simp)) (by
          rw [List.getLast_cons (by simp)]; exact List.getLast_mem _)
        omega
    have e1 : (a :: b :: cs).getLast (by simp) = (b :: cs).getLast (by simp) := List.getLast_cons (by simp)
    have e : rowsL fr l (a :: b :: cs) (n + 1) = ⟨ownT fr l a, a, b - a⟩ :: rowsL fr l (b :: cs) n := by
      unfold rowsL
      rw [List.range_succ_eq_map, List.map_cons, List.map_map]
      congr 1
    have ew : ∀ x L, wordL (x :: L) = List.replicate x.a.toNat x.s ++ wordL L := fun x L => by simp [wordL]
    rw [e, ew, ih, e1]
    have e2 : ((b :: cs).getLast (by simp) - a).toNat = (b - a).toNat + ((b :: cs).getLast (by simp) - b).toNat := by omega
    rw [e2, ticks_add]
    have e3 : a + ((b - a).toNat : Int) = b := by omega
    rw [e3, ticks_const (ownT fr l) a (ownT fr l a) (b - a).toNat (fun j hj => hc 0 a b rfl rfl (a + (j : Int)) (by omega) (by omega))]
/-- Within Word: the rows, the word, and where they lie. -/
structure WS (B rb m rc VB n c : Nat) (L : List A3) (xs : List Int) (w wr : World) : Prop where
  rows : wr.ownsRow B 82 3 (.slice (some ⟨rb, 0, none⟩) m rc) m (flatA L)
  own : wr.ownsRow B 3 1 (.slice (some ⟨VB, 0, none⟩) n c) n (xs.map (Value.int .i64))
  ne : VB ≠ rb
  base : w.heap.size ≤ B
  below : Below w.heap.size w wr
theorem WS.keep {B rb m rc VB n c : Nat} {L : List A3} {xs : List Int} {w wr w' : World} (f : WS B rb m rc VB n c L xs w wr) (k : Below wr.heap.size wr w') : WS B rb m rc VB n c L xs w w' :=
  ⟨owns_kept f.rows k, owns_kept f.own k, f.ne, f.base, f.below.trans (k.mono f.below.size)⟩
theorem WS.grown {B rb m rc VB VB' n n' c c' : Nat} {L : List A3} {xs xs' : List Int} {w wr w' : World} (f : WS B rb m rc VB n c L xs w wr) (hg : wr.grownBy w' (some VB)) (ho : w'.ownsRow B 3 1 (.slice (some ⟨VB', 0, none⟩) n' c') n' (xs'.map (Value.int .i64))) (hat : VB' = VB ∨ VB' = wr.heap.size) : WS B rb m rc VB' n' c' L xs' w w' := by
  have hr := (f.rows.lt rb rfl).2
  have hv := (f.own.lt VB rfl).1
  have hb := f.base
  refine ⟨row_beside f.rows (just_grownW hg) (fun k hk e => ?_), ho, ?_, f.base, f.below.grown hg f.below.size (fun q hq => by cases hq; omega)⟩
  · have := f.ne
    have e2 : rb = k := Option.some.inj hk
    omega
  · have := f.ne
    rcases hat with h | h <;> omega
def WdO (B rb m rc : Nat) (L : List A3) (w : World) (i v : Value) (wr : World) : Prop :=
  ∃ (k VB c : Nat), k ≤ m ∧ i = .int .i64 (k : Int) ∧ v = .slice (some ⟨VB, 0, none⟩) (wordL (L.take k)).length c ∧ WS B rb m rc VB (wordL (L.take k)).length c L (wordL (L.take k)) w wr
def WdI (B rb m rc X a : Nat) (L : List A3) (x : A3) (ys : List Int) (w : World) (i v : Value) (wr : World) : Prop :=
  ∃ (d VB c : Nat), d ≤ a ∧ i = .int .i64 (d : Int) ∧ v = .slice (some ⟨VB, 0, none⟩) (ys.length + d) c ∧ WS B rb m rc VB (ys.length + d) c L (ys ++ List.replicate d x.s) w wr ∧ wr.heap[X]? = some (.cells (winC x) 82 (0, 0)) ∧ VB ≠ X
end Go.Proofs.YtofcjkfaccdnjaaDoor.Win
