
/- What package window's Check tells. Condition: the variables hold what the program lays there; at most 1,000 windows, and 2 to the power 40 ids. -/

import Derived.Test.YteefmdelacihfaaWinC

namespace Go.Proofs.Yteefmdelacihfaa.Win

open Go.RowKit Go.PlainAid Go.Proofs.Yteefmdelacihfaa.Oct Go.Proofs.Yteefmdelacihfaa.Flt Go.Proofs.Yteefmdelacihfaa.Rdr Go.Proofs.Yteefmdelacihfaa.Args

open Go.Proofs.Yteefmdelacihfaa.Act (A3 actL flatA ActsAt I64 Wide row_beside)

set_option linter.unusedVariables false

set_option linter.unusedSimpArgs false

def chkW (ids : List Int) (fr : Int) : A3 → Nat → List A3 → Nat × Int
  | _, _, [] => (0, 0)
  | ah, i, x :: l => if bad1W ids fr ah x = 0 then chkW ids fr x (i + 1) l else (bad1W ids fr ah x, i)
theorem bad1_le (ids : List Int) (fr : Int) (ah x : A3) : bad1W ids fr ah x ≤ 18 := by
  unfold bad1W
  split
  · omega
  · split
    · omega
    · split
      · omega
      · split <;> omega
theorem bad1_ok {ids : List Int} {fr : Int} {ah x : A3} (hf : I64 fr) (h : bad1W ids fr ah x = 0) : Ahead x := by
  unfold bad1W at h
  split at h
  · omega
  · split at h
    · omega
    · rename_i h2
      unfold okW at h2
      unfold Ahead I64 at *
      split at h2
      · simp at h2
      · split at h2
        · simp at h2
        · split at h2
          · simp at h2
          · simp at h2; omega
theorem ahead_no : Ahead ⟨0, 0, 0⟩ := ⟨Int.le_refl _, Int.le_refl _, by decide⟩
/-- Within Check: the schedule's box b, the window ahead in block H, the ids that rise. -/
structure CW (b H : Nat) (xs : Array Value) (V : Value) (ids : List Int) (ah : A3) (w wr : World) : Prop where
  box : wr.heap[b]? = some (.cells xs 25 (0, 0))
  ahd : wr.heap[H]? = some (.cells (winC ah) 47 (0, 0))
  own : OwnsZ w.heap.size (sortZ ids) V wr
  hb : w.heap.size ≤ b
  hH : w.heap.size ≤ H
  below : Below w.heap.size w wr
theorem CW.keep {b H : Nat} {xs : Array Value} {V : Value} {ids : List Int} {ah : A3} {w wr w' : World} (f : CW b H xs V ids ah w wr) (k : Below wr.heap.size wr w') : CW b H xs V ids ah w w' :=
  ⟨(k.block _ (lt_of_block f.box)).trans f.box, (k.block _ (lt_of_block f.ahd)).trans f.ahd, ⟨owns_kept f.own.1 k, f.own.2⟩, f.hb, f.hH, f.below.trans (k.mono f.below.size)⟩
theorem just_set (w : World) (X : Nat) (cs : Array Value) : Just X w (w.setRow X cs) := ⟨rfl, rfl, rfl, (by simp), fun k _ hne => setRow_other _ _ _ _ hne⟩
theorem CW.set {b H : Nat} {xs : Array Value} {V : Value} {ids : List Int} {ah : A3} {w wr : World} (f : CW b H xs V ids ah w wr) (x : A3) : CW b H xs V ids x w (wr.setRow H (winC x)) := by
  have j := just_set wr H (winC x)
  have hbH : b ≠ H := by
    intro e
    have h1 := f.box
    rw [e, f.ahd] at h1
    simp only [Option.some.injEq, Obj.cells.injEq] at h1
    exact absurd h1.2.1 (by decide)
  refine ⟨(j.block _ (lt_of_block f.box) hbH).trans f.box, setRow_heap _ _ _ _ _ _ f.ahd, ⟨row_beside f.own.1 j fun k hk e => ?_, f.own.2⟩, f.hb, f.hH, ⟨f.below.os, f.below.tape, f.below.output, Nat.le_trans f.below.size j.size, fun k hk => ?_⟩⟩
  · rcases f.own.1.2 with ⟨e1, _⟩ | ⟨g, cap, cur, e1, _, hg, _⟩
    · rw [e1] at hk; cases hk
    · rw [e1] at hk
      have : g = k := by simpa [Value.ownBlock] using hk
      rw [this, e, f.ahd] at hg
      simp only [Option.some.injEq, Obj.cells.injEq] at hg
      exact absurd hg.2.1 (by decide)
  · exact (j.block k (Nat.lt_of_lt_of_le hk f.below.size) (by have := f.hH; omega)).trans (f.below.block k hk)
theorem size_win : (Try.prog.info? 47).map (·.size) = some 3 := by kernel_rfl
theorem one_win (t : A3) : (winC t).all (·.oneCell') = true := by simp [winC, Value.oneCell']
def lastW (l : List A3) : A3 := l.getLast?.getD ⟨0, 0, 0⟩
theorem last_takeW (l : List A3) (k : Nat) (x : A3) (hx : l[k]? = some x) : lastW (l.take (k + 1)) = x := by
  have hk : k < l.length := (List.getElem?_eq_some_iff.1 hx).1
  unfold lastW
  rw [List.getLast?_eq_getElem?]
  simp only [List.length_take]
  rw [show min (k + 1) l.length - 1 = k by omega, List.getElem?_take_of_lt (by omega), hx]
  rfl
def CKRel (b H : Nat) (xs : Array Value) (V : Value) (ids : List Int) (fr : Int) (l : List A3) (q : Nat × Int) (w : World) (i : Value) (wr : World) : Prop :=
  ∃ k : Nat, k ≤ l.length ∧ i = .int .i64 k ∧ q = chkW ids fr (lastW (l.take k)) k (l.drop k) ∧ Ahead (lastW (l.take k)) ∧ CW b H xs V ids (lastW (l.take k)) w wr
theorem IntsBelow.mono {n m : Nat} {W : World} {sv : Value} {zs : List Int} (h : IntsBelow n W sv zs) (hm : n ≤ m) : IntsBelow m W sv zs := by
  rcases h with h | ⟨y, cap, e, hb, hc⟩
  · exact .inl h
  · exact .inr ⟨y, cap, e, fun h0 => Nat.lt_of_lt_of_le (hb h0) hm, hc⟩
theorem OwnsZ.slice {B : Nat} {zs : List Int} {V : Value} {W : World} (h : OwnsZ B zs V W) : ∃ A n c, V = .slice A n c := by
  rcases h.1.2 with ⟨rfl, _⟩ | ⟨g, cap, cur, rfl, _⟩
  · exact ⟨_, _, _, rfl⟩
  · exact ⟨_, _, _, rfl⟩
end Go.Proofs.Yteefmdelacihfaa.Win
