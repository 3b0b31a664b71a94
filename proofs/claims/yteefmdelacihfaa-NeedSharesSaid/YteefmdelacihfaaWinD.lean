
/- What is wrong first with windows, as the program tells it, and the document. Condition: the variables hold what the program lays there; at most 1,000 windows, and 2 to the power 40 ids. What package window's Check tells. Condition: the variables hold what the program lays there; at most 1,000 windows, and 2 to the power 40 ids. -/

import Derived.Test.YteefmdelacihfaaWinA

import Derived.Test.YteefmdelacihfaaWinV

import Derived.Test.YteefmdelacihfaaFltB

import Derived.Test.YteefmdelacihfaaFltQ

import Derived.Test.YteefmdelacihfaaFltK

import Derived.Test.YteefmdelacihfaaRdrA

namespace Go.Proofs.Yteefmdelacihfaa.Win

open Go.RowKit Go.PlainAid Go.Proofs.Yteefmdelacihfaa.Oct Go.Proofs.Yteefmdelacihfaa.Flt Go.Proofs.Yteefmdelacihfaa.Rdr Go.Proofs.Yteefmdelacihfaa.Args

open Go.Proofs.Yteefmdelacihfaa.Act (A3 actL flatA ActsAt I64 Wide)

set_option linter.unusedVariables false

set_option linter.unusedSimpArgs false

def okW (fr : Int) (x : A3) : Bool := if x.a < 1 then false else if x.p < 0 then false else if fr < x.p then false else decide (x.a ≤ fr - x.p)
def memB (ids : List Int) (v : Int) : Bool := decide (v ∈ ids)
theorem search_any (B : Nat) (V : Value) (ids : List Int) (v : Int) (W : World) (h : OwnsZ B (sortZ ids) V W) (hl : ids.length ≤ 1099511627776) :
    Calls Try.prog 41 #[V, .int .i64 v] W fun e w' => ∃ i : Int, e = .returned (.tuple #[.int .i64 i, .bool (memB ids v)]) ∧ ∃ n, w' = W.drewN n := by
  have hm : (sortZ ids).contains v = memB ids v := by
    unfold memB
    rw [List.contains_eq_mem]
    simp [sortZ_mem]
  rcases h.1.2 with ⟨rfl, hz⟩ | ⟨g, cap, cur, rfl, hb, hg, r1, r2, r3, r4⟩
  · refine (Try.slices_BinarySearch_int_empty none 0 v W).mono ?_
    rintro e w' ⟨rfl, rfl⟩
    have : sortZ ids = [] := List.eq_nil_of_length_eq_zero hz
    rw [this] at hm
    refine ⟨0, ?_, 0, rfl⟩
    rw [← hm]; rfl
  · have hown := h.1
    have hc : ∀ j, j < (sortZ ids).length → W.cell? ⟨g, 0 + j, none⟩ = some (.int .i64 ((sortZ ids).getD j 0)) := fun j hj => by
      rw [Nat.zero_add, hown.cellAt j (by omega)]
      simp [List.getD, List.getElem?_eq_getElem hj]
    refine (Try.slices_BinarySearch_int g 0 (sortZ ids).length cap (sortZ ids) v W (Nat.le_refl _) (by rw [sortZ_len]; omega) hc (by rw [List.take_length]; exact sortZ_rises ids)).mono ?_
    rintro e w' ⟨rfl, q, rfl⟩
    rw [List.take_length, hm]
    exact ⟨_, rfl, q, rfl⟩
def bad1W (ids : List Int) (fr : Int) (ah x : A3) : Nat := if memB ids x.s = false then 10 else if okW fr x = false then 11 else if x.p < ah.p then 9 else if x.p < ah.p + ah.a then 12 else 0
/-- What may stand ahead of a window: a right one, or none. -/
def Ahead (ah : A3) : Prop := 0 ≤ ah.p ∧ 0 ≤ ah.a ∧ ah.p + ah.a ≤ 9223372036854775807
end Go.Proofs.Yteefmdelacihfaa.Win

namespace Go.Proofs.Yteefmdelacihfaa.Win

open Go.RowKit Go.PlainAid Go.Proofs.Yteefmdelacihfaa.Oct Go.Proofs.Yteefmdelacihfaa.Flt Go.Proofs.Yteefmdelacihfaa.Rdr Go.Proofs.Yteefmdelacihfaa.Args

open Go.Proofs.Yteefmdelacihfaa.Act (A3 actL flatA ActsAt I64 Wide row_beside)

set_option linter.unusedVariables false

set_option linter.unusedSimpArgs false

def chkW (ids : List Int) (fr : Int) : A3 → Nat → List A3 → Nat × Int
  | _, _, [] => (0, 0)
  | ah, i, x :: l => if bad1W ids fr ah x = 0 then chkW ids fr x (i + 1) l else (bad1W ids fr ah x, i)
theorem bad1_le (ids : List Int) (fr : Int) (ah x : A3) : bad1W ids fr ah x ≤ 18 := by
  unfold bad1W
  split
  · omega
  · split
    · omega
    · split
      · omega
      · split <;> omega
theorem bad1_ok {ids : List Int} {fr : Int} {ah x : A3} (hf : I64 fr) (h : bad1W ids fr ah x = 0) : Ahead x := by
  unfold bad1W at h
  split at h
  · omega
  · split at h
    · omega
    · rename_i h2
      unfold okW at h2
      unfold Ahead I64 at *
      split at h2
      · simp at h2
      · split at h2
        · simp at h2
        · split at h2
          · simp at h2
          · simp at h2; omega
theorem ahead_no : Ahead ⟨0, 0, 0⟩ := ⟨Int.le_refl _, Int.le_refl _, by decide⟩
/-- Within Check: the schedule's box b, the window ahead in block H, the ids that rise. -/
structure CW (b H : Nat) (xs : Array Value) (V : Value) (ids : List Int) (ah : A3) (w wr : World) : Prop where
  box : wr.heap[b]? = some (.cells xs 25 (0, 0))
  ahd : wr.heap[H]? = some (.cells (winC ah) 47 (0, 0))
  own : OwnsZ w.heap.size (sortZ ids) V wr
  hb : w.heap.size ≤ b
  hH : w.heap.size ≤ H
  below : Below w.heap.size w wr
theorem CW.keep {b H : Nat} {xs : Array Value} {V : Value} {ids : List Int} {ah : A3} {w wr w' : World} (f : CW b H xs V ids ah w wr) (k : Below wr.heap.size wr w') : CW b H xs V ids ah w w' :=
  ⟨(k.block _ (lt_of_block f.box)).trans f.box, (k.block _ (lt_of_block f.ahd)).trans f.ahd, ⟨owns_kept f.own.1 k, f.own.2⟩, f.hb, f.hH, f.below.trans (k.mono f.below.size)⟩
theorem just_set (w : World) (X : Nat) (cs : Array Value) : Just X w (w.setRow X cs) := ⟨rfl, rfl, rfl, (by simp), fun k _ hne => setRow_other _ _ _ _ hne⟩
theorem CW.set {b H : Nat} {xs : Array Value} {V : Value} {ids : List Int} {ah : A3} {w wr : World} (f : CW b H xs V ids ah w wr) (x : A3) : CW b H xs V ids x w (wr.setRow H (winC x)) := by
  have j := just_set wr H (winC x)
  have hbH : b ≠ H := by
    intro e
    have h1 := f.box
    rw [e, f.ahd] at h1
    simp only [Option.some.injEq, Obj.cells.injEq] at h1
    exact absurd h1.2.1 (by decide)
  refine ⟨(j.block _ (lt_of_block f.box) hbH).trans f.box, setRow_heap _ _ _ _ _ _ f.ahd, ⟨row_beside f.own.1 j fun k hk e => ?_, f.own.2⟩, f.hb, f.hH, ⟨f.below.os, f.below.tape, f.below.output, Nat.le_trans f.below.size j.size, fun k hk => ?_⟩⟩
  · rcases f.own.1.2 with ⟨e1, _⟩ | ⟨g, cap, cur, e1, _, hg, _⟩
    · rw [e1] at hk; cases hk
    · rw [e1] at hk
      have : g = k := by simpa [Value.ownBlock] using hk
      rw [this, e, f.ahd] at hg
      simp only [Option.some.injEq, Obj.cells.injEq] at hg
      exact absurd hg.2.1 (by decide)
  · exact (j.block k (Nat.lt_of_lt_of_le hk f.below.size) (by have := f.hH; omega)).trans (f.below.block k hk)
theorem size_win : (Try.prog.info? 47).map (·.size) = some 3 := by kernel_rfl
theorem one_win (t : A3) : (winC t).all (·.oneCell') = true := by simp [winC, Value.oneCell']
def lastW (l : List A3) : A3 := l.getLast?.getD ⟨0, 0, 0⟩
theorem last_takeW (l : List A3) (k : Nat) (x : A3) (hx : l[k]? = some x) : lastW (l.take (k + 1)) = x := by
  have hk : k < l.length := (List.getElem?_eq_some_iff.1 hx).1
  unfold lastW
  rw [List.getLast?_eq_getElem?]
  simp only [List.length_take]
  rw [show min (k + 1) l.length - 1 = k by omega, List.getElem?_take_of_lt (by omega), hx]
  rfl
def CKRel (b H : Nat) (xs : Array Value) (V : Value) (ids : List Int) (fr : Int) (l : List A3) (q : Nat × Int) (w : World) (i : Value) (wr : World) : Prop :=
  ∃ k : Nat, k ≤ l.length ∧ i = .int .i64 k ∧ q = chkW ids fr (lastW (l.take k)) k (l.drop k) ∧ Ahead (lastW (l.take k)) ∧ CW b H xs V ids (lastW (l.take k)) w wr
theorem IntsBelow.mono {n m : Nat} {W : World} {sv : Value} {zs : List Int} (h : IntsBelow n W sv zs) (hm : n ≤ m) : IntsBelow m W sv zs := by
  rcases h with h | ⟨y, cap, e, hb, hc⟩
  · exact .inl h
  · exact .inr ⟨y, cap, e, fun h0 => Nat.lt_of_lt_of_le (hb h0) hm, hc⟩
theorem OwnsZ.slice {B : Nat} {zs : List Int} {V : Value} {W : World} (h : OwnsZ B zs V W) : ∃ A n c, V = .slice A n c := by
  rcases h.1.2 with ⟨rfl, _⟩ | ⟨g, cap, cur, rfl, _⟩
  · exact ⟨_, _, _, rfl⟩
  · exact ⟨_, _, _, rfl⟩
end Go.Proofs.Yteefmdelacihfaa.Win
