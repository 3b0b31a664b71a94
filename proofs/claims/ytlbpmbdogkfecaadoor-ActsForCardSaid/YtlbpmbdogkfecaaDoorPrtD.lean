
/- What is wrong first with partitions that are to be put, as the program tells it. Condition: the variables hold what the program lays there. What is wrong first with partitions that are to be put, as the document tells it. No condition. -/

import Derived.Test.YtlbpmbdogkfecaaDoorPrtA

import Derived.Test.YtlbpmbdogkfecaaDoorHdrC

import Derived.IntWalk

namespace Go.Proofs.YtlbpmbdogkfecaaDoor.Prt

open Go.RowKit Go.PlainAid Go.Proofs.YtlbpmbdogkfecaaDoor.Oct Go.Proofs.YtlbpmbdogkfecaaDoor.Flt Go.Proofs.YtlbpmbdogkfecaaDoor.Rdr Go.Proofs.YtlbpmbdogkfecaaDoor.Nam

set_option linter.unusedVariables false

set_option linter.unusedSimpArgs false

/-- The first one of which f tells something: what, and its place. -/
def fb {α : Type} (f : List α → α → Nat) (pre : List α) : List α → Nat × Int
  | [] => (0, 0)
  | x :: l => if f pre x = 0 then fb f (pre ++ [x]) l else (f pre x, (pre.length : Int))
theorem fb_step {α : Type} (f : List α → α → Nat) (l : List α) (i : Nat) (x : α) (hx : l[i]? = some x) : fb f (l.take i) (l.drop i) = if f (l.take i) x = 0 then fb f (l.take (i + 1)) (l.drop (i + 1)) else (f (l.take i) x, (i : Int)) := by
  have hi : i < l.length := by
    rcases Nat.lt_or_ge i l.length with h | h
    · exact h
    · rw [List.getElem?_eq_none h] at hx; cases hx
  have hxe : l[i] = x := by rw [List.getElem?_eq_getElem hi] at hx; exact Option.some.inj hx
  have hd : l.drop i = x :: l.drop (i + 1) := by rw [List.drop_eq_getElem_cons hi, hxe]
  have ht : l.take (i + 1) = l.take i ++ [x] := by rw [List.take_succ_eq_append_getElem hi, hxe]
  rw [hd, fb, ht]
  have hl : (l.take i).length = i := by simp; omega
  rw [hl]
theorem fb_end {α : Type} (f : List α → α → Nat) (l : List α) : fb f (l.take l.length) (l.drop l.length) = (0, 0) := by simp [fb]
theorem take_snoc {α : Type} (l : List α) (i : Nat) (x : α) (hx : l[i]? = some x) : l.take (i + 1) = l.take i ++ [x] := by
  have hi : i < l.length := by
    rcases Nat.lt_or_ge i l.length with h | h
    · exact h
    · rw [List.getElem?_eq_none h] at hx; cases hx
  have hxe : l[i] = x := by rw [List.getElem?_eq_getElem hi] at hx; exact Option.some.inj hx
  rw [List.take_succ_eq_append_getElem hi, hxe]
def rg (x : PT) : Nat := rgtP ⟨x.id, x.nm, x.may, none, x.cs.length, 0⟩
def lastP (l : List PT) : Int := (l.getLast?.map PT.id).getD (-1)
theorem lastP_snoc (l : List PT) (x : PT) : lastP (l ++ [x]) = x.id := by simp [lastP]
def b1P (pre : List PT) (x : PT) : Nat := if rg x = 0 then (if x.id ≤ lastP pre then 9 else 0) else rg x
def badP (l : List PT) : Nat × Int := fb b1P [] l
theorem rg_le (x : PT) : rg x ≤ 18 := by unfold rg rgtP; repeat' split
                                         all_goals omega
def sec2 (k : Nat) : Int := if k = 0 then 0 else 2
/-- What the numbers and texts of a partition that came in are like. -/
def WideP (x : PT) : Prop := Hdr.I64 x.id ∧ x.nm.size ≤ maxLen
def WPost (q : Nat × Int) (w : World) (e : Ending) (w' : World) : Prop := ∃ x, e = .returned x ∧ Wrong w' x q.1 (sec2 q.1) q.2 ∧ Below w.heap.size w w'
def WRel (l : List PT) (w : World) (v i : Value) (wr : World) : Prop := ∃ k : Nat, k ≤ l.length ∧ i = .int .i64 k ∧ v = .int .i64 (lastP (l.take k)) ∧ badP l = fb b1P (l.take k) (l.drop k) ∧ Below w.heap.size w wr
end Go.Proofs.YtlbpmbdogkfecaaDoor.Prt

namespace Go.Proofs.YtlbpmbdogkfecaaDoor.Prt

open Go.RowKit Go.PlainAid Go.Proofs.YtlbpmbdogkfecaaDoor.Oct Go.Proofs.YtlbpmbdogkfecaaDoor.Flt Go.Proofs.YtlbpmbdogkfecaaDoor.Rdr Go.Proofs.YtlbpmbdogkfecaaDoor.Nam

open Go.Proofs.YtlbpmbdogkfecaaDoor.Hdr (below_set2)

set_option linter.unusedVariables false

set_option linter.unusedSimpArgs false

def ERel (l : List PT) (w : World) (i : Value) (wr : World) : Prop :=
  ∃ k : Nat, k ≤ l.length ∧ i = .int .i64 k ∧ badP l = fb b1P (l.take k) (l.drop k) ∧ wr.heap[w.heap.size]? = some (.cells #[.int .i64 0, .int .i64 0, .int .i64 0] 41 (0, 0)) ∧ Below w.heap.size w wr
theorem below_drewN {B : Nat} {a w : World} (h : Below B a w) (n : Nat) : Below B a (w.drewN n) := ⟨h.os, h.tape, h.output, h.size, h.block⟩
theorem rg_id {x : PT} (h : rg x = 0) : 0 ≤ x.id := by
  unfold rg rgtP at h
  split at h
  · cases h
  · rename_i h1
    simp at h1
    omega
end Go.Proofs.YtlbpmbdogkfecaaDoor.Prt
