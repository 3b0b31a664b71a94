
/- A partition's bytes, as the program makes them. Condition: the partition is right. What package parts' Put lays behind bytes. Condition: the variables hold what the program lays there; at most 2 to the power 30 bytes come in. The document's bytes of partitions. Condition: they are right. -/

import Derived.Test.YtlbpmbdogkfecaaDoorPrtD

import Derived.Test.YtlbpmbdogkfecaaDoorNamQ

import Derived.Test.YtlbpmbdogkfecaaDoorHdrP

import Derived.Test.YtlbpmbdogkfecaaDoorCnv

import Derived.Deep.RegionHeld3

namespace Go.Proofs.YtlbpmbdogkfecaaDoor.Prt

open Go.RowKit Go.PlainAid Go.Proofs.YtlbpmbdogkfecaaDoor.Oct Go.Proofs.YtlbpmbdogkfecaaDoor.Flt Go.Proofs.YtlbpmbdogkfecaaDoor.Rdr Go.Proofs.YtlbpmbdogkfecaaDoor.Nam

open Go.Proofs.YtlbpmbdogkfecaaDoor.Hdr (own_bytes owns_base)

open Go.Proofs.YtlbpmbdogkfecaaDoor.Byt (bytes_kept own_open)

set_option linter.unusedVariables false

set_option linter.unusedSimpArgs false

def bitN (b : Bool) : Nat := if b then 1 else 0
theorem bitN_le (b : Bool) : bitN b ≤ 1 := by unfold bitN; split <;> omega
def QPost (w : World) (xs ys : List Int) (e : Ending) (w' : World) : Prop := ∃ G n c : Nat, e = .returned (.tuple #[.slice (some ⟨G, 0, none⟩) n c, .bool true]) ∧ n = (xs ++ ys).length ∧ w.heap.size ≤ G ∧ w'.ownsRow w.heap.size 5 1 (.slice (some ⟨G, 0, none⟩) n c) n ((xs ++ ys).map (Value.int .u8)) ∧ Below w.heap.size w w'
theorem qpost {w : World} {xs ys : List Int} {e : Ending} {w' : World} (h : PutPost w xs true ys e w') : QPost w xs ys e w' := by
  obtain ⟨n, c, rfl, ho, hb⟩ := h
  exact ⟨_, n, c, rfl, by have := ho.1; simpa using this.symm, Nat.le_refl _, ho, hb⟩
def cellB (x : C2) : List Int := low (bitN x.kept) 1 ++ low x.v 4
def cellsB (l : List C2) : List Int := l.flatMap cellB
theorem cellsB_snoc (l : List C2) (x : C2) : cellsB (l ++ [x]) = cellsB l ++ cellB x := by simp [cellsB]
theorem cellsB_len (l : List C2) : (cellsB l).length = l.length * 5 := by
  induction l with
  | nil => rfl
  | cons x l ih =>
    have : cellsB (x :: l) = cellB x ++ cellsB l := rfl
    rw [this, List.length_append, ih, List.length_cons]
    simp [cellB, low_length]; omega
def headB (x : PT) : List Int := (((low x.id.toNat 1 ++ low (bitN x.may) 1) ++ ((x.nm.size : Int) :: Nam.bytesOf x.nm)) ++ low x.cs.length 1)
def partB (x : PT) : List Int := headB x ++ cellsB x.cs
/-- What the numbers of a partition's cells are like. -/
def WideC (x : PT) : Prop := ∀ y ∈ x.cs, y.v ≤ 4294967295
theorem rg_right {x : PT} (h : rg x = 0) : (0 ≤ x.id ∧ x.id ≤ 255) ∧ rightB x.nm = true ∧ x.cs.length ≤ 16 := by
  unfold rg rgtP at h
  split at h
  · cases h
  · rename_i h1
    split at h
    · cases h
    · rename_i h2
      split at h
      · cases h
      · rename_i h3
        simp at h1 h2 h3
        exact ⟨by omega, h2, by omega⟩
def FRel (x : PT) (w : World) (v i : Value) (wr : World) : Prop :=
  ∃ k g n c : Nat, k ≤ x.cs.length ∧ i = .int .i64 k ∧ v = .slice (some ⟨g, 0, none⟩) n c ∧ wr.ownsRow w.heap.size 5 1 (.slice (some ⟨g, 0, none⟩) n c) n ((headB x ++ cellsB (x.cs.take k)).map (Value.int .u8)) ∧ Below w.heap.size w wr
def FPost (x : PT) (w : World) (e : Ending) (w' : World) : Prop := ∃ V n, e = .returned V ∧ 0 < n ∧ n ≤ 1000 ∧ w'.ownsRow w.heap.size 5 1 V n ((partB x).map (Value.int .u8)) ∧ Below w.heap.size w w'
end Go.Proofs.YtlbpmbdogkfecaaDoor.Prt

namespace Go.Proofs.YtlbpmbdogkfecaaDoor.Prt

open Go.RowKit Go.PlainAid Go.Proofs.YtlbpmbdogkfecaaDoor.Oct Go.Proofs.YtlbpmbdogkfecaaDoor.Flt Go.Proofs.YtlbpmbdogkfecaaDoor.Rdr Go.Proofs.YtlbpmbdogkfecaaDoor.Nam

open Go.Proofs.YtlbpmbdogkfecaaDoor.Hdr (own_bytes owns_base iface_of_wrong)

open Go.Proofs.YtlbpmbdogkfecaaDoor.Byt (bytes_kept own_open)

set_option linter.unusedVariables false

set_option linter.unusedSimpArgs false

theorem fb_all {α : Type} (f : List α → α → Nat) : ∀ (l pre : List α), (fb f pre l).1 = 0 → ∀ (i : Nat) (x : α), l[i]? = some x → f (pre ++ l.take i) x = 0
  | [], _, _, i, x, h => by simp at h
  | y :: l, pre, h, i, x, hx => by
    rw [fb] at h
    split at h
    · rename_i h0
      cases i with
      | zero =>
        obtain rfl : y = x := by simpa using hx
        simpa using h0
      | succ i =>
        have := fb_all f l (pre ++ [y]) h i x (by simpa using hx)
        simpa using this
    · rename_i h0
      exact absurd h h0
theorem bad_rg {l : List PT} (h : (badP l).1 = 0) : ∀ x ∈ l, rg x = 0 := by
  intro x hx
  obtain ⟨i, hi, rfl⟩ := List.mem_iff_getElem.1 hx
  have h1 := fb_all b1P l [] h i _ (List.getElem?_eq_getElem hi)
  unfold b1P at h1
  split at h1
  · assumption
  · exact h1
def textB (l : List PT) : List Int := l.flatMap partB
theorem textB_snoc (l : List PT) (x : PT) : textB (l ++ [x]) = textB l ++ partB x := by simp [textB]
def PNo (l : List PT) (w : World) (n : Nat) (xs : List Int) (e : Ending) (w' : World) : Prop :=
  ∃ V x, e = .returned (.tuple #[V, x]) ∧ w'.ownsRow w.heap.size 5 1 V n (xs.map (Value.int .u8)) ∧ Wrong w' x (badP l).1 (sec2 (badP l).1) (badP l).2 ∧ Below w.heap.size w w'
def PYes (l : List PT) (w : World) (xs : List Int) (e : Ending) (w' : World) : Prop :=
  ∃ V n, e = .returned (.tuple #[V, .nilIface]) ∧ w'.ownsRow w.heap.size 5 1 V n ((xs ++ textB l).map (Value.int .u8)) ∧ Below w.heap.size w w'
def GRel (l : List PT) (len : Nat) (xs : List Int) (w : World) (v i : Value) (wr : World) : Prop :=
  ∃ k n : Nat, k ≤ l.length ∧ i = .int .i64 k ∧ n ≤ len + k * 1000 ∧ wr.ownsRow w.heap.size 5 1 v n ((xs ++ textB (l.take k)).map (Value.int .u8)) ∧ Below w.heap.size w wr
end Go.Proofs.YtlbpmbdogkfecaaDoor.Prt

namespace Go.Proofs.YtlbpmbdogkfecaaDoor.Prt

open Go.RowKit Go.PlainAid Go.Proofs.YtlbpmbdogkfecaaDoor.Oct Go.Proofs.YtlbpmbdogkfecaaDoor.Flt Go.Proofs.YtlbpmbdogkfecaaDoor.Rdr Go.Proofs.YtlbpmbdogkfecaaDoor.Nam

set_option linter.unusedVariables false

set_option linter.unusedSimpArgs false

def trS (b : Bool) : ByteArray := strOfNums (low (bitN b) 1)
theorem trS_size (b : Bool) : (trS b).size = 1 := by unfold trS; rw [strOfNums_size, low_length]
theorem partB_len {x : PT} (h : rg x = 0) : (partB x).length ≤ 200 := by
  obtain ⟨_, hrb, hc⟩ := rg_right h
  have hsz : x.nm.size ≤ 16 := by
    by_cases h : 1 ≤ x.nm.size ∧ x.nm.size ≤ 16
    · exact h.2
    · rw [right_out h] at hrb; cases hrb
  unfold partB headB
  simp [low_length, Nam.bytesOf_len, cellsB_len]
  omega
theorem textB_len (l : List PT) (h : ∀ x ∈ l, rg x = 0) : (textB l).length ≤ l.length * 200 := by
  induction l with
  | nil => simp [textB]
  | cons x l ih =>
    have h1 := ih fun y hy => h y (List.mem_cons_of_mem _ hy)
    have h2 := partB_len (h x List.mem_cons_self)
    have : textB (x :: l) = partB x ++ textB l := rfl
    rw [this, List.length_append, List.length_cons]
    omega
def HRel (l : List PT) (w : World) (v i : Value) (wr : World) : Prop := ∃ k : Nat, k ≤ l.length ∧ i = .int .i64 k ∧ v = .string (strOfNums (textB (l.take k))) ∧ Below w.heap.size w wr
end Go.Proofs.YtlbpmbdogkfecaaDoor.Prt
