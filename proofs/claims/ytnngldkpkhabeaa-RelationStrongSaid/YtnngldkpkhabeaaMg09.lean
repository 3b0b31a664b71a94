/- What package header's Put lays behind bytes. Condition: the variables hold what the program lays there; at most 2 to the power 30 bytes come in. The chapter's example, asked of the program: it returns true, and changes nothing that was there. No condition. Bytes that came in, and bytes of the call's own, as text. No condition. A partition's bytes, as the program makes them. Condition: the partition is right. What package parts' Put lays behind bytes. Condition: the variables hold what the program lays there; at most 2 to the power 30 bytes come in. The document's bytes of partitions. Condition: they are right. -/
import Derived.Test.YtnngldkpkhabeaaMg07
import Derived.Test.YtnngldkpkhabeaaMg08
import Derived.IntWalk
import Derived.Lib.SlBytesConst
import Derived.Test.YtnngldkpkhabeaaMg01
import Derived.ChangeSame
import Derived.Deep.RegionHeld3
namespace Go.Proofs.Ytnngldkpkhabeaa.Hdr

open Go.RowKit Go.PlainAid Go.Proofs.Ytnngldkpkhabeaa.Oct Go.Proofs.Ytnngldkpkhabeaa.Flt Go.Proofs.Ytnngldkpkhabeaa.Rdr Go.Proofs.Ytnngldkpkhabeaa.Byt

set_option linter.unusedVariables false

set_option linter.unusedSimpArgs false

theorem owns_base {w : World} {B B' n : Nat} {v : Value} {xs : List Value} (h : w.ownsRow B 5 1 v n xs) (hb : B' ≤ B) : w.ownsRow B' 5 1 v n xs := by
  obtain ⟨e1, e2⟩ := h
  refine ⟨e1, ?_⟩
  rcases e2 with h | ⟨g, c, cur, h1, h2, h3⟩
  · exact .inl h
  · exact .inr ⟨g, c, cur, h1, Nat.le_trans hb h2, h3⟩
/-- A header's numbers and their sizes, in their order. -/
def fldF (tot ep fi a b c d : Nat) : Nat → Nat × Nat
  | 0 => (tot, 4)
  | 1 => (ep, 8)
  | 2 => (fi, 1)
  | 3 => (a, 1)
  | 4 => (b, 1)
  | 5 => (c, 2)
  | _ => (d, 2)
def accB (F : Nat → Nat × Nat) : Nat → List Int
  | 0 => [67, 87, 77, 49]
  | k + 1 => accB F k ++ low (F k).1 (F k).2
theorem own_bytes {w : World} {B g n c : Nat} {xs : List Int} (h : w.ownsRow B 5 1 (.slice (some ⟨g, 0, none⟩) n c) n (xs.map (Value.int .u8))) : IsBytes w (some ⟨g, 0, none⟩) n xs := by
  have hl : xs.length = n := by have := h.1; simpa using this
  refine ⟨hl, fun _ => ⟨⟨g, 0, none⟩, rfl, fun j v hj => ?_⟩⟩
  have hjn : j < n := by
    rcases Nat.lt_or_ge j (xs.map (Value.int .u8)).length with hh | hh
    · rw [List.length_map] at hh; omega
    · rw [List.getElem?_eq_none hh] at hj; cases hj
  have := h.cellAt j (by omega)
  have e : (Addr.mk g 0 none).add j = ⟨g, j, none⟩ := by cases j <;> simp [Addr.add]
  rw [e, this, hj]
/-- Bytes of the call's own, and no error. -/
def HYes (w : World) (n : Nat) (xs : List Int) (e : Ending) (w' : World) : Prop :=
  ∃ V, e = .returned (.tuple #[V, .nilIface]) ∧ w'.ownsRow w.heap.size 5 1 V n (xs.map (Value.int .u8)) ∧ Below w.heap.size w w'
def PRel (F : Nat → Nat × Nat) (w : World) (v i : Value) (wr : World) : Prop :=
  ∃ k g n c : Nat, k ≤ 7 ∧ i = .int .i64 k ∧ v = .slice (some ⟨g, 0, none⟩) n c ∧ n ≤ 4 + 8 * k ∧ 1 ≤ n ∧ IsBytes wr (some ⟨g, 0, none⟩) n (accB F k) ∧ Below w.heap.size w wr
end Go.Proofs.Ytnngldkpkhabeaa.Hdr
namespace Go.Proofs.Ytnngldkpkhabeaa.Oct

open Go.RowKit Go.PlainAid

end Go.Proofs.Ytnngldkpkhabeaa.Oct
namespace Go.Proofs.Ytnngldkpkhabeaa.Byt

open Go.RowKit Go.PlainAid Go.Proofs.Ytnngldkpkhabeaa.Args Go.Proofs.Ytnngldkpkhabeaa.Oct Go.Proofs.Ytnngldkpkhabeaa.Nam

set_option linter.unusedVariables false

set_option linter.unusedSimpArgs false

/-- What the walk needs of the bytes that came in: the first 'len' of them. -/
theorem bytes_of {w : World} {a : Option Addr} {len cap : Nat} {zs : List Int} (h : IsRow .u8 w a len cap zs) : ∃ xs, IsBytes w a len xs ∧ (∀ x ∈ xs, 0 ≤ x ∧ x ≤ 255) ∧ (a = none → len = 0 ∧ cap = 0) ∧ len ≤ cap := by
  rcases h with ⟨rfl, rfl, rfl, rfl⟩ | ⟨x, rfl, hl, hm, hz, hcell, hwz⟩
  · exact ⟨[], ⟨rfl, fun h => absurd h (by omega)⟩, by simp, fun _ => ⟨rfl, rfl⟩, Nat.le_refl _⟩
  · refine ⟨zs.take len, ⟨by simp; omega, fun _ => ⟨x, rfl, fun j v hj => ?_⟩⟩, fun y hy => ?_, fun h => (by cases h), hl⟩
    · have hjl : j < len := by
        rcases Nat.lt_or_ge j len with h | h
        · exact h
        · rw [List.getElem?_eq_none (by simp; omega)] at hj; cases hj
      rw [hcell j (by omega)]
      have hz2 : j < zs.length := by omega
      simp [hjl, List.getElem?_eq_getElem hz2] at hj
      subst hj
      simp [List.getD, List.getElem?_eq_getElem hz2]
    · exact bounds_u8 (hwz y (List.mem_of_mem_take hy))
theorem owns_at {w w' : World} {B g n cap : Nat} {xs : List Value} (h : w.ownsRow B 5 1 (.slice (some ⟨g, 0, none⟩) n cap) n xs) (hx : w'.heap[g]? = w.heap[g]?) : w'.ownsRow B 5 1 (.slice (some ⟨g, 0, none⟩) n cap) n xs := by
  obtain ⟨e1, e2⟩ := h
  refine ⟨e1, ?_⟩
  rcases e2 with ⟨h, _⟩ | ⟨g', c', cur, h, h2⟩
  · cases h
  · cases h
    exact .inr ⟨g, cap, cur, rfl, h2.1, by rw [hx]; exact h2.2.1, h2.2.2⟩
theorem owns_kept {w w' : World} {B n : Nat} {v : Value} {xs : List Value} (h : w.ownsRow B 5 1 v n xs) (b : Below w.heap.size w w') : w'.ownsRow B 5 1 v n xs := by
  obtain ⟨e1, e2⟩ := h
  refine ⟨e1, ?_⟩
  rcases e2 with h | ⟨g, c, cur, h1, h2, h3, h4⟩
  · exact .inl h
  · have hlt : g < w.heap.size := by
      rcases Nat.lt_or_ge g w.heap.size with hh | hh
      · exact hh
      · rw [Array.getElem?_eq_none hh] at h3; cases h3
    exact .inr ⟨g, c, cur, h1, h2, (b.block _ hlt).trans h3, h4⟩
/-- Bytes of the call's own, one at least, lie in a block. -/
theorem own_open {w : World} {B n : Nat} {v : Value} {xs : List Int} (h : w.ownsRow B 5 1 v n (xs.map (Value.int .u8))) (hn : 0 < n) : ∃ G c : Nat, v = .slice (some ⟨G, 0, none⟩) n c ∧ B ≤ G ∧ G < w.heap.size ∧ n ≤ c := by
  rcases h.2 with ⟨_, h0⟩ | ⟨g, cap, cur, e1, e2, e3, e4, _⟩
  · omega
  · refine ⟨g, cap, e1, e2, ?_, e4⟩
    rcases Nat.lt_or_ge g w.heap.size with hh | hh
    · exact hh
    · rw [Array.getElem?_eq_none hh] at e3; cases e3
end Go.Proofs.Ytnngldkpkhabeaa.Byt
namespace Go.Proofs.Ytnngldkpkhabeaa.Prt

open Go.RowKit Go.PlainAid Go.Proofs.Ytnngldkpkhabeaa.Oct Go.Proofs.Ytnngldkpkhabeaa.Flt Go.Proofs.Ytnngldkpkhabeaa.Rdr Go.Proofs.Ytnngldkpkhabeaa.Nam

open Go.Proofs.Ytnngldkpkhabeaa.Hdr (own_bytes owns_base)

open Go.Proofs.Ytnngldkpkhabeaa.Byt (bytes_kept own_open)

set_option linter.unusedVariables false

set_option linter.unusedSimpArgs false

def bitN (b : Bool) : Nat := if b then 1 else 0
theorem bitN_le (b : Bool) : bitN b ≤ 1 := by unfold bitN; split <;> omega
def QPost (w : World) (xs ys : List Int) (e : Ending) (w' : World) : Prop := ∃ G n c : Nat, e = .returned (.tuple #[.slice (some ⟨G, 0, none⟩) n c, .bool true]) ∧ n = (xs ++ ys).length ∧ w.heap.size ≤ G ∧ w'.ownsRow w.heap.size 5 1 (.slice (some ⟨G, 0, none⟩) n c) n ((xs ++ ys).map (Value.int .u8)) ∧ Below w.heap.size w w'
theorem qpost {w : World} {xs ys : List Int} {e : Ending} {w' : World} (h : PutPost w xs true ys e w') : QPost w xs ys e w' := by
  obtain ⟨n, c, rfl, ho, hb⟩ := h
  exact ⟨_, n, c, rfl, by have := ho.1; simpa using this.symm, Nat.le_refl _, ho, hb⟩
def cellB (x : C2) : List Int := low (bitN x.kept) 1 ++ low x.v 4
def cellsB (l : List C2) : List Int := l.flatMap cellB
theorem cellsB_snoc (l : List C2) (x : C2) : cellsB (l ++ [x]) = cellsB l ++ cellB x := by simp [cellsB]
theorem cellsB_len (l : List C2) : (cellsB l).length = l.length * 5 := by
  induction l with
  | nil => rfl
  | cons x l ih =>
    have : cellsB (x :: l) = cellB x ++ cellsB l := rfl
    rw [this, List.length_append, ih, List.length_cons]
    simp [cellB, low_length]; omega
def headB (x : PT) : List Int := (((low x.id.toNat 1 ++ low (bitN x.may) 1) ++ ((x.nm.size : Int) :: Nam.bytesOf x.nm)) ++ low x.cs.length 1)
def partB (x : PT) : List Int := headB x ++ cellsB x.cs
/-- What the numbers of a partition's cells are like. -/
def WideC (x : PT) : Prop := ∀ y ∈ x.cs, y.v ≤ 4294967295
theorem rg_right {x : PT} (h : rg x = 0) : (0 ≤ x.id ∧ x.id ≤ 255) ∧ rightB x.nm = true ∧ x.cs.length ≤ 16 := by
  unfold rg rgtP at h
  split at h
  · cases h
  · rename_i h1
    split at h
    · cases h
    · rename_i h2
      split at h
      · cases h
      · rename_i h3
        simp at h1 h2 h3
        exact ⟨by omega, h2, by omega⟩
def FRel (x : PT) (w : World) (v i : Value) (wr : World) : Prop :=
  ∃ k g n c : Nat, k ≤ x.cs.length ∧ i = .int .i64 k ∧ v = .slice (some ⟨g, 0, none⟩) n c ∧ wr.ownsRow w.heap.size 5 1 (.slice (some ⟨g, 0, none⟩) n c) n ((headB x ++ cellsB (x.cs.take k)).map (Value.int .u8)) ∧ Below w.heap.size w wr
def FPost (x : PT) (w : World) (e : Ending) (w' : World) : Prop := ∃ V n, e = .returned V ∧ 0 < n ∧ n ≤ 1000 ∧ w'.ownsRow w.heap.size 5 1 V n ((partB x).map (Value.int .u8)) ∧ Below w.heap.size w w'
end Go.Proofs.Ytnngldkpkhabeaa.Prt

namespace Go.Proofs.Ytnngldkpkhabeaa.Prt

open Go.RowKit Go.PlainAid Go.Proofs.Ytnngldkpkhabeaa.Oct Go.Proofs.Ytnngldkpkhabeaa.Flt Go.Proofs.Ytnngldkpkhabeaa.Rdr Go.Proofs.Ytnngldkpkhabeaa.Nam

open Go.Proofs.Ytnngldkpkhabeaa.Hdr (own_bytes owns_base)

open Go.Proofs.Ytnngldkpkhabeaa.Byt (bytes_kept own_open)

set_option linter.unusedVariables false

set_option linter.unusedSimpArgs false

theorem fb_all {α : Type} (f : List α → α → Nat) : ∀ (l pre : List α), (fb f pre l).1 = 0 → ∀ (i : Nat) (x : α), l[i]? = some x → f (pre ++ l.take i) x = 0
  | [], _, _, i, x, h => by simp at h
  | y :: l, pre, h, i, x, hx => by
    rw [fb] at h
    split at h
    · rename_i h0
      cases i with
      | zero =>
        obtain rfl : y = x := by simpa using hx
        simpa using h0
      | succ i =>
        have := fb_all f l (pre ++ [y]) h i x (by simpa using hx)
        simpa using this
    · rename_i h0
      exact absurd h h0
theorem bad_rg {l : List PT} (h : (badP l).1 = 0) : ∀ x ∈ l, rg x = 0 := by
  intro x hx
  obtain ⟨i, hi, rfl⟩ := List.mem_iff_getElem.1 hx
  have h1 := fb_all b1P l [] h i _ (List.getElem?_eq_getElem hi)
  unfold b1P at h1
  split at h1
  · assumption
  · exact h1
def textB (l : List PT) : List Int := l.flatMap partB
theorem textB_snoc (l : List PT) (x : PT) : textB (l ++ [x]) = textB l ++ partB x := by simp [textB]
def PYes (l : List PT) (w : World) (xs : List Int) (e : Ending) (w' : World) : Prop :=
  ∃ V n, e = .returned (.tuple #[V, .nilIface]) ∧ w'.ownsRow w.heap.size 5 1 V n ((xs ++ textB l).map (Value.int .u8)) ∧ Below w.heap.size w w'
def GRel (l : List PT) (len : Nat) (xs : List Int) (w : World) (v i : Value) (wr : World) : Prop :=
  ∃ k n : Nat, k ≤ l.length ∧ i = .int .i64 k ∧ n ≤ len + k * 1000 ∧ wr.ownsRow w.heap.size 5 1 v n ((xs ++ textB (l.take k)).map (Value.int .u8)) ∧ Below w.heap.size w wr
end Go.Proofs.Ytnngldkpkhabeaa.Prt

namespace Go.Proofs.Ytnngldkpkhabeaa.Prt

open Go.RowKit Go.PlainAid Go.Proofs.Ytnngldkpkhabeaa.Oct Go.Proofs.Ytnngldkpkhabeaa.Flt Go.Proofs.Ytnngldkpkhabeaa.Rdr Go.Proofs.Ytnngldkpkhabeaa.Nam

set_option linter.unusedVariables false

set_option linter.unusedSimpArgs false

def trS (b : Bool) : ByteArray := strOfNums (low (bitN b) 1)
theorem trS_size (b : Bool) : (trS b).size = 1 := by unfold trS; rw [strOfNums_size, low_length]
theorem partB_len {x : PT} (h : rg x = 0) : (partB x).length ≤ 200 := by
  obtain ⟨_, hrb, hc⟩ := rg_right h
  have hsz : x.nm.size ≤ 16 := by
    by_cases h : 1 ≤ x.nm.size ∧ x.nm.size ≤ 16
    · exact h.2
    · rw [right_out h] at hrb; cases hrb
  unfold partB headB
  simp [low_length, Nam.bytesOf_len, cellsB_len]
  omega
theorem textB_len (l : List PT) (h : ∀ x ∈ l, rg x = 0) : (textB l).length ≤ l.length * 200 := by
  induction l with
  | nil => simp [textB]
  | cons x l ih =>
    have h1 := ih fun y hy => h y (List.mem_cons_of_mem _ hy)
    have h2 := partB_len (h x List.mem_cons_self)
    have : textB (x :: l) = partB x ++ textB l := rfl
    rw [this, List.length_append, List.length_cons]
    omega
def HRel (l : List PT) (w : World) (v i : Value) (wr : World) : Prop := ∃ k : Nat, k ≤ l.length ∧ i = .int .i64 k ∧ v = .string (strOfNums (textB (l.take k))) ∧ Below w.heap.size w wr
end Go.Proofs.Ytnngldkpkhabeaa.Prt
