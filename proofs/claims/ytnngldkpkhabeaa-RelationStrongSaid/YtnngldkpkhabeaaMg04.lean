/- What the calls of package octet that only reckon (width, Fits, Bit, Count, Signed), and the document's answers for them (Size, power, Fits, Bit, Count, Signed), return, for every argument. No condition but that the arguments fit their kinds. What package octet's Bit and Signed return, and the document's Bit, Fits and Signed, for every argument. No condition but that the arguments fit their kinds. What package octet's Get, and the document's, return: the number of the bytes there, or 0 and false. Condition: the text takes no more than what the model lets a text take. What package reader's calls do to a reader: its text, place, section, and what is wrong: New, Enter, Err, Fault, Place, Left, Fail, Need. Condition: the table of names holds what the program lays there. What package reader's Fail and Need do to a reader: the first that is wrong is kept. Condition: the table of names holds what the program lays there. -/
import Derived.Test.YtnngldkpkhabeaaProg
import Derived.Test.YtnngldkpkhabeaaMg03
import Derived.WalkKit
import Derived.Lib.Hide
import Derived.Test.YtnngldkpkhabeaaMg02
import Derived.Deep.RegionWith
import Derived.Deep.QuietTactic
import Derived.BigQuiet
namespace Go.Proofs.Ytnngldkpkhabeaa.Oct

open Go.RowKit

end Go.Proofs.Ytnngldkpkhabeaa.Oct

namespace Go.Proofs.Ytnngldkpkhabeaa.Oct

open Go.RowKit

/-- Bit k of v. -/
def bitB (v k : Nat) : Bool := v / 2 ^ k % 2 == 1
theorem bit_run (v k : Nat) (hv : v ≤ 18446744073709551615) : bits .and .u64 ((v : Int) / 2 ^ k) 1 = ((v / 2 ^ k % 2 : Nat) : Int) := by
  have h := and_one_run (v / 2 ^ k) (by have := Nat.div_le_self v (2 ^ k); omega)
  rw [Int.natCast_ediv] at h
  simpa using h
theorem bit_end (v k : Nat) : (((v / 2 ^ k % 2 : Nat) : Int) == 1) = bitB v k := by
  unfold bitB; generalize v / 2 ^ k % 2 = x; rw [Bool.eq_iff_iff]; simp; omega
theorem div_step (v j : Nat) : v / 2 ^ (j + 1) = v / 2 ^ j / 2 := by rw [Nat.pow_succ, Nat.div_div_eq_div_mul]

end Go.Proofs.Ytnngldkpkhabeaa.Oct

namespace Go.Proofs.Ytnngldkpkhabeaa.Oct

open Go.RowKit Go.PlainAid

/-- Are n bytes there from place p on? -/
def getB (s : ByteArray) (p n : Int) : Bool := sizeB n && decide (0 ≤ p) && decide (p + n ≤ s.size)
/-- The number that is got. -/
def getV (s : ByteArray) (p n : Int) : Nat := if getB s p n then getN s p.toNat n.toNat else 0
theorem getV_lt (s : ByteArray) (p n : Int) : getV s p n ≤ 18446744073709551615 := by
  unfold getV
  split
  · rename_i h
    unfold getB at h
    simp at h
    obtain ⟨k, rfl, h1, h2, h3⟩ := size_nat h.1.1
    have := getN_lt8 s p.toNat (k : Int).toNat (by omega)
    omega
  · omega

end Go.Proofs.Ytnngldkpkhabeaa.Oct
namespace Go.Proofs.Ytnngldkpkhabeaa.Rdr

open Go.RowKit Go.PlainAid Go.Proofs.Ytnngldkpkhabeaa.Flt

/-- A reader: its text, its place, its section, and what is wrong (class 0: nothing), where. -/
structure St where
  s : ByteArray
  p : Nat
  sec : Int
  k : Nat
  fs : Int
  fa : Int
def rdCells (t : St) (x : Value) : Array Value := #[.string t.s, .int .i64 t.p, .int .i64 t.sec, x]
/-- All that was there, but block g, is as it was. -/
structure Just (g : Nat) (w w' : World) : Prop where
  os : w'.os = w.os
  tape : w'.tape = w.tape
  output : w'.output = w.output
  size : w.heap.size ≤ w'.heap.size
  block : ∀ k, k < w.heap.size → k ≠ g → w'.heap[k]? = w.heap[k]?
theorem Just.refl (g : Nat) (w : World) : Just g w w := ⟨rfl, rfl, rfl, Nat.le_refl _, fun _ _ _ => rfl⟩
theorem Just.of_below {g : Nat} {w w' : World} (b : Below w.heap.size w w') : Just g w w' := ⟨b.os, b.tape, b.output, b.size, fun k hk _ => b.block k hk⟩
theorem Just.trans {g : Nat} {a b c : World} (h : Just g a b) (k : Just g b c) : Just g a c :=
  ⟨k.os.trans h.os, k.tape.trans h.tape, k.output.trans h.output, Nat.le_trans h.size k.size, fun i hi hg => (k.block i (Nat.lt_of_lt_of_le hi h.size) hg).trans (h.block i hi hg)⟩
theorem Just.setCell {g : Nat} {a w : World} (h : Just g a w) (o : Nat) (v : Value) : Just g a (w.setCell ⟨g, o, none⟩ v) := by
  have b := (Below.refl 0 w).setCell (p := ⟨g, o, none⟩) (Nat.zero_le _) v
  exact ⟨b.os.trans h.os, b.tape.trans h.tape, b.output.trans h.output, Nat.le_trans h.size b.size, fun k hk hg => (heap_setCell_other w _ k v hg).trans (h.block k hk hg)⟩
theorem Just.below {g B : Nat} {w w' : World} (h : Just g w w') (hB : B ≤ g) (hg : g < w.heap.size) : Below B w w' := ⟨h.os, h.tape, h.output, h.size, fun k hk => h.block k (by omega) (by omega)⟩
theorem Just.drew {g : Nat} {a w : World} (h : Just g a w) : Just g a w.drew := ⟨h.os, h.tape, h.output, h.size, h.block⟩
def secS (t : St) (n : Int) : St := { t with sec := n }
end Go.Proofs.Ytnngldkpkhabeaa.Rdr

namespace Go.Proofs.Ytnngldkpkhabeaa.Rdr

open Go.RowKit Go.PlainAid Go.Proofs.Ytnngldkpkhabeaa.Flt

def failS (t : St) (k a : Int) : St := if t.k = 0 ∧ 1 ≤ k ∧ k ≤ 18 then { t with k := k.toNat, fs := t.sec, fa := a } else t
theorem fail_had {t : St} {k a : Int} (h : t.k ≠ 0) : failS t k a = t := by unfold failS; rw [if_neg (by omega)]
theorem fail_no {t : St} {k a : Int} (h : k < 1 ∨ 18 < k) : failS t k a = t := by unfold failS; rw [if_neg (by omega)]
theorem fail_yes {t : St} {k : Nat} {a : Int} (h0 : t.k = 0) (h1 : 1 ≤ k) (h2 : k ≤ 18) : failS t k a = { t with k := k, fs := t.sec, fa := a } := by
  unfold failS; rw [if_pos (by omega)]; simp
end Go.Proofs.Ytnngldkpkhabeaa.Rdr
