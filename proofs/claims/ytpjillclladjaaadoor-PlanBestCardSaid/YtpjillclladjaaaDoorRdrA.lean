
/- What package reader's calls do to a reader: its text, place, section, and what is wrong: New, Enter, Err, Fault, Place, Left, Fail, Need. Condition: the table of names holds what the program lays there. What package reader's Fail and Need do to a reader: the first that is wrong is kept. Condition: the table of names holds what the program lays there. -/

import Derived.Test.YtpjillclladjaaaDoorFltO

import Derived.Test.YtpjillclladjaaaDoorFltK

import Derived.Test.YtpjillclladjaaaDoorOctA

import Derived.Deep.RegionWith

import Derived.Deep.QuietTactic

import Derived.BigQuiet

namespace Go.Proofs.YtpjillclladjaaaDoor.Rdr

open Go.RowKit Go.PlainAid Go.Proofs.YtpjillclladjaaaDoor.Flt

/-- A reader: its text, its place, its section, and what is wrong (class 0: nothing), where. -/
structure St where
  s : ByteArray
  p : Nat
  sec : Int
  k : Nat
  fs : Int
  fa : Int
/-- What is wrong, as an error. -/
def Wrong (w : World) (x : Value) (k : Nat) (s a : Int) : Prop := (k = 0 ∧ s = 0 ∧ a = 0 ∧ x = .nilIface) ∨ (1 ≤ k ∧ k ≤ 18 ∧ IsFault w x [(true, s), (false, a)] k)
def rdCells (t : St) (x : Value) : Array Value := #[.string t.s, .int .i64 t.p, .int .i64 t.sec, x]
/-- All that was there, but block g, is as it was. -/
structure Just (g : Nat) (w w' : World) : Prop where
  os : w'.os = w.os
  tape : w'.tape = w.tape
  output : w'.output = w.output
  size : w.heap.size ≤ w'.heap.size
  block : ∀ k, k < w.heap.size → k ≠ g → w'.heap[k]? = w.heap[k]?
theorem Just.refl (g : Nat) (w : World) : Just g w w := ⟨rfl, rfl, rfl, Nat.le_refl _, fun _ _ _ => rfl⟩
theorem Just.of_below {g : Nat} {w w' : World} (b : Below w.heap.size w w') : Just g w w' := ⟨b.os, b.tape, b.output, b.size, fun k hk _ => b.block k hk⟩
theorem Just.trans {g : Nat} {a b c : World} (h : Just g a b) (k : Just g b c) : Just g a c :=
  ⟨k.os.trans h.os, k.tape.trans h.tape, k.output.trans h.output, Nat.le_trans h.size k.size, fun i hi hg => (k.block i (Nat.lt_of_lt_of_le hi h.size) hg).trans (h.block i hi hg)⟩
theorem Just.setCell {g : Nat} {a w : World} (h : Just g a w) (o : Nat) (v : Value) : Just g a (w.setCell ⟨g, o, none⟩ v) := by
  have b := (Below.refl 0 w).setCell (p := ⟨g, o, none⟩) (Nat.zero_le _) v
  exact ⟨b.os.trans h.os, b.tape.trans h.tape, b.output.trans h.output, Nat.le_trans h.size b.size, fun k hk hg => (heap_setCell_other w _ k v hg).trans (h.block k hk hg)⟩
theorem Just.below {g B : Nat} {w w' : World} (h : Just g w w') (hB : B ≤ g) (hg : g < w.heap.size) : Below B w w' := ⟨h.os, h.tape, h.output, h.size, fun k hk => h.block k (by omega) (by omega)⟩
theorem Just.drew {g : Nat} {a w : World} (h : Just g a w) : Just g a w.drew := ⟨h.os, h.tape, h.output, h.size, h.block⟩
theorem Wrong.kept {w w' : World} {x : Value} {k : Nat} {s a : Int} (h : Wrong w x k s a) (b : KeptW w w') : Wrong w' x k s a := by
  rcases h with h | ⟨h1, h2, h3⟩
  · exact .inl h
  · exact .inr ⟨h1, h2, h3.only b⟩
theorem of_wrong {x : Value} {k : Nat} {s a : Int} {w0 : World} (w : World) (hw : Wrong w0 x k s a) (hk : KeptW w0 w) :
    Calls Tryd.prog 12 #[x] w fun e w' => e = .returned (fltV k s a) ∧ Below w.heap.size w w' := by
  rcases hw with ⟨rfl, rfl, rfl, rfl⟩ | ⟨_, _, h⟩
  · exact of_nil w
  · exact of_any x [(true, s), (false, a)] k w (h.only hk) (by simp)
def secS (t : St) (n : Int) : St := { t with sec := n }
end Go.Proofs.YtpjillclladjaaaDoor.Rdr

namespace Go.Proofs.YtpjillclladjaaaDoor.Rdr

open Go.RowKit Go.PlainAid Go.Proofs.YtpjillclladjaaaDoor.Flt

def failS (t : St) (k a : Int) : St := if t.k = 0 ∧ 1 ≤ k ∧ k ≤ 18 then { t with k := k.toNat, fs := t.sec, fa := a } else t
theorem fail_had {t : St} {k a : Int} (h : t.k ≠ 0) : failS t k a = t := by unfold failS; rw [if_neg (by omega)]
theorem fail_no {t : St} {k a : Int} (h : k < 1 ∨ 18 < k) : failS t k a = t := by unfold failS; rw [if_neg (by omega)]
theorem fail_yes {t : St} {k : Nat} {a : Int} (h0 : t.k = 0) (h1 : 1 ≤ k) (h2 : k ≤ 18) : failS t k a = { t with k := k, fs := t.sec, fa := a } := by
  unfold failS; rw [if_pos (by omega)]; simp
theorem err_of {w : World} {x : Value} {ws : List (Bool × Int)} {k : Int} (h : IsFault w x ws k) : ∃ u y, x = .iface u y := by
  cases ws with
  | nil => exact ⟨_, _, h⟩
  | cons a ws => obtain ⟨g, y, e, _⟩ := h; exact ⟨_, _, e⟩
end Go.Proofs.YtpjillclladjaaaDoor.Rdr
