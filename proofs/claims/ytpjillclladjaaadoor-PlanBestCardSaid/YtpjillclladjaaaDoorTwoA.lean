
/- Worlds of which just a block and a row have changed; rows of the call's own. It says nothing of the program. No condition. -/

import Derived.Test.YtpjillclladjaaaDoorProg

import Derived.WalkKit

import Derived.PlainAid

import Derived.Lib.Hide

import Derived.Deep.CutRange

import Derived.BigQuiet

import Derived.BigRegion

import Derived.Deep.RegionHeld3

import Derived.OwnWalk

import Derived.IntWalk

import Derived.Laws.AppendOwn

import Derived.Laws.OwnMore

import Derived.Lib.SliceRun

import Derived.Deep.CutBlock

namespace Go.Proofs.YtpjillclladjaaaDoor.Cel

open Go.RowKit Go.PlainAid

set_option linter.unusedVariables false

theorem own_slice {w : World} {B e s n : Nat} {v : Value} {xs : List Value} (h : w.ownsRow B e s v n xs) : ∃ A c, v = .slice A n c := by
  rcases h.2 with ⟨rfl, rfl⟩ | ⟨g, cap, cur, rfl, _⟩
  · exact ⟨none, 0, rfl⟩
  · exact ⟨_, _, rfl⟩
theorem own_keep {w w' : World} {B e s n : Nat} {v : Value} {xs : List Value} (h : w.ownsRow B e s v n xs) (b : Below w.heap.size w w') : w'.ownsRow B e s v n xs := by
  refine ⟨h.1, ?_⟩
  rcases h.2 with h | ⟨g, cap, cur, h1, h2, h3, h4⟩
  · exact .inl h
  · exact .inr ⟨g, cap, cur, h1, h2, (b.block g (lt_of_block h3)).trans h3, h4⟩
/-- Just block g and the row A have changed. -/
structure Two (g : Nat) (A : Option Addr) (w w' : World) : Prop where
  os : w'.os = w.os
  tape : w'.tape = w.tape
  output : w'.output = w.output
  size : w.heap.size ≤ w'.heap.size
  block : ∀ k, k < w.heap.size → k ≠ g → (∀ a, A = some a → a.block ≠ k) → w'.heap[k]? = w.heap[k]?
theorem Two.refl (g : Nat) (A : Option Addr) (w : World) : Two g A w w := ⟨rfl, rfl, rfl, Nat.le_refl _, fun _ _ _ _ => rfl⟩
theorem Two.trans {g : Nat} {A : Option Addr} {a b c : World} (h : Two g A a b) (k : Two g A b c) : Two g A a c :=
  ⟨k.os.trans h.os, k.tape.trans h.tape, k.output.trans h.output, Nat.le_trans h.size k.size, fun i hi h1 h2 => (k.block i (Nat.lt_of_lt_of_le hi h.size) h1 h2).trans (h.block i hi h1 h2)⟩
theorem two_below {g : Nat} {A : Option Addr} {w w' : World} (b : Below w.heap.size w w') : Two g A w w' := ⟨b.os, b.tape, b.output, b.size, fun k hk _ _ => b.block k hk⟩
theorem two_cell {g : Nat} {A : Option Addr} (w : World) (a : Addr) (v : Value) (h : a.block = g ∨ ∃ b, A = some b ∧ b.block = a.block) : Two g A w (w.setCell a v) :=
  ⟨rfl, rfl, rfl, by simp, fun k _ h1 h2 => heap_setCell_other w a k v (by
    rcases h with h | ⟨b, hb, h⟩
    · rw [h]; exact h1
    · intro e; exact h2 b hb (by rw [h]; exact e.symm))⟩
theorem Two.below {g : Nat} {A : Option Addr} {w0 w w' : World} {B : Nat} (h : Below B w0 w) (k : Two g A w w') (hB : B ≤ w.heap.size) (hg : B ≤ g) (hA : ∀ a, A = some a → B ≤ a.block) : Below B w0 w' :=
  ⟨k.os.trans h.os, k.tape.trans h.tape, k.output.trans h.output, Nat.le_trans h.size k.size, fun i hi => (k.block i (by omega) (by omega) (fun a ha => by have := hA a ha; omega)).trans (h.block i hi)⟩
theorem own_at {w : World} {B e s n c : Nat} {A : Option Addr} {xs : List Value} (h : w.ownsRow B e s (.slice A n c) n xs) : ∀ a, A = some a → a = ⟨a.block, 0, none⟩ ∧ B ≤ a.block ∧ a.block < w.heap.size := by
  intro a ha
  subst ha
  obtain ⟨h1, h2⟩ := h.lt a.block rfl
  rcases h.2 with ⟨h0, _⟩ | ⟨g, c', cur, h0, _⟩
  · injection h0 with h3; cases h3
  · injection h0 with h3
    obtain rfl := Option.some.inj h3
    exact ⟨rfl, h1, h2⟩
theorem own_base {w : World} {B B' e s n : Nat} {v : Value} {xs : List Value} (h : w.ownsRow B e s v n xs) (hB : B' ≤ B) : w.ownsRow B' e s v n xs := by
  refine ⟨h.1, ?_⟩
  rcases h.2 with h | ⟨g, cap, cur, h1, h2, h3⟩
  · exact .inl h
  · exact .inr ⟨g, cap, cur, h1, by omega, h3⟩
theorem own_apart {w w' : World} {g : Nat} {R : Option Addr} {B e s n c : Nat} {A : Option Addr} {xs : List Value} (h : w.ownsRow B e s (.slice A n c) n xs) (t : Two g R w w') (h1 : ∀ a, A = some a → a.block ≠ g) (h2 : ∀ a b, A = some a → R = some b → b.block ≠ a.block) : w'.ownsRow B e s (.slice A n c) n xs := by
  refine ⟨h.1, ?_⟩
  rcases h.2 with h | ⟨r, cap, cur, h3, h4, h5, h6⟩
  · exact .inl h
  · injection h3 with h7 h8 h9
    subst h7
    refine .inr ⟨r, cap, cur, by rw [h9], h4, (t.block r (lt_of_block h5) (h1 _ rfl) (fun b hb => h2 _ b rfl hb)).trans h5, h6⟩
end Go.Proofs.YtpjillclladjaaaDoor.Cel
