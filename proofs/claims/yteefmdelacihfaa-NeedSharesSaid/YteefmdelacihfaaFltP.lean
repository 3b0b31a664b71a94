
/- What package fault's parts does at a fault: its wraps, the outermost first, in memory of its own, and its class; nothing that was there has changed. Condition: there are at most a million wraps. -/

import Derived.Test.YteefmdelacihfaaFltB

import Derived.Test.YteefmdelacihfaaFltO

namespace Go.Proofs.Yteefmdelacihfaa.Flt

open Go.RowKit Go.PlainAid

def ptrs (gs : List Nat) : List Value := gs.map fun g => .pointer (some ⟨g, 0, none⟩)
def lenOf : Value → Nat
  | .slice _ n _ => n
  | _ => 0
theorem owns_len {w : World} {B e n : Nat} {v : Value} {xs : List Value} (h : w.ownsRow B e 1 v n xs) : lenOf v = n := by
  rcases h.2 with ⟨rfl, rfl⟩ | ⟨g, cap, cur, rfl, _⟩ <;> rfl

theorem owns_kept {w w' : World} {B e size n : Nat} {v : Value} {xs : List Value} (h : w.ownsRow B e size v n xs) (b : Below w.heap.size w w') : w'.ownsRow B e size v n xs := by
  refine ⟨h.1, ?_⟩
  rcases h.2 with h | ⟨g, cap, cur, h1, h2, h3, h4⟩
  · exact .inl h
  · exact .inr ⟨g, cap, cur, h1, h2, (b.block g (lt_of_block h3)).trans h3, h4⟩
end Go.Proofs.Yteefmdelacihfaa.Flt
