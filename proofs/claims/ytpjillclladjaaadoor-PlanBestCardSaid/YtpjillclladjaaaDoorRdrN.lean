
/- Package reader's Need whether so or not; a store beside a reader. Condition: the variables hold what the program lays there. -/

import Derived.Test.YtpjillclladjaaaDoorRdrR

namespace Go.Proofs.YtpjillclladjaaaDoor.Rdr

open Go.RowKit Go.PlainAid Go.Proofs.YtpjillclladjaaaDoor.Oct Go.Proofs.YtpjillclladjaaaDoor.Flt

set_option linter.unusedVariables false

/-- Need, whether so or not. -/
def needS (b : Bool) (t : St) (k a : Int) : St := if b then t else failS t k a
theorem ok_need {t : St} (h : Ok t) (b : Bool) (k a : Int) : Ok (needS b t k a) := by
  unfold needS; split
  · exact h
  · exact ok_fail h k a
theorem Just.poke {g : Nat} {a w : World} (h : Just g a w) (b o : Nat) (v : Value) (hb : a.heap.size ≤ b) : Just g a (w.setCell ⟨b, o, none⟩ v) := by
  have x := (Below.refl 0 w).setCell (p := ⟨b, o, none⟩) (Nat.zero_le _) v
  exact ⟨x.os.trans h.os, x.tape.trans h.tape, x.output.trans h.output, Nat.le_trans h.size x.size, fun k hk hg => (heap_setCell_other w _ k v (by show k ≠ b; omega)).trans (h.block k hk hg)⟩
theorem Just.pokeRow {g : Nat} {a w : World} (h : Just g a w) (b : Nat) (cs : Array Value) (hb : a.heap.size ≤ b) : Just g a (w.setRow b cs) :=
  ⟨h.os, h.tape, h.output, by have := h.size; simpa using this, fun k hk hg => (setRow_other _ _ _ _ (by omega)).trans (h.block k hk hg)⟩
theorem wrap_ne {w : World} {b : Nat} {cs cs' : Array Value} {T : TypeId} {fr : Nat × Nat} (hb : w.heap[b]? = some (.cells cs T fr)) (h2 : T ≠ 79) {k : Nat} (hk : w.heap[k]? = some (.cells cs' 79 (0, 0))) : k ≠ b := by
  rintro rfl
  rw [hb] at hk
  simp only [Option.some.injEq, Obj.cells.injEq] at hk
  exact h2 hk.2.1
end Go.Proofs.YtpjillclladjaaaDoor.Rdr
