
/- Package reader's Need whether so or not; a store beside a reader. Condition: the variables hold what the program lays there. -/

import Derived.Test.YtlbpmbdogkfecaaDoorRdrR

namespace Go.Proofs.YtlbpmbdogkfecaaDoor.Rdr

open Go.RowKit Go.PlainAid Go.Proofs.YtlbpmbdogkfecaaDoor.Oct Go.Proofs.YtlbpmbdogkfecaaDoor.Flt

set_option linter.unusedVariables false

/-- Need, whether so or not. -/
def needS (b : Bool) (t : St) (k a : Int) : St := if b then t else failS t k a
theorem need_any (g : Nat) (b : Bool) (t : St) (k a : Int) (w : World) (hn : Names w) (hk : -9223372036854775808 ≤ k ∧ k ≤ 9223372036854775807) (h : IsRdr w g t) :
    Calls Tryd.prog 27 #[.pointer (some ⟨g, 0, none⟩), .bool b, .int .i64 k, .int .i64 a] w (NPost g (needS b t k a) w) := by
  cases b with
  | true =>
    refine (need_ok g t k a w h).mono ?_
    rintro e w' ⟨rfl, rfl⟩
    exact ⟨rfl, h, Just.refl _ _⟩
  | false => exact need_no g t k a w hn hk h
theorem ok_need {t : St} (h : Ok t) (b : Bool) (k a : Int) : Ok (needS b t k a) := by
  unfold needS; split
  · exact h
  · exact ok_fail h k a
theorem Just.poke {g : Nat} {a w : World} (h : Just g a w) (b o : Nat) (v : Value) (hb : a.heap.size ≤ b) : Just g a (w.setCell ⟨b, o, none⟩ v) := by
  have x := (Below.refl 0 w).setCell (p := ⟨b, o, none⟩) (Nat.zero_le _) v
  exact ⟨x.os.trans h.os, x.tape.trans h.tape, x.output.trans h.output, Nat.le_trans h.size x.size, fun k hk hg => (heap_setCell_other w _ k v (by show k ≠ b; omega)).trans (h.block k hk hg)⟩
theorem Just.pokeRow {g : Nat} {a w : World} (h : Just g a w) (b : Nat) (cs : Array Value) (hb : a.heap.size ≤ b) : Just g a (w.setRow b cs) :=
  ⟨h.os, h.tape, h.output, by have := h.size; simpa using this, fun k hk hg => (setRow_other _ _ _ _ (by omega)).trans (h.block k hk hg)⟩
theorem poke_ne {w : World} {g b : Nat} {t : St} {cs : Array Value} {T : TypeId} {fr : Nat × Nat} (h : IsRdr w g t) (hb : w.heap[b]? = some (.cells cs T fr)) (h1 : T ≠ 49) : g ≠ b := by
  rintro rfl
  obtain ⟨x, hx, _⟩ := h
  rw [hb] at hx
  simp only [Option.some.injEq, Obj.cells.injEq] at hx
  exact h1 hx.2.1
theorem wrap_ne {w : World} {b : Nat} {cs cs' : Array Value} {T : TypeId} {fr : Nat × Nat} (hb : w.heap[b]? = some (.cells cs T fr)) (h2 : T ≠ 61) {k : Nat} (hk : w.heap[k]? = some (.cells cs' 61 (0, 0))) : k ≠ b := by
  rintro rfl
  rw [hb] at hk
  simp only [Option.some.injEq, Obj.cells.injEq] at hk
  exact h2 hk.2.1
theorem IsRdr.poke {w : World} {g b : Nat} {t : St} {cs : Array Value} {T : TypeId} {fr : Nat × Nat} (h : IsRdr w g t) (hb : w.heap[b]? = some (.cells cs T fr)) (h1 : T ≠ 49) (h2 : T ≠ 61) (o : Nat) (v : Value) : IsRdr (w.setCell ⟨b, o, none⟩ v) g t := by
  have hne := poke_ne h hb h1
  obtain ⟨x, hx, hw⟩ := h
  exact ⟨x, (heap_setCell_other w _ g v hne).trans hx, hw.kept fun k cs' hk => heap_setCell_other w _ k v (wrap_ne hb h2 hk)⟩
theorem IsRdr.pokeRow {w : World} {g b : Nat} {t : St} {cs : Array Value} {T : TypeId} {fr : Nat × Nat} (h : IsRdr w g t) (hb : w.heap[b]? = some (.cells cs T fr)) (h1 : T ≠ 49) (h2 : T ≠ 61) (v : Array Value) : IsRdr (w.setRow b v) g t := by
  have hne := poke_ne h hb h1
  obtain ⟨x, hx, hw⟩ := h
  exact ⟨x, (setRow_other _ _ _ _ hne).trans hx, hw.kept fun k cs' hk => setRow_other _ _ _ _ (wrap_ne hb h2 hk)⟩
end Go.Proofs.YtlbpmbdogkfecaaDoor.Rdr
