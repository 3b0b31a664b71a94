
/- What package fault's Of tells of a fault: its class, the outermost section and the outermost place; of nil nothing; and First, of errors. Condition: there are at most a million wraps. -/

import Derived.Test.YteefmdelacihfaaFltP

namespace Go.Proofs.Yteefmdelacihfaa.Flt

open Go.RowKit Go.PlainAid

/-- The outermost section, the outermost place. -/
def secOf : List (Bool × Int) → Int
  | [] => 0
  | (true, n) :: _ => n
  | (false, _) :: r => secOf r
def atOf : List (Bool × Int) → Int
  | [] => 0
  | (false, n) :: _ => n
  | (true, _) :: r => atOf r
def fltV (k s a : Int) : Value := .agg #[.int .i64 k, .int .i64 s, .int .i64 a]

/-- A slice of pointers that reads as the blocks gs. -/
def IsPtrs (w : World) (A : Option Addr) (gs : List Nat) : Prop := ∀ i (h : i < gs.length), ∃ r, A = some ⟨r, 0, none⟩ ∧ w.cell? ⟨r, i, none⟩ = some (.pointer (some ⟨gs[i], 0, none⟩))
theorem IsPtrs.kept {w w' : World} {A : Option Addr} {gs : List Nat} (h : IsPtrs w A gs) (b : Below w.heap.size w w') : IsPtrs w' A gs := by
  intro i hi
  obtain ⟨r, e, hc⟩ := h i hi
  exact ⟨r, e, (b.cell (Go.block_lt_of_cell hc)).trans hc⟩
theorem sec_drop (ws : List (Bool × Int)) (j : Nat) (h : j < ws.length) : secOf (ws.drop j) = if ws[j].1 then ws[j].2 else secOf (ws.drop (j + 1)) := by
  rw [List.drop_eq_getElem_cons h]
  rcases ws[j] with ⟨b, n⟩
  cases b <;> rfl
theorem at_drop (ws : List (Bool × Int)) (j : Nat) (h : j < ws.length) : atOf (ws.drop j) = if ws[j].1 then atOf (ws.drop (j + 1)) else ws[j].2 := by
  rw [List.drop_eq_getElem_cons h]
  rcases ws[j] with ⟨b, n⟩
  cases b <;> rfl
def fltCells (k s a : Int) : Array Value := #[.int .i64 k, .int .i64 s, .int .i64 a]
theorem one_flt (k s a : Int) : (#[Value.int .i64 k, .int .i64 s, .int .i64 a]).all (·.oneCell') = true := by simp [Value.oneCell']

end Go.Proofs.Yteefmdelacihfaa.Flt
