
/- The chapter's example, asked of the program: it returns true, and changes nothing that was there. No condition. -/

import Derived.Test.YtkikghmigjkjiaaDoorOctP

namespace Go.Proofs.YtkikghmigjkjiaaDoor.Oct

open Go.RowKit Go.PlainAid

set_option maxRecDepth 8000 in
/-- A slice of the call's own as text. -/
theorem conv_own {w : World} {B g n cap : Nat} {xs : List Int} (h : w.ownsRow B 5 1 (.slice (some ⟨g, 0, none⟩) n cap) n (xs.map (Value.int .u8))) :
    (convert 22 9 (.slice (some ⟨g, 0, none⟩) n cap)).run Tryd.prog w = .ok (.string (strOfNums xs)) w := by
  have hl : xs.length = n := by have := h.1; simpa using this
  refine run_convert_bytes_arg (P := Tryd.prog) w 22 5 underU8 rfl g 0 n cap xs hl ?_ 9 rfl
  intro i hi
  rw [Nat.zero_add, h.cellAt i (by omega)]
  simp [List.getD, List.getElem?_eq_getElem (show i < xs.length by omega)]
set_option maxRecDepth 8000 in
/-- A slice that came in as text. -/
theorem conv_bytes {w : World} {A : Option Addr} {n cap : Nat} {xs : List Int} (h : IsBytes w A n xs) :
    (convert 22 9 (.slice A n cap)).run Tryd.prog w = .ok (.string (strOfNums xs)) w := by
  obtain ⟨hl, hc⟩ := h
  rcases Nat.eq_zero_or_pos n with h0 | hp
  · subst h0
    obtain rfl : xs = [] := List.eq_nil_of_length_eq_zero hl
    rw [run_convert_bytes_string (P := Tryd.prog) w 22 9 5 A 0 cap underU8 rfl rfl]
    cases A with
    | none => simp [Conv.bytesToString, strOfNums]; rfl
    | some ad =>
      rw [run_bytesToString w ad 0 cap [] (by simpa using run_loadCells_list (P := Tryd.prog) w ad [] (by simp))]
      rfl
  · obtain ⟨ad, rfl, hcell⟩ := hc hp
    have hl2 : (loadCells ad n).run Tryd.prog w = .ok (xs.map (Value.int .u8)).toArray w := by
      have := run_loadCells_list (P := Tryd.prog) w ad (xs.map (Value.int .u8)) hcell
      simpa [hl] using this
    rw [run_convert_bytes_string (P := Tryd.prog) w 22 9 5 (some ad) n cap underU8 rfl rfl, run_bytesToString w ad n cap xs hl2, foldl_push_bytes]
    simp [strOfNums, ByteArray.empty, ByteArray.emptyWithCapacity]
    rfl

end Go.Proofs.YtkikghmigjkjiaaDoor.Oct
