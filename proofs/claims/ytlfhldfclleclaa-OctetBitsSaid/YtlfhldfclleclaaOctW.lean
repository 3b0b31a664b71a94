/- The chapter's example, asked of the program: it returns true, and changes nothing that was there. No condition. -/
import Derived.Test.YtlfhldfclleclaaOctP
namespace Go.Proofs.Ytlfhldfclleclaa.Oct
open Go.RowKit Go.PlainAid

/-- A slice of the call's own as text. -/
theorem conv_own {w : World} {B g n cap : Nat} {xs : List Int} (h : w.ownsRow B 5 1 (.slice (some ⟨g, 0, none⟩) n cap) n (xs.map (Value.int .u8))) :
    (convert 22 9 (.slice (some ⟨g, 0, none⟩) n cap)).run Try.prog w = .ok (.string (strOfNums xs)) w := by
  have hl : xs.length = n := by have := h.1; simpa using this
  refine run_convert_bytes_arg (P := Try.prog) w 22 5 underU8 rfl g 0 n cap xs hl ?_ 9 rfl
  intro i hi
  rw [Nat.zero_add, h.cellAt i (by omega)]
  simp [List.getD, List.getElem?_eq_getElem (show i < xs.length by omega)]
/-- A slice that came in as text. -/
theorem conv_bytes {w : World} {A : Option Addr} {n cap : Nat} {xs : List Int} (h : IsBytes w A n xs) :
    (convert 22 9 (.slice A n cap)).run Try.prog w = .ok (.string (strOfNums xs)) w := by
  obtain ⟨hl, hc⟩ := h
  rcases Nat.eq_zero_or_pos n with h0 | hp
  · subst h0
    obtain rfl : xs = [] := List.eq_nil_of_length_eq_zero hl
    rw [run_convert_bytes_string (P := Try.prog) w 22 9 5 A 0 cap underU8 rfl rfl]
    cases A with
    | none => simp [Conv.bytesToString, strOfNums]; rfl
    | some ad =>
      rw [run_bytesToString w ad 0 cap [] (by simpa using run_loadCells_list (P := Try.prog) w ad [] (by simp))]
      rfl
  · obtain ⟨ad, rfl, hcell⟩ := hc hp
    have hl2 : (loadCells ad n).run Try.prog w = .ok (xs.map (Value.int .u8)).toArray w := by
      have := run_loadCells_list (P := Try.prog) w ad (xs.map (Value.int .u8)) hcell
      simpa [hl] using this
    rw [run_convert_bytes_string (P := Try.prog) w 22 9 5 (some ad) n cap underU8 rfl rfl, run_bytesToString w ad n cap xs hl2, foldl_push_bytes]
    simp [strOfNums, ByteArray.empty, ByteArray.emptyWithCapacity]
    rfl

theorem awake_any (w : World) : Calls Try.prog 9 #[] w fun e w' => e = .returned (.bool true) ∧ Below w.heap.size w w' := by
  go_enter Try.func9, Try.ntmps9
  go_wp2_with fail
  refine (put_any none 0 0 [] 258 2 _ ⟨rfl, fun h => absurd h (by omega)⟩ (by omega) (by omega)).mono ?_
  rintro e w' ⟨n, cap, rfl, hown, hbel⟩
  have hf : fitB 258 2 = true := by decide
  rw [hf] at hown
  have hl : low 258 (2 : Int).toNat = [1, 2] := by decide
  simp only [if_true, List.nil_append] at hown
  rw [hl] at hown
  have hcv := conv_own hown
  have hs : strOfNums [1, 2] = ⟨#[1, 2]⟩ := by decide
  rw [hs] at hcv
  rw [hf]
  clear hown hf hl hs
  go_wp2
  go_ret
  exact ⟨rfl, hbel⟩
end Go.Proofs.Ytlfhldfclleclaa.Oct
