/- The chapter's example of package fault; what First tells of errors. Condition: the table of names holds what the program lays there. -/
import Derived.Test.YtbamildjaolheaaDoorFltT
namespace Go.Proofs.YtbamildjaolheaaDoor.Flt
open Go.RowKit Go.PlainAid

def exD (n : Int) : ByteArray := if n = 3 then ⟨#[51]⟩ else ⟨#[49, 55]⟩
theorem ex_text : textOf exD [(true, 3), (false, 17)] (12 : Nat) = ⟨#[115, 101, 99, 116, 105, 111, 110, 32, 51, 58, 32, 97, 116, 32, 49, 55, 58, 32, 111, 118, 101, 114, 108, 97, 112]⟩ := by rfl
theorem ex_digits : ∀ p ∈ [((true : Bool), (3 : Int)), (false, 17)], Digits exD p.2 := by
  intro p hp
  simp only [List.mem_cons, List.not_mem_nil, or_false] at hp
  rcases hp with rfl | rfl
  · exact ⟨by decide, itoa_3⟩
  · exact ⟨by decide, itoa_17⟩
set_option maxRecDepth 100000 in
theorem awake_any (w : World) (hn : Names w) : Calls Tryd.prog 5 #[] w fun e w' => e = .returned (.bool true) ∧ Below w.heap.size w w' := by
  have HN := Lib.hid hn
  clear hn
  go_enter Tryd.func5, Tryd.ntmps5
  go_wp2_with fail
  refine (new_yes 12 (by omega) (by omega) _ HN.out).mono ?_
  rintro e w1 ⟨rfl, rfl⟩
  go_wp2_with fail
  refine (at_any 17 _ [] (12 : Nat) _ rfl).mono ?_
  rintro e w2 ⟨y, rfl, h2, hb2⟩
  go_wp2_with fail
  refine (in_any 3 y _ (12 : Nat) _ h2).mono ?_
  rintro e w3 ⟨z, rfl, h3, hb3⟩
  have HB : Hid (Below w.heap.size w w3) := hb2.trans (hb3.mono hb2.size)
  have H3 := Lib.hid h3
  clear hb2 hb3 h2 h3
  go_wp2_with fail
  refine (text_any exD z _ 12 _ (HN.out.kept HB.out) ex_digits H3.out (by decide) (by omega) (by omega)).mono ?_
  rw [ex_text]
  rintro e w4 ⟨rfl, hb4⟩
  go_wp2
  go_ret
  exact ⟨rfl, HB.out.trans (hb4.mono HB.out.size)⟩

/-- The first error that is there. -/
def firstV : List Value → Value
  | [] => .nilIface
  | .nilIface :: r => firstV r
  | x :: _ => x
def IsErr (x : Value) : Prop := x = .nilIface ∨ ∃ u y, x = .iface u y
/-- A slice of errors that reads as xs. -/
def IsErrs (w : World) (A : Option Addr) (xs : List Value) : Prop := ∀ i (h : i < xs.length), ∃ r, A = some ⟨r, 0, none⟩ ∧ w.cell? ⟨r, i, none⟩ = some xs[i] ∧ IsErr xs[i]
theorem first_drop_nil (xs : List Value) (j : Nat) (h : j < xs.length) (hx : xs[j] = .nilIface) : firstV (xs.drop j) = firstV (xs.drop (j + 1)) := by
  rw [List.drop_eq_getElem_cons h, hx]; rfl
theorem first_drop_some (xs : List Value) (j : Nat) (h : j < xs.length) (u : TypeId) (y : Value) (hx : xs[j] = .iface u y) : firstV (xs.drop j) = .iface u y := by
  rw [List.drop_eq_getElem_cons h, hx]; rfl
set_option maxHeartbeats 800000 in
theorem first_any (A : Option Addr) (cap : Nat) (xs : List Value) (w : World) (h : IsErrs w A xs) (hl : xs.length ≤ 1000000) :
    Calls Tryd.prog 10 #[.slice A xs.length cap] w fun e w' => e = .returned (firstV xs) ∧ w = w' := by
  have H := Lib.hid h
  obtain ⟨V, hV⟩ : ∃ V, firstV xs = V := ⟨_, rfl⟩
  rw [hV]
  have HV := Lib.hid hV
  have hl9 : ((xs.length : Nat) : Int) ≤ 1000000 := by omega
  clear h hV hl
  go_enter Tryd.func10, Tryd.ntmps10
  go_wp2
  go_loop [7] (fun i => ∃ j : Nat, j ≤ xs.length ∧ i = .int .i64 j ∧ firstV (xs.drop j) = V) (fun i => xs.length - (intOf i).toNat)
  case atStart => exact ⟨0, Nat.zero_le _, rfl, HV.out⟩
  case round =>
    obtain ⟨j, hj, rfl, hf⟩ := hrel
    have HF := Lib.hid hf
    clear hf
    by_cases hlt : j < xs.length
    · obtain ⟨r, hA, hc1, he⟩ := H.out j hlt
      subst hA
      obtain ⟨X, hX⟩ : ∃ X, xs[j] = X := ⟨_, rfl⟩
      rw [hX] at hc1 he
      have HLT := Lib.hid hlt
      have hji : (j : Int) < (xs.length : Int) := by omega
      rcases he with rfl | ⟨u, y, rfl⟩
      · have HF2 : Hid (firstV (xs.drop (j + 1)) = V) := by show _ = _; rw [← first_drop_nil xs j hlt hX]; exact HF.out
        clear hX hj
        go_wp2
        go_round
        case rel => exact ⟨j + 1, by have := HLT.out; omega, by go_num, HF2.out⟩
        case measure => have := HLT.out; simp [intOf]; omega
      · have HF2 : Hid (Value.iface u y = V) := by show _ = _; rw [← first_drop_some xs j hlt u y hX]; exact HF.out
        clear hX hj
        go_wp2
        go_ret
        exact ⟨by rw [← HF2.out]; rfl, rfl⟩
    · obtain rfl : j = xs.length := by omega
      have HF2 : Hid (Value.nilIface = V) := by
        show _ = _
        have := HF.out
        rw [List.drop_length] at this
        exact this
      clear hj hlt
      go_wp2
      go_ret
      exact ⟨by rw [← HF2.out]; rfl, rfl⟩
end Go.Proofs.YtbamildjaolheaaDoor.Flt
