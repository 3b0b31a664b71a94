/- What package fault's In, At, Named do, and the document's Named. Condition: the table of names holds what the program lays there. -/
import Derived.Test.YtbamildjaolheaaDoorFltA
namespace Go.Proofs.YtbamildjaolheaaDoor.Flt
open Go.RowKit Go.PlainAid

theorem at_nil (n : Int) (w : World) :
    Calls Tryd.prog 6 #[.int .i64 n, .nilIface] w fun e w' => e = .returned .nilIface ∧ w = w' := by
  go_enter Tryd.func6, Tryd.ntmps6
  go_wp2_with (go_at_call 16; refine (wrapped_nil _ _ _).mono ?_; rintro e w' ⟨rfl, rfl⟩)
  go_ret
  exact ⟨rfl, rfl⟩
theorem at_any (n : Int) (x : Value) (ws : List (Bool × Int)) (k : Int) (w : World) (h : IsFault w x ws k) :
    Calls Tryd.prog 6 #[.int .i64 n, x] w fun e w' => ∃ y, e = .returned y ∧ IsFault w' y ((false, n) :: ws) k ∧ Below w.heap.size w w' := by
  have H := Lib.hid h
  clear h
  go_enter Tryd.func6, Tryd.ntmps6
  go_wp2_with fail
  refine (wrapped_any false n x ws k _ H.out).mono ?_
  rintro e w' ⟨y, rfl, h2, hb⟩
  have H2 := Lib.hid h2
  clear h2
  go_wp2
  go_ret
  exact ⟨_, rfl, H2.out, hb⟩
theorem in_any (n : Int) (x : Value) (ws : List (Bool × Int)) (k : Int) (w : World) (h : IsFault w x ws k) :
    Calls Tryd.prog 15 #[.int .i64 n, x] w fun e w' => ∃ y, e = .returned y ∧ IsFault w' y ((true, n) :: ws) k ∧ Below w.heap.size w w' := by
  have H := Lib.hid h
  clear h
  go_enter Tryd.func15, Tryd.ntmps15
  go_wp2_with fail
  refine (wrapped_any true n x ws k _ H.out).mono ?_
  rintro e w' ⟨y, rfl, h2, hb⟩
  have H2 := Lib.hid h2
  clear h2
  go_wp2
  go_ret
  exact ⟨_, rfl, H2.out, hb⟩

theorem index_names (k : Nat) (h : k < 19) (w : World) : (Instr.index 52 (.agg nmCells) (.int .i64 k)).run Tryd.prog w = .ok (.string (nm k)) w := by
  rcases (show k = 0 ∨ k = 1 ∨ k = 2 ∨ k = 3 ∨ k = 4 ∨ k = 5 ∨ k = 6 ∨ k = 7 ∨ k = 8 ∨ k = 9 ∨ k = 10 ∨ k = 11 ∨ k = 12 ∨ k = 13 ∨ k = 14 ∨ k = 15 ∨ k = 16 ∨ k = 17 ∨ k = 18 by omega) with rfl | rfl | rfl | rfl | rfl | rfl | rfl | rfl | rfl | rfl | rfl | rfl | rfl | rfl | rfl | rfl | rfl | rfl | rfl
  all_goals kernel_rfl

/-- No name among the first k is the text. -/
def NoneYet (s : ByteArray) (k : Nat) : Prop := ∀ j, 1 ≤ j → j < k → nm j ≠ s
theorem none_step {s : ByteArray} {k : Nat} (h : NoneYet s k) (hk : nm k ≠ s) : NoneYet s (k + 1) := by
  intro j h1 h2
  rcases Nat.lt_or_ge j k with hl | hl
  · exact h j h1 hl
  · obtain rfl : j = k := by omega
    exact hk
def NPost (s : ByteArray) (w : World) (e : Ending) (w' : World) : Prop := ∃ r : Nat, IsNamed s r ∧ e = .returned (.tuple #[.int .i64 r, .bool (decide (0 < r))]) ∧ w = w'
theorem empty_of (s : ByteArray) (h : s.toList.isEmpty = true) : s = nm 0 := by
  rw [nm_zero]
  rw [List.isEmpty_iff, toList_data] at h
  cases s with
  | mk d => simp only [Array.toList_eq_nil_iff] at h; rw [h]

set_option maxHeartbeats 800000 in
theorem named_any (s : ByteArray) (w : World) (hn : Names w) :
    Calls Tryd.prog 11 #[.string s] w (NPost s w) := by
  cases he : s.toList.isEmpty with
  | true =>
    have hs : IsNamed s 0 := .inl ⟨rfl, fun j h1 h2 e => by
      have := nm_inj (by omega) (by omega) (e.trans (empty_of s he)); omega⟩
    go_enter Tryd.func11, Tryd.ntmps11
    go_wp2
    go_ret2
    exact ⟨0, hs, rfl, rfl⟩
  | false =>
    have hne : nm 0 ≠ s := by intro e; rw [← e] at he; exact absurd he (by decide +kernel)
    obtain ⟨t, ht⟩ := hn
    have HE := Lib.hid he
    have HT := Lib.hid ht
    clear ht
    go_enter Tryd.func11, Tryd.ntmps11
    go_wp2_with ((with_reducible show wpList _ _ _ _ _ _); refine wpList_load_row rfl 52 _ rfl 0 rfl t nmCells (0, 0) _ HT.out Tryd.underlying52 rfl (by kernel_rfl) ?_)
    go_loop [9] (fun i => ∃ k : Nat, k ≤ 19 ∧ i = .int .i64 k ∧ NoneYet s k) (fun i => (19 - intOf i).toNat)
    case atStart => exact ⟨0, by omega, rfl, fun j h1 h2 => by omega⟩
    case round =>
      obtain ⟨k, hk, rfl, hnone⟩ := hrel
      have HN := Lib.hid hnone
      clear hnone
      by_cases hlt : k < 19
      · have hidx := index_names k hlt
        have tl : decide ((k : Int) < 19) = true := decide_eq_true (by omega)
        have hkb : (k : Int) ≤ 18 := by omega
        obtain ⟨X, hX⟩ : ∃ X, nm k = X := ⟨_, rfl⟩
        have HX := Lib.hid hX
        rw [hX] at hidx
        have HL := Lib.hid hlt
        clear hX hlt hk
        by_cases hh : X = s
        · have tb := beq_of_eq hh
          have hk1 : 1 ≤ k := by
            rcases Nat.eq_zero_or_pos k with rfl | h
            · exact absurd (HX.out.trans hh) hne
            · exact h
          have HH := Lib.hid hh
          clear hh hne
          go_wp2
          go_ret2
          refine ⟨k, .inr ⟨hk1, by have := HL.out; omega, HX.out.trans HH.out⟩, ?_, rfl⟩
          rw [show decide (0 < k) = true from decide_eq_true (by omega)]
          rfl
        · have tb := beq_of_ne hh
          have HH := Lib.hid hh
          clear hh hne
          go_wp2
          go_round
          case rel => exact ⟨k + 1, by have := HL.out; omega, by go_num, none_step HN.out (by rw [HX.out]; exact HH.out)⟩
          case measure => have := HL.out; simp [intOf]; omega
      · obtain rfl : k = 19 := by omega
        clear hk hlt
        go_wp2
        go_ret2
        exact ⟨0, .inl ⟨rfl, fun j h1 h2 => HN.out j h1 (by omega)⟩, rfl, rfl⟩

def RNPost (s : ByteArray) (w : World) (e : Ending) (w' : World) : Prop := ∃ r : Nat, IsNamed s r ∧ e = .returned (.int .i64 r) ∧ Below w.heap.size w w'
set_option maxHeartbeats 800000 in
theorem rnamed_any (s : ByteArray) (w : World) :
    Calls Tryd.prog 12 #[.string s] w (RNPost s w) := by
  go_enter Tryd.func12, Tryd.ntmps12
  go_wp2
  go_loopw [3] (fun i wr => ∃ k : Nat, 1 ≤ k ∧ k ≤ 19 ∧ i = .int .i64 k ∧ NoneYet s k ∧ Below w.heap.size w wr) (fun i _ => (19 - intOf i).toNat)
  case atStart => exact ⟨1, by omega, by omega, rfl, fun j h1 h2 => by omega, Below.refl _ _⟩
  case round =>
    obtain ⟨k, hk1, hk, rfl, hnone, hbel⟩ := hrel
    have HN := Lib.hid hnone
    clear hnone
    by_cases hlt : k < 19
    · have tl : decide ((k : Int) ≤ 18) = true := decide_eq_true (by omega)
      obtain ⟨X, hX⟩ : ∃ X, nm k = X := ⟨_, rfl⟩
      have HX := Lib.hid hX
      have hkb : (k : Int) < 19 := by omega
      have HL := Lib.hid hlt
      have HL1 := Lib.hid hk1
      clear hX hk hlt hk1
      go_wp2_with fail
      refine (rnames_any _).mono ?_
      rintro e w1 ⟨g, hg, rfl, hb, hb1⟩
      have hc : w1.cell? ⟨g, k, none⟩ = some (.string X) := by rw [cell_of_row w1 _ _ _ _ _ hb, nmCells_at k HL.out, HX.out]
      have hbel2 := hbel.trans (hb1.mono hbel.size)
      clear hb hbel hb1
      by_cases hh : X = s
      · have tb := beq_of_eq hh
        have HH := Lib.hid hh
        clear hh
        go_wp2
        go_ret
        exact ⟨k, .inr ⟨HL1.out, by have := HL.out; omega, HX.out.trans HH.out⟩, rfl, hbel2⟩
      · have tb := beq_of_ne hh
        have HH := Lib.hid hh
        clear hh
        go_wp2
        go_roundw
        case rel => exact ⟨k + 1, by omega, by have := HL.out; omega, by go_num, none_step HN.out (by rw [HX.out]; exact HH.out), hbel2⟩
        case measure => have := HL.out; simp [intOf]; omega
    · obtain rfl : k = 19 := by omega
      clear hk hlt
      go_wp2
      go_ret
      exact ⟨0, .inl ⟨rfl, fun j h1 h2 => HN.out j h1 (by omega)⟩, rfl, hbel⟩
end Go.Proofs.YtbamildjaolheaaDoor.Flt
