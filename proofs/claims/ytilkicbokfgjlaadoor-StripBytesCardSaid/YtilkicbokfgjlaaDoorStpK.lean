
/- The document's strip: Part; the law's own same, and its example. Condition: none. -/

import Derived.Test.YtilkicbokfgjlaaDoorStpJ

namespace Go.Proofs.YtilkicbokfgjlaaDoor.Stp

open Go.RowKit Go.PlainAid Go.Proofs.YtilkicbokfgjlaaDoor.Cel

set_option linter.unusedVariables false

set_option linter.unusedSimpArgs false

def RPaRel (X : List RW) (f t : Int) (F : List RW) (w : World) (i v a : Value) (wr : World) : Prop :=
  ∃ (k n : Nat) (A : Option Addr) (c : Nat) (Y : List RW), k ≤ X.length ∧ i = .int .i64 (k : Int) ∧ v = .slice A n c ∧ a = .int .i64 (sumR (X.take k)) ∧ Y.length = n ∧ RX wr A Y ∧ (A = none → c = 0) ∧ OkX Y ∧ partF f t (sumR (X.take k)) (X.drop k) Y = F ∧ Below w.heap.size w wr
def RPartPost (w : World) (F : List RW) (e : Ending) (w' : World) : Prop := ∃ A N c, e = .returned (.slice A N c) ∧ F.length = N ∧ RX w' A F ∧ Below w.heap.size w w'
section

variable {w : World} {A : Option Addr} {c : Nat} {X : List RW}

end

theorem eq_row2 (a b c d : Int) (w : World) : (Op.equalIn 10000 50 (.agg #[.int .i64 a, .int .i64 b]) (.agg #[.int .i64 c, .int .i64 d])).run Tryd.prog w = .ok ((a == c) && (b == d)) w := by
  have hS : Tryd.prog.underlying 50 = some (.struct (Tryd.prog.fieldsOf 50)) := by kernel_rfl
  rw [show (10000 : Nat) = 9999 + 1 from rfl, run_equalIn_agg w 9999 50 _ _ hS (by kernel_rfl)]
  simp only [Program.fieldsOf, Tryd.underlying50]
  cases h1 : (a == c) <;> cases h2 : (b == d) <;> simp [go_sem, h1, h2]
set_option maxRecDepth 4000 in
set_option maxHeartbeats 1600000 in
theorem lsame_any (A D : Option Addr) (ca cd a : Nat) (l : List RW) (w : World) (h1 : RAt w A l) (h2 : RAt w D l) (ha : l.length = a) (hl : a ≤ 1073741824) :
    Calls Tryd.prog 15 #[.slice A a ca, .slice D a cd] w fun e w' => e = .returned (.bool true) ∧ Below w.heap.size w w' := by
  have HA := Lib.hid ha
  have H1 := Lib.hid h1
  have H2 := Lib.hid h2
  have HL : Hid (a ≤ 1073741824) := hl
  clear h1 h2 ha hl
  have tne : ((a : Int) != (a : Int)) = false := by simp
  go_enter Tryd.func15, Tryd.ntmps15
  go_wp2
  go_loopw [13] (fun i wr => ∃ k n : Nat, k ≤ a ∧ i = .int .i64 k ∧ wr = w.drewN n) (fun i _ => a - (intOf i).toNat)
  case atStart => exact ⟨0, 0, Nat.zero_le _, rfl, rfl⟩
  case round =>
    obtain ⟨k, n, hk, rfl, hw⟩ := hrel
    have HW := Lib.hid hw
    by_cases hlt : k < a
    · obtain ⟨x, hx⟩ : ∃ x, l[k]? = some x := ⟨_, List.getElem?_eq_getElem (by rw [HA.out]; exact hlt)⟩
      obtain ⟨ax, rfl, c1, c2⟩ := H1.out k x hx
      obtain ⟨ay, rfl, c3, c4⟩ := H2.out k x hx
      have c1' : wr.cell? (ax.add (k * 2)) = some (.int .i64 x.i) := by rw [hw]; exact c1
      have c2' : wr.cell? ⟨(ax.add (k * 2)).block, (ax.add (k * 2)).off + 1, none⟩ = some (.int .i64 x.c) := by rw [hw]; exact c2
      have c3' : wr.cell? (ay.add (k * 2)) = some (.int .i64 x.i) := by rw [hw]; exact c3
      have c4' : wr.cell? ⟨(ay.add (k * 2)).block, (ay.add (k * 2)).off + 1, none⟩ = some (.int .i64 x.c) := by rw [hw]; exact c4
      have heq : ∀ wx : World, (Op.equalIn 10000 50 (.agg #[.int .i64 x.i, .int .i64 x.c]) (.agg #[.int .i64 x.i, .int .i64 x.c])).run Tryd.prog wx = .ok true wx := fun wx => by rw [eq_row2]; simp
      have hki : (0 : Int) ≤ k := by omega
      have hka : (k : Int) < a := by omega
      have hk1 : IntKind.i64.wrap ((k : Int) + 1) = (k : Int) + 1 := IntWalk.i64_in _ (by have := HL.out; omega)
      clear hw hx c1 c2 c3 c4 H1 H2
      go_wp2
      go_quiet (fail)
      go_wp2
      go_roundw
      case rel => exact ⟨k + 1, n + nq, by omega, by go_num, by rw [HW.out, World.drewN_drewN]⟩
      case measure => simp [intOf]; omega
    · obtain rfl : k = a := by omega
      clear hk hlt
      go_wp2
      go_ret
      exact ⟨rfl, by first | exact below_n _ _ | (rw [HW.out]; exact below_n _ _)⟩
end Go.Proofs.YtilkicbokfgjlaaDoor.Stp
