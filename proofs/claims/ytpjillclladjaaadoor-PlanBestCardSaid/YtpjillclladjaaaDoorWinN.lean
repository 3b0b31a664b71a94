
/- Windows: how many ticks are somebody's. Condition: at most 400 windows of plain numbers, a frame of 1 to 1,048,576. -/

import Derived.Test.YtpjillclladjaaaDoorWinL

import Derived.OwnWalk

namespace Go.Proofs.YtpjillclladjaaaDoor.Win

open Go.RowKit Go.PlainAid Go.Proofs.YtpjillclladjaaaDoor.Oct Go.Proofs.YtpjillclladjaaaDoor.Flt Go.Proofs.YtpjillclladjaaaDoor.Rdr Go.Proofs.YtpjillclladjaaaDoor.Args

open Go.Proofs.YtpjillclladjaaaDoor.Act (A3 actL flatA flatA_snoc flatA_get flatA_len ActsAt I64 Wide row_beside row_base)

set_option linter.unusedVariables false

set_option linter.unusedSimpArgs false

def nobody (v : Int) : Bool := v == -1
/-- The lengths of what is somebody's, together. -/
def busyS : List A3 → Int
  | [] => 0
  | x :: l => (if x.s = -1 then 0 else x.a) + busyS l
theorem busy_snoc (x : A3) : ∀ l : List A3, busyS (l ++ [x]) = busyS l + (if x.s = -1 then 0 else x.a)
  | [] => by simp [busyS]
  | y :: l => by simp only [List.cons_append, busyS, busy_snoc x l]; omega
theorem busy_in {cs : List Int} {fr : Int} {l : List A3} {m : Nat} (h : Cuts cs fr) (hm : cs.length = m + 1) : ∀ k, k ≤ m → 0 ≤ busyS ((rowsL fr l cs m).take k) ∧ busyS ((rowsL fr l cs m).take k) ≤ cut cs k
  | 0, _ => by
    have := (cut_in h hm (Nat.zero_le m)).1
    simp [busyS]; exact this
  | k + 1, hk => by
    have ih := busy_in (l := l) h hm k (by omega)
    rw [rowsL_take fr l cs (by omega), busy_snoc]
    have h1 : cut cs k < cut cs (k + 1) := by
      unfold cut
      rw [List.getElem?_eq_getElem (by omega), List.getElem?_eq_getElem (by omega)]
      exact rising_lt h.1 (Nat.lt_succ_self k) (by omega)
    dsimp only
    split <;> omega
def CtRel (m : Nat) (L : List A3) (w2 : World) (i v : Value) (wr : World) : Prop :=
  ∃ k : Nat, k ≤ m ∧ i = .int .i64 (k : Int) ∧ v = .int .i64 (busyS (L.take k)) ∧ Below w2.heap.size w2 wr
theorem own_winsL {w : World} {B n : Nat} {A : Option Addr} {c : Nat} {l : List A3} (h : w.ownsRow B 82 3 (.slice A n c) n (flatA l)) (hn : n = l.length) : ActsAt w A l := by
  subst hn
  intro i x hx
  have hi : i < l.length := (List.getElem?_eq_some_iff.1 hx).1
  rcases h.2 with ⟨e, h0⟩ | ⟨G, c', cur, e, h2, h3, h4⟩
  · omega
  · cases e
    have e : (Addr.mk G 0 none).add (i * 3) = ⟨G, i * 3, none⟩ := by
      rcases Nat.eq_zero_or_pos (i * 3) with h0 | h0
      · rw [h0]; simp [Addr.add]
      · simp [Addr.add]; omega
    refine ⟨_, rfl, ?_, ?_, ?_⟩
    · have := h.cellAt (i * 3 + 0) (by omega)
      rw [flatA_get l i x 0 hx (by omega)] at this
      rw [e]; exact this
    · have := h.cellAt (i * 3 + 1) (by omega)
      rw [flatA_get l i x 1 hx (by omega)] at this
      rw [e]; exact this
    · have := h.cellAt (i * 3 + 2) (by omega)
      rw [flatA_get l i x 2 hx (by omega)] at this
      rw [e]; exact this
end Go.Proofs.YtpjillclladjaaaDoor.Win
