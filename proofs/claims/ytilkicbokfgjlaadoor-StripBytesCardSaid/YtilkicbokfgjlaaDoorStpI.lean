
/- The document's strip: Len, Add, At. Condition: none. -/

import Derived.Test.YtilkicbokfgjlaaDoorStpH

import Derived.Laws.AppendOwnNone

namespace Go.Proofs.YtilkicbokfgjlaaDoor.Stp

open Go.RowKit Go.PlainAid Go.Proofs.YtilkicbokfgjlaaDoor.Cel

set_option linter.unusedVariables false

set_option linter.unusedSimpArgs false

/-- The document's rows at an address. -/
structure RX (w : World) (A : Option Addr) (X : List RW) : Prop where
  rat : RAt w A X
  ty : ∀ a, A = some a → ∃ cs r, w.heap[a.block]? = some (.cells cs 54 r)
theorem RX.keep {w w' : World} {A : Option Addr} {X : List RW} (h : RX w A X) (b : Below w.heap.size w w') : RX w' A X :=
  ⟨h.rat.kept b, fun a ha => by
    obtain ⟨cs, r, hc⟩ := h.ty a ha
    exact ⟨cs, r, (b.block _ (lt_of_block hc)).trans hc⟩⟩
theorem RX.chg {w w' : World} {A : Option Addr} {X : List RW} {B : Nat} (h : RX w A X) (k : Chg B w w') : RX w' A X := by
  have hb : ∀ a, A = some a → w'.heap[a.block]? = w.heap[a.block]? := fun a ha => by
    obtain ⟨cs, r, hc⟩ := h.ty a ha
    refine k.block _ (lt_of_block hc) fun cs' t' r' e => ?_
    rw [hc] at e
    simp only [Option.some.injEq, Obj.cells.injEq] at e
    rw [← e.2.1]
    exact by decide
  refine ⟨fun i x hx => ?_, fun a ha => ?_⟩
  · obtain ⟨y, e, h1, h2⟩ := h.rat i x hx
    exact ⟨y, e, (World.cell?_of_block (by cases i <;> exact hb y e)).trans h1, (World.cell?_of_block (by cases i <;> exact hb y e)).trans h2⟩
  · obtain ⟨cs, r, hc⟩ := h.ty a ha
    exact ⟨cs, r, (hb a ha).trans hc⟩
theorem RX.nil (w : World) : RX w none [] := ⟨fun i x h => by simp at h, fun a h => by cases h⟩
theorem RX.none_nil {w : World} {X : List RW} (h : RX w none X) : X = [] := by
  cases X with
  | nil => rfl
  | cons x l => obtain ⟨y, e, _⟩ := h.rat 0 x rfl; cases e
theorem own_rx {w : World} {B n c : Nat} {A : Option Addr} {X : List RW} (h : w.ownsRow B 54 2 (.slice A n c) n (flatR X)) : RX w A X :=
  ⟨own_rat h, fun a ha => by
    rcases h.2 with ⟨h0, _⟩ | ⟨q, c', cur, h0, _, h5, _⟩
    · injection h0 with h4; subst ha; cases h4
    · injection h0 with h4
      subst ha
      obtain rfl := Option.some.inj h4
      exact ⟨_, _, h5⟩⟩
theorem infoR27 : (Tryd.prog.info? 54).map (fun i => (i.zero, i.size, i.bytes)) = some (some (.agg #[.int .i64 0, .int .i64 0]), 2, 16) := by kernel_rfl
section

variable {w : World} {A : Option Addr} {c : Nat} {X : List RW}

set_option maxRecDepth 4000 in
set_option maxHeartbeats 800000 in
theorem rlen_any (h : RX w A X) (ho : OkX X) (N : Nat) (hN : X.length = N) : Calls Tryd.prog 19 #[.slice A N c] w fun e w' => e = .returned (.int .i64 (sumR X)) ∧ w' = w := by
  have HR := Lib.hid h.rat
  have HO := Lib.hid ho
  have hl := ho.len
  have HN := Lib.hid hN
  rw [hN] at hl
  have HL : Hid (N ≤ 1073741824) := hl
  clear h ho hN hl
  go_enter Tryd.func19, Tryd.ntmps19
  go_wp2
  go_loop [4, 3] (fun i v => ∃ k : Nat, k ≤ N ∧ i = .int .i64 (k : Int) ∧ v = .int .i64 (sumR (X.take k))) (fun i _ => N - (intOf i).toNat)
  case atStart => exact ⟨0, Nat.zero_le _, rfl, rfl⟩
  case round =>
    obtain ⟨k, hk, rfl, rfl⟩ := hrel
    by_cases hlt : k < N
    · obtain ⟨x, hx⟩ : ∃ x, X[k]? = some x := ⟨_, List.getElem?_eq_getElem (by rw [HN.out]; exact hlt)⟩
      obtain ⟨ax, rfl, c1, c2⟩ := HR.out k x hx
      have hsk := sum_take_succ hx
      have hm2 := sum_take_le HO.out.pos (k + 1)
      have hs := HO.out.sum
      have h0 := sum_take_mono HO.out.pos (k + 1)
      have hw : IntKind.i64.wrap (sumR (X.take k) + x.c) = sumR (X.take (k + 1)) := by rw [hsk]; exact IntWalk.i64_in _ (by omega)
      have hk0 : (0 : Int) ≤ k := by omega
      have hkn : (k : Int) < N := by omega
      have hk1 : IntKind.i64.wrap ((k : Int) + 1) = (k : Int) + 1 := IntWalk.i64_in _ (by have := HL.out; omega)
      obtain ⟨v, hv⟩ : ∃ v, sumR (X.take k) = v := ⟨_, rfl⟩
      rw [hv] at hw ⊢
      have HKL : Hid (k < N) := hlt
      clear hx hsk hm2 hs h0 hlt hk hv
      go_wp2
      go_round
      case rel => exact ⟨k + 1, HKL.out, by go_num, by first | rfl | (rw [hw])⟩
      case measure => have := HKL.out; simp [intOf]; omega
    · obtain rfl : k = N := by omega
      rw [List.take_of_length_le (by rw [HN.out]; exact Nat.le_refl _)]
      clear hk hlt
      go_wp2
      go_ret
      exact ⟨rfl, rfl⟩
theorem own_drop (X : List RW) : ∀ (k : Nat) (t : Int), (∀ x ∈ X, 1 ≤ x.c) → sumR (X.take k) ≤ t → ownX X t = ownX (X.drop k) (t - sumR (X.take k)) := by
  intro k
  induction k generalizing X with
  | zero => intro t _ _; simp [sumR]
  | succ k ih =>
    intro t h hs
    cases X with
    | nil => simp [sumR, ownX]
    | cons x l =>
      have hl : ∀ y ∈ l, 1 ≤ y.c := fun y hy => h y (by simp [hy])
      have hm := sum_take_mono hl k
      simp only [List.take_succ_cons, sumR, List.drop_succ_cons] at hs ⊢
      rw [ownX, if_neg (by omega), ih l (t - x.c) hl (by omega)]
      congr 1
      omega
end

end Go.Proofs.YtilkicbokfgjlaaDoor.Stp
