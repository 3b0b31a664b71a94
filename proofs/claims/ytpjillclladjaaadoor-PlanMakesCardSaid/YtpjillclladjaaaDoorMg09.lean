/- Acts: words, and plain arithmetic. It says nothing of the program. No condition. What stands in memory while acts are read: the reader, the last act, the row. No condition. -/
import Derived.Test.YtpjillclladjaaaDoorMg08
import Derived.Test.YtpjillclladjaaaDoorMg01
namespace Go.Proofs.YtpjillclladjaaaDoor.Act

open Go.RowKit Go.PlainAid Go.Proofs.YtpjillclladjaaaDoor.Oct Go.Proofs.YtpjillclladjaaaDoor.Flt Go.Proofs.YtpjillclladjaaaDoor.Rdr Go.Proofs.YtpjillclladjaaaDoor.Args

set_option linter.unusedVariables false

/-- An act: a schedule's number, a partition's, an action. -/
structure A3 where
  s : Int
  p : Int
  a : Int
def a0 : A3 := ⟨-1, 0, 0⟩
def aZ : A3 := ⟨0, 0, 0⟩
def actL (t : A3) : List Value := [.int .i64 t.s, .int .i64 t.p, .int .i64 t.a]
def lessB (x y : A3) : Bool := decide (x.s < y.s) || (x.s == y.s && decide (x.p < y.p))
theorem less_first {x : A3} (h : 0 ≤ x.s) : lessB a0 x = true := by unfold lessB a0; simp; omega
def formB (a : Int) : Bool := a == 1 || a == 2
def idB (n : Int) : Bool := decide (0 ≤ n) && decide (n ≤ 255)
/-- What is wrong with an act behind another one: its class. -/
def bad1 (last x : A3) : Nat := if (idB x.s && idB x.p) = false then 18 else if formB x.a = false then 6 else if lessB last x = false then 9 else 0
/-- The last one. -/
def lastOf (l : List A3) : A3 := l.getLast?.getD a0
theorem last_snoc (l : List A3) (x : A3) : lastOf (l ++ [x]) = x := by simp [lastOf]
theorem last_take (l : List A3) (i : Nat) (x : A3) (hx : l[i]? = some x) : lastOf (l.take (i + 1)) = x := by
  have hi : i < l.length := by
    rcases Nat.lt_or_ge i l.length with h | h
    · exact h
    · rw [List.getElem?_eq_none h] at hx; cases hx
  have hxe : l[i] = x := by rw [List.getElem?_eq_getElem hi] at hx; exact Option.some.inj hx
  rw [List.take_succ_eq_append_getElem hi, hxe, last_snoc]
/-- Acts' cells. -/
def flatA (l : List A3) : List Value := l.flatMap actL
theorem flatA_snoc (l : List A3) (x : A3) : flatA (l ++ [x]) = flatA l ++ actL x := by simp [flatA]
theorem flatA_len (l : List A3) : (flatA l).length = l.length * 3 := by
  induction l with
  | nil => rfl
  | cons x l ih => simp [flatA, actL] at ih ⊢; omega
theorem flatA_get (l : List A3) : ∀ (i : Nat) (x : A3) (j : Nat), l[i]? = some x → j < 3 → (flatA l)[i * 3 + j]? = (actL x)[j]? := by
  induction l with
  | nil => intro i x j h; simp at h
  | cons y l ih =>
    intro i x j h hj
    cases i with
    | zero =>
      obtain rfl : y = x := by simpa using h
      have : flatA (y :: l) = actL y ++ flatA l := rfl
      rw [this, Nat.zero_mul, Nat.zero_add, List.getElem?_append_left (by simp [actL]; omega)]
    | succ i =>
      have hx : l[i]? = some x := by simpa using h
      have : flatA (y :: l) = actL y ++ flatA l := rfl
      rw [this, List.getElem?_append_right (by simp [actL]; omega), ← ih i x j hx hj]
      congr 1
      simp [actL]; omega
/-- What an act's bytes say at a reader's place. -/
def aS2 (t : St) : St := numS (numS t 1) 1
def aS3 (t : St) : St := numS (aS2 t) 1
def aV (t : St) : A3 := ⟨numV t 1, numV (numS t 1) 1, numV (aS2 t) 1⟩
def aS (t : St) (last : A3) : St := needS (lessB last (aV t)) (needS (formB (aV t).a) (aS3 t) 6 (aS2 t).p) 9 t.p
/-- The reader, and what is read, behind so many rounds. -/
def itA (t : St) : Nat → St × List A3
  | 0 => (t, [])
  | i + 1 => if (itA t i).1.k = 0 then (aS (itA t i).1 (lastOf (itA t i).2), (itA t i).2 ++ [aV (itA t i).1]) else itA t i
theorem it_stay (t : St) (i : Nat) (h : (itA t i).1.k ≠ 0) : ∀ j, itA t (i + j) = itA t i
  | 0 => rfl
  | j + 1 => by
    have := it_stay t i h j
    rw [show i + (j + 1) = (i + j) + 1 by omega, itA, this, if_neg h]
theorem it_len (t : St) : ∀ i, (itA t i).2.length ≤ i
  | 0 => Nat.le_refl _
  | i + 1 => by
    have := it_len t i
    rw [itA]; split <;> (simp; try omega)
theorem it_len_ok (t : St) : ∀ i, (itA t i).1.k = 0 → (itA t i).2.length = i
  | 0, _ => rfl
  | i + 1, h => by
    have ih := it_len_ok t i
    rw [itA] at h ⊢
    split at h
    · rename_i h0
      rw [if_pos h0]
      simp [ih h0]
    · rename_i h0
      exact absurd h h0
theorem ok_aS {t : St} (h : Ok t) (last : A3) : Ok (aS t last) := ok_need (ok_need (ok_num (ok_num (ok_num h _) _) _) _ _ _) _ _ _
theorem ok_it {t : St} (h : Ok t) : ∀ i, Ok (itA t i).1
  | 0 => h
  | i + 1 => by
    rw [itA]; split
    · exact ok_aS (ok_it h i) _
    · exact ok_it h i
/-- What is there at each place is there as a list. -/
theorem list_of {α : Type} (P : Nat → α → Prop) : ∀ n, (∀ i, i < n → ∃ x, P i x) → ∃ l : List α, l.length = n ∧ ∀ i x, l[i]? = some x → P i x
  | 0, _ => ⟨[], rfl, fun i x h => by simp at h⟩
  | n + 1, h => by
    obtain ⟨l, hl, hp⟩ := list_of P n fun i hi => h i (by omega)
    obtain ⟨x, hx⟩ := h n (by omega)
    refine ⟨l ++ [x], by simp [hl], fun i y hy => ?_⟩
    rcases Nat.lt_or_ge i l.length with hi | hi
    · rw [List.getElem?_append_left hi] at hy; exact hp i y hy
    · rw [List.getElem?_append_right hi] at hy
      have hi0 : i - l.length = 0 := by
        rcases Nat.eq_zero_or_pos (i - l.length) with h0 | h0
        · exact h0
        · rw [List.getElem?_eq_none (by simp; omega)] at hy; cases hy
      rw [hi0] at hy
      obtain rfl : x = y := by simpa using hy
      have : i = n := by omega
      rw [this]; exact hx
/-- Acts lie at an address. -/
def ActsAt (w : World) (A : Option Addr) (l : List A3) : Prop :=
  ∀ i x, l[i]? = some x → ∃ y, A = some y ∧ w.cell? (y.add (i * 3)) = some (.int .i64 x.s) ∧ w.cell? ⟨(y.add (i * 3)).block, (y.add (i * 3)).off + 1, none⟩ = some (.int .i64 x.p) ∧ w.cell? ⟨(y.add (i * 3)).block, (y.add (i * 3)).off + 2, none⟩ = some (.int .i64 x.a)
theorem ActsAt.kept {w w' : World} {A : Option Addr} {l : List A3} (h : ActsAt w A l) (b : Below w.heap.size w w') : ActsAt w' A l := by
  intro i x hx
  obtain ⟨y, e, h1, h2, h3⟩ := h i x hx
  exact ⟨y, e, (b.cell (Go.block_lt_of_cell h1)).trans h1, (b.cell (Go.block_lt_of_cell h2)).trans h2, (b.cell (Go.block_lt_of_cell h3)).trans h3⟩
def I64 (n : Int) : Prop := -9223372036854775808 ≤ n ∧ n ≤ 9223372036854775807
def Wide (x : A3) : Prop := I64 x.s ∧ I64 x.p ∧ I64 x.a
theorem acts_of {w : World} {a : Option Addr} {len cap : Nat} (h : IsRecs w a len cap [.int .i64, .int .i64, .int .i64]) : ∃ l, l.length = len ∧ ActsAt w a l ∧ (∀ x ∈ l, Wide x) ∧ len ≤ cap ∧ cap ≤ maxLen := by
  rcases h with ⟨rfl, rfl, rfl⟩ | ⟨y, rfl, hlc, hcm, hcell⟩
  · exact ⟨[], rfl, fun i x hx => by simp at hx, by simp, Nat.le_refl _, Nat.zero_le _⟩
  · obtain ⟨l, hl, hp⟩ := list_of (fun i (x : A3) => (w.cell? (y.add (i * 3)) = some (.int .i64 x.s) ∧ w.cell? ⟨(y.add (i * 3)).block, (y.add (i * 3)).off + 1, none⟩ = some (.int .i64 x.p) ∧ w.cell? ⟨(y.add (i * 3)).block, (y.add (i * 3)).off + 2, none⟩ = some (.int .i64 x.a)) ∧ Wide x) len (by
      intro i hi
      obtain ⟨_, c0, s, rfl, hs⟩ := hcell i hi 0 _ rfl
      obtain ⟨_, c1, p, rfl, hp⟩ := hcell i hi 1 _ rfl
      obtain ⟨_, c2, a, rfl, ha⟩ := hcell i hi 2 _ rfl
      exact ⟨⟨s, p, a⟩, ⟨c0, c1, c2⟩, bounds_i64 hs, bounds_i64 hp, bounds_i64 ha⟩)
    refine ⟨l, hl, fun i x hx => ⟨y, rfl, (hp i x hx).1⟩, fun x hx => ?_, hlc, hcm⟩
    obtain ⟨i, hi, rfl⟩ := List.mem_iff_getElem.1 hx
    exact (hp i _ (List.getElem?_eq_getElem hi)).2
end Go.Proofs.YtpjillclladjaaaDoor.Act
namespace Go.Proofs.YtpjillclladjaaaDoor.Act

open Go.RowKit Go.PlainAid Go.Proofs.YtpjillclladjaaaDoor.Oct Go.Proofs.YtpjillclladjaaaDoor.Flt Go.Proofs.YtpjillclladjaaaDoor.Rdr Go.Proofs.YtpjillclladjaaaDoor.Args

set_option linter.unusedVariables false

theorem just_grown {w w' : World} {V : Value} {b : Nat} (h : w.grownBy w' V.ownBlock) (hb : ∀ k, V.ownBlock = some k → k = b) : Just b w w' :=
  ⟨h.os, h.tape, h.output, h.size, fun k hk hne => h.block k hk (fun e => hne (hb k e.symm))⟩
theorem row_beside {w w' : World} {b B n : Nat} {T : TypeId} {size : Nat} {V : Value} {xs : List Value} (h : w.ownsRow B T size V n xs) (j : Just b w w') (hne : ∀ k, V.ownBlock = some k → k ≠ b) : w'.ownsRow B T size V n xs := by
  obtain ⟨e1, e2⟩ := h
  refine ⟨e1, ?_⟩
  rcases e2 with h | ⟨g, c, cur, h1, h2, h3, h4⟩
  · exact .inl h
  · have hlt : g < w.heap.size := by
      rcases Nat.lt_or_ge g w.heap.size with hh | hh
      · exact hh
      · rw [Array.getElem?_eq_none hh] at h3; cases h3
    exact .inr ⟨g, c, cur, h1, h2, (j.block _ hlt (hne g (by rw [h1]; rfl))).trans h3, h4⟩
theorem row_base {w : World} {B B' n : Nat} {T : TypeId} {size : Nat} {V : Value} {xs : List Value} (h : w.ownsRow B T size V n xs) (hb : B' ≤ B) : w.ownsRow B' T size V n xs := by
  obtain ⟨e1, e2⟩ := h
  refine ⟨e1, ?_⟩
  rcases e2 with h | ⟨g, c, cur, h1, h2, h3⟩
  · exact .inl h
  · exact .inr ⟨g, c, cur, h1, Nat.le_trans hb h2, h3⟩
theorem just_trans2 {g b : Nat} {a w w' : World} (h : Just g a w) (j : Just b w w') (hb : a.heap.size ≤ b) : Just g a w' :=
  ⟨j.os.trans h.os, j.tape.trans h.tape, j.output.trans h.output, Nat.le_trans h.size j.size, fun k hk hne => (j.block k (by have := h.size; omega) (by omega)).trans (h.block k hk hne)⟩
end Go.Proofs.YtpjillclladjaaaDoor.Act
