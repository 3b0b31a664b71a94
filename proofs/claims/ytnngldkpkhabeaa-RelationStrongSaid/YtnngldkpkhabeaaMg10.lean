/- Pairs: words, and plain arithmetic; what is wrong first with them, and their bytes. It says nothing of the program. No condition. What stands in memory while acts are read: the reader, the last act, the row. No condition. -/
import Derived.Test.YtnngldkpkhabeaaMg06
import Derived.Test.YtnngldkpkhabeaaMg09
import Derived.Test.YtnngldkpkhabeaaMg07
namespace Go.Proofs.Ytnngldkpkhabeaa.Pai

open Go.RowKit Go.PlainAid Go.Proofs.Ytnngldkpkhabeaa.Oct Go.Proofs.Ytnngldkpkhabeaa.Flt Go.Proofs.Ytnngldkpkhabeaa.Rdr Go.Proofs.Ytnngldkpkhabeaa.Args

open Go.Proofs.Ytnngldkpkhabeaa.Act (idB I64 list_of)

set_option linter.unusedVariables false

set_option linter.unusedSimpArgs false

/-- A pair: from, to. -/
structure P2 where
  f : Int
  t : Int
def pairL (x : P2) : List Value := [.int .i64 x.f, .int .i64 x.t]
def pairC (x : P2) : Array Value := #[.int .i64 x.f, .int .i64 x.t]
def lessB (x y : P2) : Bool := decide (x.f < y.f) || (x.f == y.f && decide (x.t < y.t))
/-- A pair may stand behind others. -/
def riseB (l : List P2) (x : P2) : Bool := match l.getLast? with
  | none => true
  | some y => lessB y x
/-- What is wrong with a pair behind others: its class. -/
def bad1 (l : List P2) (x : P2) : Nat := if idB x.f = false then 18 else if idB x.t = false then 18 else if riseB l x = false then 9 else 0
def badP (l : List P2) : Nat × Int := Prt.fb bad1 [] l
theorem bad1_le (l : List P2) (x : P2) : bad1 l x ≤ 18 := by
  unfold bad1; repeat' split
  all_goals omega
theorem rise_take (l : List P2) (i : Nat) (y x : P2) (hy : l[i]? = some y) : riseB (l.take (i + 1)) x = lessB y x := by
  have hi : i < l.length := by
    rcases Nat.lt_or_ge i l.length with h | h
    · exact h
    · rw [List.getElem?_eq_none h] at hy; cases hy
  have hye : l[i] = y := by rw [List.getElem?_eq_getElem hi] at hy; exact Option.some.inj hy
  unfold riseB
  rw [List.take_succ_eq_append_getElem hi, hye]
  simp
theorem below_drewN {B : Nat} {a w : World} (h : Below B a w) (n : Nat) : Below B a (w.drewN n) := ⟨h.os, h.tape, h.output, h.size, h.block⟩
theorem kept2 {W w2 : World} {a b : Addr} {va vb : Value} (h : W.cell? a = some va ∧ W.cell? b = some vb) (hb : Below W.heap.size W w2) : w2.cell? a = some va ∧ w2.cell? b = some vb := ⟨(hb.cell (Go.block_lt_of_cell h.1)).trans h.1, (hb.cell (Go.block_lt_of_cell h.2)).trans h.2⟩
theorem kept4 {W w2 : World} {a b c d : Addr} {va vb vc vd : Value} (h : W.cell? a = some va ∧ W.cell? b = some vb ∧ W.cell? c = some vc ∧ W.cell? d = some vd) (hb : Below W.heap.size W w2) : w2.cell? a = some va ∧ w2.cell? b = some vb ∧ w2.cell? c = some vc ∧ w2.cell? d = some vd :=
  ⟨(kept2 ⟨h.1, h.2.1⟩ hb).1, (kept2 ⟨h.1, h.2.1⟩ hb).2, kept2 h.2.2 hb⟩
def sec4 (k : Nat) : Int := if k = 0 then 0 else 4
/-- Pairs' bytes. -/
def pair1 (x : P2) : List Int := low x.f.toNat 1 ++ low x.t.toNat 1
def pairB (l : List P2) : List Int := l.flatMap pair1
theorem pairB_snoc (l : List P2) (x : P2) : pairB (l ++ [x]) = pairB l ++ pair1 x := by simp [pairB]
theorem pair1_len (x : P2) : (pair1 x).length = 2 := by unfold pair1; simp [low_length]
theorem pairB_len (l : List P2) : (pairB l).length = l.length * 2 := by
  induction l with
  | nil => rfl
  | cons x l ih =>
    have : pairB (x :: l) = pair1 x ++ pairB l := rfl
    rw [this, List.length_append, ih, pair1_len, List.length_cons]
    omega
theorem small_pair (x : P2) : Small (pair1 x) := (small_low _ _).append (small_low _ _)
theorem small_pairs (l : List P2) : Small (pairB l) := by
  intro y hy
  obtain ⟨x, _, hx⟩ := List.mem_flatMap.1 hy
  exact small_pair x y hx
/-- What a right pair is like. -/
theorem bad1_right {l : List P2} {x : P2} (h : bad1 l x = 0) : (0 ≤ x.f ∧ x.f ≤ 255) ∧ (0 ≤ x.t ∧ x.t ≤ 255) ∧ riseB l x = true := by
  unfold bad1 at h
  split at h
  · cases h
  · rename_i h1
    split at h
    · cases h
    · rename_i h2
      split at h
      · cases h
      · rename_i h3
        simp [idB] at h1 h2 h3
        exact ⟨by omega, by omega, h3⟩
theorem bad_right {l : List P2} (h : (badP l).1 = 0) (i : Nat) (x : P2) (hx : l[i]? = some x) : bad1 (l.take i) x = 0 := by
  have := Prt.fb_all bad1 l [] h i x hx
  rw [List.nil_append] at this
  exact this
theorem right_all {l : List P2} (h : (badP l).1 = 0) : ∀ x ∈ l, (0 ≤ x.f ∧ x.f ≤ 255) ∧ (0 ≤ x.t ∧ x.t ≤ 255) := by
  intro x hx
  obtain ⟨i, hi, rfl⟩ := List.mem_iff_getElem.1 hx
  obtain ⟨h1, h2, _⟩ := bad1_right (bad_right h i _ (List.getElem?_eq_getElem hi))
  exact ⟨h1, h2⟩
/-- What a pair's bytes say at a reader's place. -/
def pV (t : St) : P2 := ⟨numV t 1, numV (numS t 1) 1⟩
def pS2 (t : St) : St := numS (numS t 1) 1
def pS (t : St) (l : List P2) : St := needS (riseB l (pV t)) (pS2 t) 9 t.p
/-- The reader, and what is read, behind so many rounds. -/
def itP (t : St) : Nat → St × List P2
  | 0 => (t, [])
  | i + 1 => if (itP t i).1.k = 0 then (pS (itP t i).1 (itP t i).2, (itP t i).2 ++ [pV (itP t i).1]) else itP t i
theorem it_stay (t : St) (i : Nat) (h : (itP t i).1.k ≠ 0) : ∀ j, itP t (i + j) = itP t i
  | 0 => rfl
  | j + 1 => by
    have := it_stay t i h j
    rw [show i + (j + 1) = (i + j) + 1 by omega, itP, this, if_neg h]
theorem it_len (t : St) : ∀ i, (itP t i).2.length ≤ i
  | 0 => Nat.le_refl _
  | i + 1 => by
    have := it_len t i
    rw [itP]; split <;> (simp; try omega)
theorem it_len_ok (t : St) : ∀ i, (itP t i).1.k = 0 → (itP t i).2.length = i
  | 0, _ => rfl
  | i + 1, h => by
    have ih := it_len_ok t i
    rw [itP] at h ⊢
    split at h
    · rename_i h0
      rw [if_pos h0]
      simp [ih h0]
    · rename_i h0
      exact absurd h h0
theorem ok_pS {t : St} (h : Ok t) (l : List P2) : Ok (pS t l) := ok_need (ok_num (ok_num h _) _) _ _ _
theorem ok_it {t : St} (h : Ok t) : ∀ i, Ok (itP t i).1
  | 0 => h
  | i + 1 => by
    rw [itP]; split
    · exact ok_pS (ok_it h i) _
    · exact ok_it h i
/-- Pairs' cells. -/
def flatP (l : List P2) : List Value := l.flatMap pairL
theorem flatP_snoc (l : List P2) (x : P2) : flatP (l ++ [x]) = flatP l ++ pairL x := by simp [flatP]
theorem flatP_len (l : List P2) : (flatP l).length = l.length * 2 := by
  induction l with
  | nil => rfl
  | cons x l ih => simp [flatP, pairL] at ih ⊢; omega
theorem flatP_get (l : List P2) : ∀ (i : Nat) (x : P2) (j : Nat), l[i]? = some x → j < 2 → (flatP l)[i * 2 + j]? = (pairL x)[j]? := by
  induction l with
  | nil => intro i x j h; simp at h
  | cons y l ih =>
    intro i x j h hj
    cases i with
    | zero =>
      obtain rfl : y = x := by simpa using h
      have : flatP (y :: l) = pairL y ++ flatP l := rfl
      rw [this, Nat.zero_mul, Nat.zero_add, List.getElem?_append_left (by simp [pairL]; omega)]
    | succ i =>
      have hx : l[i]? = some x := by simpa using h
      have : flatP (y :: l) = pairL y ++ flatP l := rfl
      rw [this, List.getElem?_append_right (by simp [pairL]; omega), ← ih i x j hx hj]
      congr 1
      simp [pairL]; omega
/-- Pairs lie at an address. -/
def PairsAt (w : World) (A : Option Addr) (l : List P2) : Prop :=
  ∀ i x, l[i]? = some x → ∃ y, A = some y ∧ w.cell? (y.add (i * 2)) = some (.int .i64 x.f) ∧ w.cell? ⟨(y.add (i * 2)).block, (y.add (i * 2)).off + 1, none⟩ = some (.int .i64 x.t)
theorem PairsAt.kept {w w' : World} {A : Option Addr} {l : List P2} (h : PairsAt w A l) (b : Below w.heap.size w w') : PairsAt w' A l := by
  intro i x hx
  obtain ⟨y, e, h1, h2⟩ := h i x hx
  exact ⟨y, e, (b.cell (Go.block_lt_of_cell h1)).trans h1, (b.cell (Go.block_lt_of_cell h2)).trans h2⟩
theorem PairsAt.take {w : World} {A : Option Addr} {l : List P2} (h : PairsAt w A l) (k : Nat) : PairsAt w A (l.take k) := by
  intro i x hx
  rcases Nat.lt_or_ge i k with hi | hi
  · rw [List.getElem?_take_of_lt hi] at hx; exact h i x hx
  · rw [List.getElem?_eq_none (by simp; omega)] at hx; cases hx
def Wide (x : P2) : Prop := I64 x.f ∧ I64 x.t
theorem pairs_of {w : World} {a : Option Addr} {len cap : Nat} (h : IsRecs w a len cap [.int .i64, .int .i64]) : ∃ l, l.length = len ∧ PairsAt w a l ∧ (∀ x ∈ l, Wide x) ∧ len ≤ cap ∧ cap ≤ maxLen := by
  rcases h with ⟨rfl, rfl, rfl⟩ | ⟨y, rfl, hlc, hcm, hcell⟩
  · exact ⟨[], rfl, fun i x hx => by simp at hx, by simp, Nat.le_refl _, Nat.zero_le _⟩
  · obtain ⟨l, hl, hp⟩ := list_of (fun i (x : P2) => (w.cell? (y.add (i * 2)) = some (.int .i64 x.f) ∧ w.cell? ⟨(y.add (i * 2)).block, (y.add (i * 2)).off + 1, none⟩ = some (.int .i64 x.t)) ∧ Wide x) len (by
      intro i hi
      obtain ⟨_, c0, s, rfl, hs⟩ := hcell i hi 0 _ rfl
      obtain ⟨_, c1, p, rfl, hp⟩ := hcell i hi 1 _ rfl
      exact ⟨⟨s, p⟩, ⟨c0, c1⟩, bounds_i64 hs, bounds_i64 hp⟩)
    refine ⟨l, hl, fun i x hx => ⟨y, rfl, (hp i x hx).1⟩, fun x hx => ?_, hlc, hcm⟩
    obtain ⟨i, hi, rfl⟩ := List.mem_iff_getElem.1 hx
    exact (hp i _ (List.getElem?_eq_getElem hi)).2
/-- What pairs' bytes are read as. -/
abbrev RP4 (M : ByteArray) (p : Nat) : St := ⟨M, p, 4, 0, 0, 0⟩
theorem need_yes (t : St) (k a : Int) {b : Bool} (h : b = true) : needS b t k a = t := by unfold needS; rw [if_pos h]
theorem one_read (pre post : List Int) (x : P2) (l : List P2) (hr : bad1 l x = 0) (h1 : Small pre) (h2 : Small post) (M : ByteArray) (hM : strOfNums (pre ++ pair1 x ++ post) = M) (p : Nat) (hp : p = pre.length) :
    pS (RP4 M p) l = RP4 M (p + 2) ∧ pV (RP4 M p) = x := by
  obtain ⟨⟨s0, s1⟩, ⟨p0, p1⟩, hl⟩ := bad1_right hr
  obtain ⟨n1, n2⟩ := num_read pre (low x.t.toNat 1 ++ post) x.f.toNat 1 (by omega) (by omega) h1 ((small_low _ _).append h2) M (by rw [← hM]; simp [pair1]) p hp 4 0 0
  obtain ⟨n3, n4⟩ := num_read (pre ++ low x.f.toNat 1) post x.t.toNat 1 (by omega) (by omega) (h1.append (small_low _ _)) h2 M (by rw [← hM]; simp [pair1]) (p + 1) (by rw [List.length_append, low_length, hp]) 4 0 0
  have ev : pV (RP4 M p) = x := by
    unfold pV
    rw [n2, n1, n4]
    obtain ⟨xs, xp⟩ := x
    dsimp only at s0 p0 ⊢
    congr 1
    all_goals omega
  refine ⟨?_, ev⟩
  unfold pS
  rw [ev, hl, need_yes _ _ _ rfl]
  unfold pS2
  rw [n1, n3]
theorem text_read (l : List P2) (hb : (badP l).1 = 0) (M : ByteArray) (hM : strOfNums (pairB l) = M) :
    ∀ k, k ≤ l.length → itP (RP4 M 0) k = (RP4 M (k * 2), l.take k)
  | 0, _ => by simp [itP]
  | k + 1, hk => by
    have ih := text_read l hb M hM k (by omega)
    have hx : l[k]? = some l[k] := List.getElem?_eq_getElem (by omega)
    obtain ⟨x, hxx⟩ : ∃ x, l[k] = x := ⟨_, rfl⟩
    rw [hxx] at hx
    have e : pairB l = pairB (l.take k) ++ pair1 x ++ pairB (l.drop (k + 1)) := by
      have e0 : l = l.take k ++ x :: l.drop (k + 1) := by
        rw [← hxx, ← List.drop_eq_getElem_cons (by omega), List.take_append_drop]
      conv => lhs; rw [e0]
      simp [pairB]
    obtain ⟨o1, o2⟩ := one_read (pairB (l.take k)) (pairB (l.drop (k + 1))) x (l.take k) (bad_right hb k x hx) (small_pairs _) (small_pairs _) M (by rw [← hM, e]) (k * 2) (by rw [pairB_len, List.length_take]; omega)
    rw [itP, ih]
    dsimp only
    rw [if_pos rfl, o1, o2, Prt.take_snoc l k x hx, show (k + 1) * 2 = k * 2 + 2 by omega]
def rdP (t : St) (n : Nat) : St := (itP (secS t 4) n).1
def rdPL (t : St) (n : Nat) : List P2 := (itP (secS t 4) n).2
theorem pairs_read (l : List P2) (hb : (badP l).1 = 0) (M : ByteArray) (hM : strOfNums (pairB l) = M) :
    rdP ⟨M, 0, 0, 0, 0, 0⟩ l.length = RP4 M M.size ∧ rdPL ⟨M, 0, 0, 0, 0, 0⟩ l.length = l := by
  have h := text_read l hb M hM l.length (Nat.le_refl _)
  rw [List.take_length] at h
  have hs : M.size = l.length * 2 := by rw [← hM, strOfNums_size, pairB_len]
  unfold rdP rdPL
  rw [show secS ⟨M, 0, 0, 0, 0, 0⟩ 4 = RP4 M 0 from rfl, h, hs]
  exact ⟨rfl, rfl⟩
end Go.Proofs.Ytnngldkpkhabeaa.Pai
namespace Go.Proofs.Ytnngldkpkhabeaa.Act

open Go.RowKit Go.PlainAid Go.Proofs.Ytnngldkpkhabeaa.Oct Go.Proofs.Ytnngldkpkhabeaa.Flt Go.Proofs.Ytnngldkpkhabeaa.Rdr Go.Proofs.Ytnngldkpkhabeaa.Args

set_option linter.unusedVariables false

theorem just_grown {w w' : World} {V : Value} {b : Nat} (h : w.grownBy w' V.ownBlock) (hb : ∀ k, V.ownBlock = some k → k = b) : Just b w w' :=
  ⟨h.os, h.tape, h.output, h.size, fun k hk hne => h.block k hk (fun e => hne (hb k e.symm))⟩
theorem row_beside {w w' : World} {b B n : Nat} {T : TypeId} {size : Nat} {V : Value} {xs : List Value} (h : w.ownsRow B T size V n xs) (j : Just b w w') (hne : ∀ k, V.ownBlock = some k → k ≠ b) : w'.ownsRow B T size V n xs := by
  obtain ⟨e1, e2⟩ := h
  refine ⟨e1, ?_⟩
  rcases e2 with h | ⟨g, c, cur, h1, h2, h3, h4⟩
  · exact .inl h
  · have hlt : g < w.heap.size := by
      rcases Nat.lt_or_ge g w.heap.size with hh | hh
      · exact hh
      · rw [Array.getElem?_eq_none hh] at h3; cases h3
    exact .inr ⟨g, c, cur, h1, h2, (j.block _ hlt (hne g (by rw [h1]; rfl))).trans h3, h4⟩
theorem row_base {w : World} {B B' n : Nat} {T : TypeId} {size : Nat} {V : Value} {xs : List Value} (h : w.ownsRow B T size V n xs) (hb : B' ≤ B) : w.ownsRow B' T size V n xs := by
  obtain ⟨e1, e2⟩ := h
  refine ⟨e1, ?_⟩
  rcases e2 with h | ⟨g, c, cur, h1, h2, h3⟩
  · exact .inl h
  · exact .inr ⟨g, c, cur, h1, Nat.le_trans hb h2, h3⟩
theorem just_trans2 {g b : Nat} {a w w' : World} (h : Just g a w) (j : Just b w w') (hb : a.heap.size ≤ b) : Just g a w' :=
  ⟨j.os.trans h.os, j.tape.trans h.tape, j.output.trans h.output, Nat.le_trans h.size j.size, fun k hk hne => (j.block k (by have := h.size; omega) (by omega)).trans (h.block k hk hne)⟩
end Go.Proofs.Ytnngldkpkhabeaa.Act
