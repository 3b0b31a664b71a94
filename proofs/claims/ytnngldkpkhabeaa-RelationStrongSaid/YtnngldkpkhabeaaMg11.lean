/- What package parts reads of a partition's cells. Condition: the variables hold what the program lays there; the reader stands within a text of at most 2 to the power 40 bytes. What package parts reads of a partition. Condition: the variables hold what the program lays there; the reader stands within a text of at most 2 to the power 40 bytes. What package parts' Read reads. Condition: the variables hold what the program lays there; the reader stands within a text of at most 2 to the power 40 bytes; at most 1,000 partitions. -/
import Derived.Test.YtnngldkpkhabeaaMg09
import Derived.Test.YtnngldkpkhabeaaMg10
namespace Go.Proofs.Ytnngldkpkhabeaa.Prt

open Go.RowKit Go.PlainAid Go.Proofs.Ytnngldkpkhabeaa.Oct Go.Proofs.Ytnngldkpkhabeaa.Flt Go.Proofs.Ytnngldkpkhabeaa.Rdr Go.Proofs.Ytnngldkpkhabeaa.Nam

open Go.Proofs.Ytnngldkpkhabeaa.Act (row_beside row_base)

set_option linter.unusedVariables false

set_option linter.unusedSimpArgs false

def flS (t : St) : St := needS (decide ((numV t 1 : Int) ≤ 1)) (numS t 1) 6 t.p
def flV (t : St) : Bool := (numV t 1 : Int) == 1
theorem ok_fl {t : St} (h : Ok t) : Ok (flS t) := ok_need (ok_num h _) _ _ _
def flatC (l : List C2) : List Value := l.flatMap celL
theorem flatC_snoc (l : List C2) (x : C2) : flatC (l ++ [x]) = flatC l ++ celL x := by simp [flatC]
theorem flatC_len (l : List C2) : (flatC l).length = l.length * 2 := by
  induction l with
  | nil => rfl
  | cons x l ih => simp [flatC, celL] at ih ⊢; omega
def ceS (t : St) : St := numS (flS t) 4
def ceV (t : St) : C2 := ⟨numV (flS t) 4, flV t⟩
def ceN (t : St) : Nat → St × List C2
  | 0 => (t, [])
  | i + 1 => (ceS (ceN t i).1, (ceN t i).2 ++ [ceV (ceN t i).1])
theorem ceN_len (t : St) : ∀ i, (ceN t i).2.length = i
  | 0 => rfl
  | i + 1 => by rw [ceN]; simp [ceN_len t i]
theorem ok_ce {t : St} (h : Ok t) : ∀ i, Ok (ceN t i).1
  | 0 => h
  | i + 1 => ok_num (ok_fl (ok_ce h i)) _
def hdS (t : St) : St := needS (decide ((numV t 1 : Int) ≤ 16)) (numS t 1) 8 t.p
def clS (t : St) : St := if (hdS t).k = 0 then (ceN (hdS t) (numV t 1)).1 else hdS t
def clV (t : St) : List C2 := if (hdS t).k = 0 then (ceN (hdS t) (numV t 1)).2 else []
theorem ok_hd {t : St} (h : Ok t) : Ok (hdS t) := ok_need (ok_num h _) _ _ _
theorem ok_cl {t : St} (h : Ok t) : Ok (clS t) := by
  unfold clS; split
  · exact ok_ce (ok_hd h) _
  · exact ok_hd h
theorem just_cell (w : World) (c o : Nat) (v : Value) : Just c w (w.setCell ⟨c, o, none⟩ v) := by
  have x := (Below.refl 0 w).setCell (p := ⟨c, o, none⟩) (Nat.zero_le _) v
  exact ⟨x.os, x.tape, x.output, x.size, fun k hk hne => heap_setCell_other w _ k v hne⟩
end Go.Proofs.Ytnngldkpkhabeaa.Prt

namespace Go.Proofs.Ytnngldkpkhabeaa.Prt

open Go.RowKit Go.PlainAid Go.Proofs.Ytnngldkpkhabeaa.Oct Go.Proofs.Ytnngldkpkhabeaa.Flt Go.Proofs.Ytnngldkpkhabeaa.Rdr Go.Proofs.Ytnngldkpkhabeaa.Nam

open Go.Proofs.Ytnngldkpkhabeaa.Act (row_beside row_base)

set_option linter.unusedVariables false

set_option linter.unusedSimpArgs false

def o2S (t : St) (last : Int) : St := needS (decide (last < (numV t 1 : Int))) (numS t 1) 9 t.p
def o3S (t : St) (last : Int) : St := flS (o2S t last)
def o4S (t : St) (last : Int) : St := nmS (o3S t last)
def onS (t : St) (last : Int) : St := clS (o4S t last)
def onV (t : St) (last : Int) : PT := ⟨numV t 1, nmV (o3S t last), flV (o2S t last), clV (o4S t last)⟩
theorem ok_nm {t : St} (h : Ok t) : Ok (nmS t) := by
  have h1 := ok_num h 1
  have h2 := ok_txt h1 (numV t 1 : Nat)
  unfold nmS
  repeat' split
  all_goals first | exact h | exact h1 | exact h2 | exact ok_fail h _ _ | exact ok_fail h1 _ _ | exact ok_fail h2 _ _
theorem ok_o2 {t : St} (h : Ok t) (last : Int) : Ok (o2S t last) := ok_need (ok_num h _) _ _ _
theorem ok_o3 {t : St} (h : Ok t) (last : Int) : Ok (o3S t last) := ok_fl (ok_o2 h last)
theorem ok_o4 {t : St} (h : Ok t) (last : Int) : Ok (o4S t last) := ok_nm (ok_o3 h last)
theorem ok_on {t : St} (h : Ok t) (last : Int) : Ok (onS t last) := ok_cl (ok_o4 h last)
def ptZ : Array Value := #[.int .i64 0, .string ⟨#[]⟩, .bool false, .slice none 0 0]
theorem just_row (w : World) (c : Nat) (cs : Array Value) : Just c w (w.setRow c cs) := ⟨rfl, rfl, rfl, by simp, fun k hk hne => setRow_other _ _ _ _ hne⟩
end Go.Proofs.Ytnngldkpkhabeaa.Prt

namespace Go.Proofs.Ytnngldkpkhabeaa.Prt

open Go.RowKit Go.PlainAid Go.Proofs.Ytnngldkpkhabeaa.Oct Go.Proofs.Ytnngldkpkhabeaa.Flt Go.Proofs.Ytnngldkpkhabeaa.Rdr Go.Proofs.Ytnngldkpkhabeaa.Nam

open Go.Proofs.Ytnngldkpkhabeaa.Act (row_beside row_base)



set_option linter.unusedVariables false

set_option linter.unusedSimpArgs false

/-- The reader, and what is read, behind so many rounds. -/
def itP (t : St) : Nat → St × List PT
  | 0 => (t, [])
  | i + 1 => if (itP t i).1.k = 0 then (onS (itP t i).1 (lastP (itP t i).2), (itP t i).2 ++ [onV (itP t i).1 (lastP (itP t i).2)]) else itP t i
theorem itP_stay (t : St) (i : Nat) (h : (itP t i).1.k ≠ 0) : ∀ j, itP t (i + j) = itP t i
  | 0 => rfl
  | j + 1 => by
    have := itP_stay t i h j
    rw [show i + (j + 1) = (i + j) + 1 by omega, itP, this, if_neg h]
theorem itP_len (t : St) : ∀ i, (itP t i).2.length ≤ i
  | 0 => Nat.le_refl _
  | i + 1 => by
    have := itP_len t i
    rw [itP]; split <;> (simp; try omega)
theorem ok_itP {t : St} (h : Ok t) : ∀ i, Ok (itP t i).1
  | 0 => h
  | i + 1 => by
    rw [itP]; split
    · exact ok_on (ok_itP h i) _
    · exact ok_itP h i
def flatQ (L : List (PT × Value)) : List Value := L.flatMap fun q => [.int .i64 q.1.id, .string q.1.nm, .bool q.1.may, q.2]
theorem flatQ_snoc (L : List (PT × Value)) (q : PT × Value) : flatQ (L ++ [q]) = flatQ L ++ [.int .i64 q.1.id, .string q.1.nm, .bool q.1.may, q.2] := by simp [flatQ]
theorem flatQ_get (L : List (PT × Value)) : ∀ (i : Nat) (q : PT × Value) (j : Nat), L[i]? = some q → j < 4 → (flatQ L)[i * 4 + j]? = ([.int .i64 q.1.id, .string q.1.nm, .bool q.1.may, q.2] : List Value)[j]? := by
  induction L with
  | nil => intro i x j h; simp at h
  | cons y l ih =>
    intro i x j h hj
    have e : flatQ (y :: l) = [.int .i64 y.1.id, .string y.1.nm, .bool y.1.may, y.2] ++ flatQ l := rfl
    cases i with
    | zero =>
      obtain rfl : y = x := by simpa using h
      rw [e, Nat.zero_mul, Nat.zero_add, List.getElem?_append_left (by simp; omega)]
    | succ i =>
      have hx : l[i]? = some x := by simpa using h
      rw [e, List.getElem?_append_right (by simp; omega), ← ih i x j hx hj]
      congr 1
      simp; omega
theorem own_block {w : World} {B n : Nat} {T : TypeId} {s : Nat} {v : Value} {xs : List Value} (h : w.ownsRow B T s v n xs) {k : Nat} (hk : v.ownBlock = some k) : ∃ cur, w.heap[k]? = some (.cells cur T (0, 0)) := by
  rcases h.2 with ⟨rfl, _⟩ | ⟨g, c, cur, rfl, _, h3, _⟩
  · cases hk
  · obtain rfl : g = k := by simpa [Value.ownBlock] using hk
    exact ⟨cur, h3⟩
def rdP (t : St) (n : Nat) : St := (itP (secS t 2) n).1
def rdL (t : St) (n : Nat) : List PT := (itP (secS t 2) n).2
end Go.Proofs.Ytnngldkpkhabeaa.Prt
