/- What package reader's numbers and texts are, and what the document's are: both by one reckoning. Condition: the table of names holds what the program lays there. What package reader's U8, U16, U32, U64 and Text do to a reader. Condition: the table of names holds what the program lays there. What the document's reader does (Fail, Num, Text): the same reckoning as the program's. No condition. The chapter's example of package reader, as the laws ask it. Condition: the table of names holds what the program lays there. That a number's bytes in a text are read as the number. No condition. Package reader's Need whether so or not; a store beside a reader. Condition: the variables hold what the program lays there. Acts: words, and plain arithmetic. It says nothing of the program. No condition. -/
import Derived.Test.YtnngldkpkhabeaaMg04
import Derived.Test.YtnngldkpkhabeaaMg05
import Derived.StillTailTactics
import Derived.Test.YtnngldkpkhabeaaMg01
namespace Go.Proofs.Ytnngldkpkhabeaa.Rdr

open Go.RowKit Go.PlainAid Go.Proofs.Ytnngldkpkhabeaa.Flt Go.Proofs.Ytnngldkpkhabeaa.Oct

set_option linter.unusedVariables false

theorem Just.drewN {g : Nat} {a w : World} (h : Just g a w) (n : Nat) : Just g a (w.drewN n) := ⟨h.os, h.tape, h.output, h.size, h.block⟩
/-- A reader that may be: it stands within its text. -/
def Ok (t : St) : Prop := t.p ≤ t.s.size ∧ t.s.size ≤ 1099511627776
/-- The next number of n bytes. -/
def numS (t : St) (n : Nat) : St := if t.k = 0 then (if getB t.s t.p n then { t with p := t.p + n } else failS t 2 t.p) else t
def numV (t : St) (n : Nat) : Nat := if t.k = 0 then getV t.s t.p n else 0
theorem fail_k {t : St} (h : t.k = 0) (a : Int) : (failS t 2 a).k = 2 := by
  have e := fail_yes (k := 2) (a := a) h (by omega) (by omega)
  rw [show (2 : Int) = ((2 : Nat) : Int) from rfl, e]

end Go.Proofs.Ytnngldkpkhabeaa.Rdr

namespace Go.Proofs.Ytnngldkpkhabeaa.Rdr

open Go.RowKit Go.PlainAid Go.Proofs.Ytnngldkpkhabeaa.Flt Go.Proofs.Ytnngldkpkhabeaa.Oct

set_option linter.unusedVariables false

theorem numV_lt (t : St) (n : Nat) (h : n = 1 ∨ n = 2 ∨ n = 4 ∨ n = 8) : numV t n < 256 ^ n := by
  have hp : 0 < 256 ^ n := Nat.pow_pos (by omega)
  unfold numV
  split
  · unfold getV
    split
    · have := getN_lt t.s (t.p : Int).toNat (n : Int).toNat
      simpa using this
    · exact hp
  · exact hp
theorem u8_le (t : St) : numV t 1 ≤ 255 := by have := numV_lt t 1 (by omega); omega
theorem u16_le (t : St) : numV t 2 ≤ 65535 := by have := numV_lt t 2 (by omega); omega
theorem u32_le (t : St) : numV t 4 ≤ 4294967295 := by have := numV_lt t 4 (by omega); omega
theorem u64_le (t : St) : numV t 8 ≤ 18446744073709551615 := by have := numV_lt t 8 (by omega); omega
theorem wrap_u32_in {v : Nat} (h : v ≤ 4294967295) : IntKind.u32.wrap (v : Int) = (v : Int) := by rw [IntKind.wrap_u32]; omega
theorem still_tail_drew {P : Program} {id : Nat} {Q : Exit → Act → World → Prop} {a : Act} {w : World} {l : List Oper} (n : Nat) (hm : P.follows .mixedOrders = true) (hB : Region.lexTailB .any l.toArray n = true)
    (h : wpStill P l.toArray w.drew (fun a' => wpList P l.toArray Q (l.drop n) a' w.drew) (l.take n) a) : (Code.region id l.toArray true).wp P Q a w := wp_region_still_tail n hm hB h
/-- The next n bytes. -/
def txtS (t : St) (n : Int) : St := if t.k = 0 then (if t.p + n.toNat ≤ t.s.size then { t with p := t.p + n.toNat } else failS t 2 t.p) else t
def txtV (t : St) (n : Int) : ByteArray := if t.k = 0 ∧ t.p + n.toNat ≤ t.s.size then t.s.extract t.p (t.p + n.toNat) else ⟨#[]⟩
theorem extract_none (s : ByteArray) (p : Nat) : s.extract p (p + 0) = ⟨#[]⟩ := by
  apply ByteArray.ext; simp
end Go.Proofs.Ytnngldkpkhabeaa.Rdr

namespace Go.Proofs.Ytnngldkpkhabeaa.Rdr

open Go.RowKit Go.PlainAid Go.Proofs.Ytnngldkpkhabeaa.Flt Go.Proofs.Ytnngldkpkhabeaa.Oct

set_option linter.unusedVariables false

theorem bcell {W w1 : World} (hb : Below W.heap.size W w1) : (∀ b o, b < W.heap.size → w1.cell? ⟨b, o, none⟩ = W.cell? ⟨b, o, none⟩) ∧ (∀ b o, b < W.heap.size → w1.frozen? ⟨b, o, none⟩ = W.frozen? ⟨b, o, none⟩) :=
  ⟨fun b o h => hb.cell (p := ⟨b, o, none⟩) h, fun b o h => hb.frozen (p := ⟨b, o, none⟩) h⟩
def rdC (t : St) : Array Value := #[.string t.s, .int .i64 t.p, .int .i64 t.sec, .int .i64 t.k, .int .i64 t.fs, .int .i64 t.fa]
theorem one_rd (t : St) : (rdC t).all (·.oneCell') = true := by simp [rdC, Value.oneCell']
def RPost (t : St) (w : World) (e : Ending) (w' : World) : Prop := e = .returned (.agg (rdC t)) ∧ Below w.heap.size w w'
def rd0 : Array Value := #[.string ⟨#[]⟩, .int .i64 0, .int .i64 0, .int .i64 0, .int .i64 0, .int .i64 0]
theorem set_far {w1 : World} {b c o : Nat} {v : Value} {y : Option Obj} (h : w1.heap[c]? = y) (hne : c ≠ b) : (w1.setCell ⟨b, o, none⟩ v).heap[c]? = y := (heap_setCell_other w1 ⟨b, o, none⟩ c v hne).trans h
theorem ends_below {w w1 : World} {W : World} (h : Below w.heap.size w w1) (hh : ∀ k, k < w.heap.size → W.heap[k]? = w1.heap[k]?) (ho : W.os = w1.os) (ht : W.tape = w1.tape) (hp : W.output = w1.output) (hs : w1.heap.size ≤ W.heap.size) : Below w.heap.size w W :=
  ⟨ho.trans h.os, ht.trans h.tape, hp.trans h.output, Nat.le_trans h.size hs, fun k hk => (hh k hk).trans (h.block k hk)⟩
theorem below_setRow {w w1 : World} {b : Nat} {cs : Array Value} (h : Below w.heap.size w w1) (hb : w.heap.size ≤ b) : Below w.heap.size w (w1.setRow b cs) :=
  h.trans ⟨rfl, rfl, rfl, by simp, fun k hk => setRow_other _ _ _ _ (by omega)⟩
theorem results_row_tmp {P : Program} {fn : Func} {p u : Tmp} {ty : TypeId} (h : fn.results = #[.cell p ty, .tmp u]) (tmps : Array Value) (w : World) (g : Nat) (t : TypeId) (cs : Array Value) (fr : Nat × Nat) (d : TypeDesc)
    (hp : tmps.getD p undef = .pointer (some ⟨g, 0, none⟩)) (hg : w.heap[g]? = some (.cells cs t fr))
    (hu : P.underlying ty = some d) (hd : (match d with | .struct _ | .array _ _ => true | _ => false) = true) (hi : (P.info? ty).map (·.size) = some cs.size) :
    (results fn tmps).run P w = .ok (.tuple #[.agg cs, tmps.getD u undef]) w := by
  have hp' : tmps[p]?.getD undef = .pointer (some ⟨g, 0, none⟩) := by simpa using hp
  simp [results, h, hp', asAddr, run_loadVar_row w g t ty cs fr d hg hu hd hi]
/-- What the document's Num tells. -/
def RNumPost (t : St) (v : Value) (w : World) (e : Ending) (w' : World) : Prop := e = .returned (.tuple #[.agg (rdC t), v]) ∧ Below w.heap.size w w'
theorem two_below (w : World) (o1 o2 : Obj) : Below w.heap.size w ((w.alloc o1).alloc o2) := ((Below.refl _ _).alloc (Nat.le_refl _) _).alloc (by simp) _
end Go.Proofs.Ytnngldkpkhabeaa.Rdr

namespace Go.Proofs.Ytnngldkpkhabeaa.Rdr

open Go.RowKit Go.PlainAid Go.Proofs.Ytnngldkpkhabeaa.Flt Go.Proofs.Ytnngldkpkhabeaa.Oct

set_option linter.unusedVariables false

theorem ok_fail {t : St} (h : Ok t) (k a : Int) : Ok (failS t k a) := by unfold failS; split <;> exact h
theorem ok_num {t : St} (h : Ok t) (n : Nat) : Ok (numS t n) := by
  unfold numS
  split
  · split
    · rename_i hg
      refine ⟨?_, h.2⟩
      unfold getB at hg; simp at hg
      show t.p + n ≤ t.s.size; omega
    · exact ok_fail h _ _
  · exact h
theorem ok_txt {t : St} (h : Ok t) (n : Int) : Ok (txtS t n) := by
  unfold txtS
  split
  · split
    · rename_i hp; exact ⟨hp, h.2⟩
    · exact ok_fail h _ _
  · exact h
def awB : ByteArray := ⟨#[1, 2, 3]⟩
theorem aw_b : getB awB (0 : Nat) (2 : Nat) = true := by decide +kernel
theorem aw_v : getV awB (0 : Nat) (2 : Nat) = 258 := by decide +kernel
theorem aw_b2 : getB awB (2 : Nat) (2 : Nat) = false := by decide +kernel
theorem aw_1 : numV ⟨awB, 0, 2, 0, 0, 0⟩ 2 = 258 := by unfold numV; rw [if_pos rfl]; exact aw_v
theorem aw_2 : numS ⟨awB, 0, 2, 0, 0, 0⟩ 2 = ⟨awB, 2, 2, 0, 0, 0⟩ := by
  unfold numS; rw [if_pos rfl]; simp only []; rw [aw_b]; rfl
theorem aw_3 : numV ⟨awB, 2, 2, 0, 0, 0⟩ 2 = 0 := by unfold numV getV; rw [if_pos rfl]; simp only []; rw [aw_b2]; rfl
theorem aw_4 : numS ⟨awB, 2, 2, 0, 0, 0⟩ 2 = ⟨awB, 2, 2, 2, 2, 2⟩ := by
  unfold numS; rw [if_pos rfl]; simp only []; rw [aw_b2]; rfl
theorem aw_ok (p : Nat) (s : Int) (hp : p ≤ 3) : Ok ⟨awB, p, s, 0, 0, 0⟩ := ⟨hp, by show 3 ≤ 1099511627776; omega⟩

end Go.Proofs.Ytnngldkpkhabeaa.Rdr
namespace Go.Proofs.Ytnngldkpkhabeaa.Rdr

open Go.RowKit Go.PlainAid Go.Proofs.Ytnngldkpkhabeaa.Oct Go.Proofs.Ytnngldkpkhabeaa.Flt

set_option linter.unusedVariables false

theorem getN_same (s s' : ByteArray) (p : Nat) : ∀ n, (∀ j, j < n → bt s (p + j) = bt s' (p + j)) → getN s p n = getN s' p n
  | 0, _ => rfl
  | n + 1, h => by
    have h1 := getN_same s s' p n (fun j hj => h j (by omega))
    have h2 := h n (by omega)
    rw [getN, getN, h1, h2]
/-- Small numbers, as bytes. -/
def Small (l : List Int) : Prop := ∀ x ∈ l, 0 ≤ x ∧ x ≤ 255
theorem Small.append {a b : List Int} (ha : Small a) (hb : Small b) : Small (a ++ b) := by
  intro x hx
  rcases List.mem_append.1 hx with h | h
  · exact ha x h
  · exact hb x h
theorem small_low (v n : Nat) : Small (low v n) := low_range v n
theorem bt_part (a b : List Int) (k : Nat) (h : k < a.length) (ha : Small a) (hb : Small b) : bt (strOfNums (a ++ b)) k = bt (strOfNums a) k := by
  rw [bt_strOf (a ++ b) k (by rw [List.length_append]; omega) (ha.append hb), bt_strOf a k h ha, List.getElem_append_left h]
theorem num_read (pre post : List Int) (v n : Nat) (hn : n = 1 ∨ n = 2 ∨ n = 4 ∨ n = 8) (hv : v < 256 ^ n) (h1 : Small pre) (h2 : Small post) (M : ByteArray) (hM : strOfNums (pre ++ low v n ++ post) = M) (p : Nat) (hp : p = pre.length) (sec fs fa : Int) :
    numS ⟨M, p, sec, 0, fs, fa⟩ n = ⟨M, p + n, sec, 0, fs, fa⟩ ∧ numV ⟨M, p, sec, 0, fs, fa⟩ n = v := by
  subst hp
  have hsz : M.size = pre.length + n + post.length := by rw [← hM, strOfNums_size]; simp [low_length]; omega
  have hg : getB M (pre.length : Nat) (n : Nat) = true := by
    unfold getB sizeB
    rw [hsz]
    rcases hn with rfl | rfl | rfl | rfl <;> (simp; omega)
  have hN : getN M pre.length n = v := by
    have h3 : getN M pre.length n = getN (strOfNums (pre ++ low v n)) pre.length n := by
      refine getN_same _ _ _ _ fun j hj => ?_
      rw [← hM]
      exact bt_part _ _ _ (by rw [List.length_append, low_length]; omega) (h1.append (small_low v n)) h2
    rw [h3, getN_low pre v n h1, Nat.mod_eq_of_lt hv]
  constructor
  · unfold numS
    rw [if_pos rfl, if_pos hg]
  · unfold numV getV
    rw [if_pos rfl, if_pos hg]
    simpa using hN
end Go.Proofs.Ytnngldkpkhabeaa.Rdr
namespace Go.Proofs.Ytnngldkpkhabeaa.Rdr

open Go.RowKit Go.PlainAid Go.Proofs.Ytnngldkpkhabeaa.Oct Go.Proofs.Ytnngldkpkhabeaa.Flt

set_option linter.unusedVariables false

/-- Need, whether so or not. -/
def needS (b : Bool) (t : St) (k a : Int) : St := if b then t else failS t k a
theorem ok_need {t : St} (h : Ok t) (b : Bool) (k a : Int) : Ok (needS b t k a) := by
  unfold needS; split
  · exact h
  · exact ok_fail h k a
theorem Just.poke {g : Nat} {a w : World} (h : Just g a w) (b o : Nat) (v : Value) (hb : a.heap.size ≤ b) : Just g a (w.setCell ⟨b, o, none⟩ v) := by
  have x := (Below.refl 0 w).setCell (p := ⟨b, o, none⟩) (Nat.zero_le _) v
  exact ⟨x.os.trans h.os, x.tape.trans h.tape, x.output.trans h.output, Nat.le_trans h.size x.size, fun k hk hg => (heap_setCell_other w _ k v (by show k ≠ b; omega)).trans (h.block k hk hg)⟩
theorem Just.pokeRow {g : Nat} {a w : World} (h : Just g a w) (b : Nat) (cs : Array Value) (hb : a.heap.size ≤ b) : Just g a (w.setRow b cs) :=
  ⟨h.os, h.tape, h.output, by have := h.size; simpa using this, fun k hk hg => (setRow_other _ _ _ _ (by omega)).trans (h.block k hk hg)⟩
end Go.Proofs.Ytnngldkpkhabeaa.Rdr
namespace Go.Proofs.Ytnngldkpkhabeaa.Act

open Go.RowKit Go.PlainAid Go.Proofs.Ytnngldkpkhabeaa.Oct Go.Proofs.Ytnngldkpkhabeaa.Flt Go.Proofs.Ytnngldkpkhabeaa.Rdr Go.Proofs.Ytnngldkpkhabeaa.Args

set_option linter.unusedVariables false

/-- An act: a schedule's number, a partition's, an action. -/
structure A3 where
  s : Int
  p : Int
  a : Int
def a0 : A3 := ⟨-1, 0, 0⟩
def aZ : A3 := ⟨0, 0, 0⟩
def actL (t : A3) : List Value := [.int .i64 t.s, .int .i64 t.p, .int .i64 t.a]
def lessB (x y : A3) : Bool := decide (x.s < y.s) || (x.s == y.s && decide (x.p < y.p))
theorem less_first {x : A3} (h : 0 ≤ x.s) : lessB a0 x = true := by unfold lessB a0; simp; omega
def formB (a : Int) : Bool := a == 1 || a == 2
def idB (n : Int) : Bool := decide (0 ≤ n) && decide (n ≤ 255)
/-- What is wrong with an act behind another one: its class. -/
def bad1 (last x : A3) : Nat := if (idB x.s && idB x.p) = false then 18 else if formB x.a = false then 6 else if lessB last x = false then 9 else 0
/-- The last one. -/
def lastOf (l : List A3) : A3 := l.getLast?.getD a0
theorem last_snoc (l : List A3) (x : A3) : lastOf (l ++ [x]) = x := by simp [lastOf]
theorem last_take (l : List A3) (i : Nat) (x : A3) (hx : l[i]? = some x) : lastOf (l.take (i + 1)) = x := by
  have hi : i < l.length := by
    rcases Nat.lt_or_ge i l.length with h | h
    · exact h
    · rw [List.getElem?_eq_none h] at hx; cases hx
  have hxe : l[i] = x := by rw [List.getElem?_eq_getElem hi] at hx; exact Option.some.inj hx
  rw [List.take_succ_eq_append_getElem hi, hxe, last_snoc]
/-- Acts' cells. -/
def flatA (l : List A3) : List Value := l.flatMap actL
theorem flatA_snoc (l : List A3) (x : A3) : flatA (l ++ [x]) = flatA l ++ actL x := by simp [flatA]
theorem flatA_len (l : List A3) : (flatA l).length = l.length * 3 := by
  induction l with
  | nil => rfl
  | cons x l ih => simp [flatA, actL] at ih ⊢; omega
theorem flatA_get (l : List A3) : ∀ (i : Nat) (x : A3) (j : Nat), l[i]? = some x → j < 3 → (flatA l)[i * 3 + j]? = (actL x)[j]? := by
  induction l with
  | nil => intro i x j h; simp at h
  | cons y l ih =>
    intro i x j h hj
    cases i with
    | zero =>
      obtain rfl : y = x := by simpa using h
      have : flatA (y :: l) = actL y ++ flatA l := rfl
      rw [this, Nat.zero_mul, Nat.zero_add, List.getElem?_append_left (by simp [actL]; omega)]
    | succ i =>
      have hx : l[i]? = some x := by simpa using h
      have : flatA (y :: l) = actL y ++ flatA l := rfl
      rw [this, List.getElem?_append_right (by simp [actL]; omega), ← ih i x j hx hj]
      congr 1
      simp [actL]; omega
/-- What an act's bytes say at a reader's place. -/
def aS2 (t : St) : St := numS (numS t 1) 1
def aS3 (t : St) : St := numS (aS2 t) 1
def aV (t : St) : A3 := ⟨numV t 1, numV (numS t 1) 1, numV (aS2 t) 1⟩
def aS (t : St) (last : A3) : St := needS (lessB last (aV t)) (needS (formB (aV t).a) (aS3 t) 6 (aS2 t).p) 9 t.p
/-- The reader, and what is read, behind so many rounds. -/
def itA (t : St) : Nat → St × List A3
  | 0 => (t, [])
  | i + 1 => if (itA t i).1.k = 0 then (aS (itA t i).1 (lastOf (itA t i).2), (itA t i).2 ++ [aV (itA t i).1]) else itA t i
theorem it_stay (t : St) (i : Nat) (h : (itA t i).1.k ≠ 0) : ∀ j, itA t (i + j) = itA t i
  | 0 => rfl
  | j + 1 => by
    have := it_stay t i h j
    rw [show i + (j + 1) = (i + j) + 1 by omega, itA, this, if_neg h]
theorem it_len (t : St) : ∀ i, (itA t i).2.length ≤ i
  | 0 => Nat.le_refl _
  | i + 1 => by
    have := it_len t i
    rw [itA]; split <;> (simp; try omega)
theorem it_len_ok (t : St) : ∀ i, (itA t i).1.k = 0 → (itA t i).2.length = i
  | 0, _ => rfl
  | i + 1, h => by
    have ih := it_len_ok t i
    rw [itA] at h ⊢
    split at h
    · rename_i h0
      rw [if_pos h0]
      simp [ih h0]
    · rename_i h0
      exact absurd h h0
theorem ok_aS {t : St} (h : Ok t) (last : A3) : Ok (aS t last) := ok_need (ok_need (ok_num (ok_num (ok_num h _) _) _) _ _ _) _ _ _
theorem ok_it {t : St} (h : Ok t) : ∀ i, Ok (itA t i).1
  | 0 => h
  | i + 1 => by
    rw [itA]; split
    · exact ok_aS (ok_it h i) _
    · exact ok_it h i
/-- What is there at each place is there as a list. -/
theorem list_of {α : Type} (P : Nat → α → Prop) : ∀ n, (∀ i, i < n → ∃ x, P i x) → ∃ l : List α, l.length = n ∧ ∀ i x, l[i]? = some x → P i x
  | 0, _ => ⟨[], rfl, fun i x h => by simp at h⟩
  | n + 1, h => by
    obtain ⟨l, hl, hp⟩ := list_of P n fun i hi => h i (by omega)
    obtain ⟨x, hx⟩ := h n (by omega)
    refine ⟨l ++ [x], by simp [hl], fun i y hy => ?_⟩
    rcases Nat.lt_or_ge i l.length with hi | hi
    · rw [List.getElem?_append_left hi] at hy; exact hp i y hy
    · rw [List.getElem?_append_right hi] at hy
      have hi0 : i - l.length = 0 := by
        rcases Nat.eq_zero_or_pos (i - l.length) with h0 | h0
        · exact h0
        · rw [List.getElem?_eq_none (by simp; omega)] at hy; cases hy
      rw [hi0] at hy
      obtain rfl : x = y := by simpa using hy
      have : i = n := by omega
      rw [this]; exact hx
/-- Acts lie at an address. -/
def ActsAt (w : World) (A : Option Addr) (l : List A3) : Prop :=
  ∀ i x, l[i]? = some x → ∃ y, A = some y ∧ w.cell? (y.add (i * 3)) = some (.int .i64 x.s) ∧ w.cell? ⟨(y.add (i * 3)).block, (y.add (i * 3)).off + 1, none⟩ = some (.int .i64 x.p) ∧ w.cell? ⟨(y.add (i * 3)).block, (y.add (i * 3)).off + 2, none⟩ = some (.int .i64 x.a)
theorem ActsAt.kept {w w' : World} {A : Option Addr} {l : List A3} (h : ActsAt w A l) (b : Below w.heap.size w w') : ActsAt w' A l := by
  intro i x hx
  obtain ⟨y, e, h1, h2, h3⟩ := h i x hx
  exact ⟨y, e, (b.cell (Go.block_lt_of_cell h1)).trans h1, (b.cell (Go.block_lt_of_cell h2)).trans h2, (b.cell (Go.block_lt_of_cell h3)).trans h3⟩
def I64 (n : Int) : Prop := -9223372036854775808 ≤ n ∧ n ≤ 9223372036854775807
def Wide (x : A3) : Prop := I64 x.s ∧ I64 x.p ∧ I64 x.a
theorem acts_of {w : World} {a : Option Addr} {len cap : Nat} (h : IsRecs w a len cap [.int .i64, .int .i64, .int .i64]) : ∃ l, l.length = len ∧ ActsAt w a l ∧ (∀ x ∈ l, Wide x) ∧ len ≤ cap ∧ cap ≤ maxLen := by
  rcases h with ⟨rfl, rfl, rfl⟩ | ⟨y, rfl, hlc, hcm, hcell⟩
  · exact ⟨[], rfl, fun i x hx => by simp at hx, by simp, Nat.le_refl _, Nat.zero_le _⟩
  · obtain ⟨l, hl, hp⟩ := list_of (fun i (x : A3) => (w.cell? (y.add (i * 3)) = some (.int .i64 x.s) ∧ w.cell? ⟨(y.add (i * 3)).block, (y.add (i * 3)).off + 1, none⟩ = some (.int .i64 x.p) ∧ w.cell? ⟨(y.add (i * 3)).block, (y.add (i * 3)).off + 2, none⟩ = some (.int .i64 x.a)) ∧ Wide x) len (by
      intro i hi
      obtain ⟨_, c0, s, rfl, hs⟩ := hcell i hi 0 _ rfl
      obtain ⟨_, c1, p, rfl, hp⟩ := hcell i hi 1 _ rfl
      obtain ⟨_, c2, a, rfl, ha⟩ := hcell i hi 2 _ rfl
      exact ⟨⟨s, p, a⟩, ⟨c0, c1, c2⟩, bounds_i64 hs, bounds_i64 hp, bounds_i64 ha⟩)
    refine ⟨l, hl, fun i x hx => ⟨y, rfl, (hp i x hx).1⟩, fun x hx => ?_, hlc, hcm⟩
    obtain ⟨i, hi, rfl⟩ := List.mem_iff_getElem.1 hx
    exact (hp i _ (List.getElem?_eq_getElem hi)).2
end Go.Proofs.Ytnngldkpkhabeaa.Act
