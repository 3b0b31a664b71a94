
/- What package name's Make makes of a number, and the document's digits; that such a name is a name. Condition: the library's table of powers of ten holds what the library lays there. -/

import Derived.Test.YtbjolbgjohggiaaDoorNamE

import Derived.Deep.QuietTactic

import Derived.BigQuiet

namespace Go.Proofs.YtbjolbgjohggiaaDoor.Nam

open Go.RowKit Go.PlainAid Go.Proofs.YtbjolbgjohggiaaDoor.Oct

set_option linter.unusedVariables false

def tens : ByteArray := ⟨#[48, 49, 50, 51, 52, 53, 54, 55, 56, 57]⟩
theorem tens_at : ∀ r : Fin 10, tens.extract r (r + 1) = ⟨#[UInt8.ofNat (48 + r)]⟩ := by decide +kernel
/-- A number's decimal digits. -/
def decB (n : Nat) : ByteArray := ⟨(Lib.decDigits n).toArray⟩
theorem dec_len (n : Nat) : (Lib.decDigits n).length ≤ n + 1 := by
  induction n using Nat.strongRecOn with
  | _ n ih =>
    rw [Lib.decDigits]
    split
    · simp
    · rw [List.length_append]
      have := ih (n / 10) (by omega)
      simp; omega
theorem decB_size (n : Nat) : (decB n).size = (Lib.decDigits n).length := by show (Lib.decDigits n).toArray.size = _; simp
theorem decB_small {n : Nat} (h : n < 10) : decB n = ⟨#[UInt8.ofNat (48 + n)]⟩ := by unfold decB; rw [Lib.decDigits_one h]
theorem decB_big {n : Nat} (h : ¬ n < 10) : decB n = decB (n / 10) ++ ⟨#[UInt8.ofNat (48 + n % 10)]⟩ := by
  unfold decB
  rw [Lib.decDigits, dif_neg h]
  apply ByteArray.ext
  rw [ByteArray.data_append]
  simp
def QPost (x : ByteArray) (w : World) (e : Ending) (w' : World) : Prop := e = .returned (.string x) ∧ ∃ n, w' = w.drewN n
theorem slice_ten (r : Nat) (h : r < 10) (w : World) : (Instr.slice 9 (.string tens) (some (.int .i64 r)) (some (.int .i64 ((r : Int) + 1))) none).run Tryd.prog w = .ok (.string ⟨#[UInt8.ofNat (48 + r)]⟩) w := by
  have hs : (tens.size : Int) = 10 := rfl
  rw [run_slice_string w 9 tens .i64 .i64 _ _ Tryd.underlying9 (by omega) (by omega) (by omega)]
  have := tens_at ⟨r, h⟩
  rw [← this]
  congr 3
set_option maxHeartbeats 400000 in
theorem digits_any : ∀ (n : Nat), n ≤ 9223372036854775807 → ∀ w : World, Calls Tryd.prog 46 #[.int .i64 n] w (QPost (decB n) w) := by
  intro n
  induction n using Nat.strongRecOn with
  | _ n ih =>
    intro hn w
    by_cases h : n < 10
    · have hsl := slice_ten n h
      rw [decB_small h]
      have t0 : decide ((n : Int) < 0) = false := decide_eq_false (by omega)
      have t1 : decide ((n : Int) < 10) = true := decide_eq_true (by omega)
      have t2 : decide (n < 10) = true := decide_eq_true h
      have hb : (n : Int) ≤ 9 := by omega
      obtain ⟨X, hX⟩ : ∃ X : ByteArray, (⟨#[UInt8.ofNat (48 + n)]⟩ : ByteArray) = X := ⟨_, rfl⟩
      rw [hX] at hsl ⊢
      unfold tens at hsl
      clear ih hn h hX
      go_enter Tryd.func46, Tryd.ntmps46
      go_wp2
      go_ret
      exact ⟨rfl, 0, rfl⟩
    · obtain ⟨q, hq⟩ : ∃ q, n / 10 = q := ⟨_, rfl⟩
      obtain ⟨r, hr⟩ : ∃ r, n % 10 = r := ⟨_, rfl⟩
      have hr10 : r < 10 := by omega
      have hsl := slice_ten r hr10
      have hrec : Hid (∀ w : World, Calls Tryd.prog 46 #[.int .i64 q] w (QPost (decB q) w)) := ih q (by omega) (by omega)
      have hlen := dec_len q
      rw [← decB_size] at hlen
      rw [decB_big h, hq, hr]
      obtain ⟨X, hX⟩ : ∃ X : ByteArray, (⟨#[UInt8.ofNat (48 + r)]⟩ : ByteArray) = X := ⟨_, rfl⟩
      have hXs : X.size = 1 := by rw [← hX]; rfl
      obtain ⟨Y, hY⟩ : ∃ Y : ByteArray, decB q = Y := ⟨_, rfl⟩
      rw [hX] at hsl ⊢
      rw [hY] at hrec hlen ⊢
      have hsum : ¬ 9223372036854775807 < Y.size + X.size := by omega
      have t0 : decide ((n : Int) < 0) = false := decide_eq_false (by omega)
      have t1 : decide ((n : Int) < 10) = false := decide_eq_false (by omega)
      have t2 : decide (n < 10) = false := decide_eq_false h
      have d1 : (n : Int) / 10 = (q : Int) := by omega
      have d2 : (n : Int) % 10 = (r : Int) := by omega
      have d3 : (n : Int).tdiv 10 = (q : Int) := by rw [Int.tdiv_eq_ediv_of_nonneg (by omega)]; exact d1
      have d4 : (n : Int).tmod 10 = (r : Int) := by rw [Int.tmod_eq_emod_of_nonneg (by omega)]; exact d2
      have d5 : IntKind.i64.wrap (q : Int) = (q : Int) := by rw [IntKind.wrap_i64]; omega
      have d6 : IntKind.i64.wrap (r : Int) = (r : Int) := by rw [IntKind.wrap_i64]; omega
      have d7 : IntKind.i64.wrap ((r : Int) + 1) = (r : Int) + 1 := by rw [IntKind.wrap_i64]; omega
      unfold tens at hsl
      clear ih hn h hX hY hXs hlen hq hr hr10
      go_enter Tryd.func46, Tryd.ntmps46
      go_wp2_with fail
      go_quiet ((go_at_call 46; exact Calls.quiet_of (hrec.out _)))
      go_wp2
      go_ret
      exact ⟨rfl, _, rfl⟩
theorem rdigits_any (n : Nat) (hn : n ≤ 9223372036854775807) (w : World) : Calls Tryd.prog 30 #[.int .i64 n] w fun e w' => e = .returned (.string (decB n)) ∧ Below w.heap.size w w' := by
  have H := Lib.hid (digits_any n hn)
  obtain ⟨X, hX⟩ : ∃ X, decB n = X := ⟨_, rfl⟩
  rw [hX] at H ⊢
  clear hX hn
  go_enter Tryd.func30, Tryd.ntmps30
  go_wp2_with (go_at_call 46; refine (H.out _).mono ?_; rintro e w' ⟨rfl, m, rfl⟩)
  go_ret
  exact ⟨rfl, rfl, rfl, rfl, Nat.le_refl _, fun _ _ => rfl⟩

abbrev Tab (w : World) : Prop := Lib.TabIs Tryd.prog w "internal/strconv.uint64pow10" .u64 Lib.pow10Tab
theorem tab_kept {w w' : World} (h : Tab w) (b : Below w.heap.size w w') : Tab w' := by
  unfold Tab Lib.TabIs at h ⊢
  rw [← h]
  have hg : ∀ g, Tryd.prog.globalNamed "internal/strconv.uint64pow10" = some g → w'.heap[g]? = w.heap[g]? := by
    intro g hg
    unfold World.var? at h
    rw [hg] at h
    refine b.block g ?_
    rcases Nat.lt_or_ge g w.heap.size with hlt | hge
    · exact hlt
    · simp [Array.getElem?_eq_none hge] at h
  unfold World.var?
  cases hh : Tryd.prog.globalNamed "internal/strconv.uint64pow10" with
  | none => rfl
  | some g =>
    show (match w'.heap[g]? with | some (.cells cs _ _) => some cs | _ => none) = (match w.heap[g]? with | some (.cells cs _ _) => some cs | _ => none)
    rw [hg g hh]
theorem itoa_any (n : Nat) (hn : n ≤ 9223372036854775807) (w : World) (ht : Tab w) : Calls Tryd.prog 50 #[.int .i64 n] w fun e w' => e = .returned (.string (decB n)) ∧ Below w.heap.size w w' := by
  refine (Tryd.strconv_Itoa (n : Int) (by omega) (by omega) w ht).mono ?_
  rintro e w' ⟨rfl, k, os, rfl⟩
  rw [Lib.itoa_nonneg]
  refine ⟨rfl, rfl, rfl, rfl, ?_, fun i hi => ?_⟩
  · show w.heap.size ≤ (w.heap ++ os).size
    simp
  · show (w.heap ++ os)[i]? = w.heap[i]?
    exact Array.getElem?_append_left hi
theorem nd_pow (u k : Nat) (h : u < 10 ^ (k + 1)) : Lib.nDigits u ≤ k + 1 := by
  induction k generalizing u with
  | zero => rw [Lib.nDigits_small (by simpa using h)]; omega
  | succ k ih =>
    rw [Lib.nDigits]
    split
    · omega
    · have := ih (u / 10) (by rw [Nat.pow_succ] at h; omega)
      omega
theorem nd_le (u : Nat) (h : u ≤ 9223372036854775807) : Lib.nDigits u ≤ 20 := nd_pow u 19 (by omega)
/-- A number's name. -/
def pB (n : Nat) : ByteArray := ⟨#[80]⟩ ++ decB n
def mkV (n : Nat) : ByteArray := if 16 < (pB n).size then ⟨#[]⟩ else pB n
theorem pB_size (n : Nat) : (pB n).size = 1 + (decB n).size := by unfold pB; rw [ByteArray.size_append]; rfl
theorem make_any (n : Int) (m : Nat) (hm : max n 0 = (m : Int)) (hm63 : m ≤ 9223372036854775807) (w : World) (ht : Tab w) : Calls Tryd.prog 32 #[.int .i64 n] w fun e w' => e = .returned (.string (mkV m)) ∧ Below w.heap.size w w' := by
  have H := Lib.hid (itoa_any m hm63 w ht)
  have hps := pB_size m
  have hsum : ¬ 9223372036854775807 < 1 + (decB m).size := by
    have h1 := Lib.decDigits_length m
    have h2 := dec_len m
    have : (Lib.decDigits m).length ≤ 20 := by
      rw [h1]
      exact nd_le m hm63
    rw [decB_size]; omega
  unfold mkV pB
  unfold pB at hps
  obtain ⟨D, hD⟩ : ∃ D, decB m = D := ⟨_, rfl⟩
  rw [hD] at H hps hsum ⊢
  obtain ⟨S, hS⟩ : ∃ S, (⟨#[80]⟩ : ByteArray) ++ D = S := ⟨_, rfl⟩
  rw [hS] at hps ⊢
  have hs1 : (⟨#[80]⟩ : ByteArray).size = 1 := rfl
  by_cases h16 : 16 < S.size
  · rw [if_pos h16]
    have t1 : decide (16 < S.size) = true := decide_eq_true h16
    have t2 : decide (16 < (S.size : Int)) = true := decide_eq_true (by omega)
    clear ht hD h16 hps
    go_enter Tryd.func32, Tryd.ntmps32
    go_wp2_with (go_at_call 50; refine (H.out).mono ?_; rintro e w1 ⟨rfl, hb⟩)
    go_ret
    exact ⟨rfl, hb⟩
  · rw [if_neg h16]
    have t1 : decide (16 < S.size) = false := decide_eq_false h16
    have t2 : decide (16 < (S.size : Int)) = false := decide_eq_false (by omega)
    clear ht hD h16 hps
    go_enter Tryd.func32, Tryd.ntmps32
    go_wp2_with (go_at_call 50; refine (H.out).mono ?_; rintro e w1 ⟨rfl, hb⟩)
    go_ret
    exact ⟨rfl, hb⟩
theorem dec_range : ∀ (n : Nat), ∀ x ∈ Lib.decDigits n, 48 ≤ (x.toNat : Int) ∧ (x.toNat : Int) ≤ 57 := by
  intro n
  induction n using Nat.strongRecOn with
  | _ n ih =>
    intro x hx
    rw [Lib.decDigits] at hx
    have one : ∀ k, k < 10 → (UInt8.ofNat (48 + k)).toNat = 48 + k := by
      intro k hk
      rw [UInt8.toNat_ofNat']; omega
    split at hx
    · rename_i h
      simp only [List.mem_singleton] at hx
      subst hx
      rw [one n h]; omega
    · rename_i h
      rw [List.mem_append, List.mem_singleton] at hx
      rcases hx with hx | rfl
      · exact ih (n / 10) (by omega) x hx
      · rw [one (n % 10) (by omega)]; omega
theorem pB_list (n : Nat) : pB n = ⟨(80 :: Lib.decDigits n).toArray⟩ := by
  unfold pB decB
  apply ByteArray.ext
  rw [ByteArray.data_append]
  simp
theorem bt_list (l : List UInt8) (i : Nat) (h : i < l.length) : bt ⟨l.toArray⟩ i = (l[i].toNat : Int) := by
  unfold bt
  rw [dif_pos (show i < (⟨l.toArray⟩ : ByteArray).size by show i < l.toArray.size; simpa using h)]
  rfl
theorem pB_right (n : Nat) (h : (pB n).size ≤ 16) : rightB (pB n) = true := by
  rw [right_in ⟨by rw [pB_size]; omega, h⟩]
  rw [pB_list] at h ⊢
  have hs : (⟨(80 :: Lib.decDigits n).toArray⟩ : ByteArray).size = (Lib.decDigits n).length + 1 := by show (80 :: Lib.decDigits n).toArray.size = _; simp
  unfold allB
  rw [List.all_eq_true]
  intro i hi
  rw [List.mem_range, hs] at hi
  rw [bt_list _ i (by simpa using hi)]
  cases i with
  | zero => rfl
  | succ i =>
    have hm : (80 :: Lib.decDigits n)[i + 1] ∈ Lib.decDigits n := by rw [List.getElem_cons_succ]; exact List.getElem_mem _
    have hr := dec_range n _ hm
    obtain ⟨x, hx⟩ : ∃ x : Int, (((80 :: Lib.decDigits n)[i + 1]).toNat : Int) = x := ⟨_, rfl⟩
    rw [hx] at hr ⊢
    unfold stdB digB
    simp; omega
theorem cmp_bytes : ∀ a b : List UInt8, (Lib.compareBytes a b < 0 ↔ Op.bytesLess a b = true) ∧ (Lib.compareBytes a b = 0 ↔ a = b)
  | [], [] => by simp [Lib.compareBytes, Op.bytesLess]
  | [], _ :: _ => by simp [Lib.compareBytes, Op.bytesLess]
  | _ :: _, [] => by simp [Lib.compareBytes, Op.bytesLess]
  | a :: xs, b :: ys => by
    have ih := cmp_bytes xs ys
    rw [Lib.compareBytes, Op.bytesLess]
    by_cases h1 : a < b
    · have hne : a ≠ b := by rintro rfl; exact absurd h1 (UInt8.lt_irrefl _)
      simp [h1, hne]
    · by_cases h2 : b < a
      · have hne : a ≠ b := by rintro rfl; exact absurd h2 (UInt8.lt_irrefl _)
        simp [h1, h2, hne]
      · have he : a = b := UInt8.le_antisymm (UInt8.not_lt.1 h2) (UInt8.not_lt.1 h1)
        subst he
        simp [h1]
        exact ih
def lessB (a b : ByteArray) : Bool := decide (a.size < b.size) || ((a.size == b.size) && Op.bytesLess a.toList b.toList)
theorem cmp_lt {a b : ByteArray} (h : a.size < b.size) : cmpV a b = -1 := by
  have e : Lib.compareInt (a.size : Int) (b.size : Int) = -1 := by unfold Lib.compareInt; rw [if_pos (by omega)]
  unfold cmpV; rw [e, if_neg (by omega)]
theorem cmp_gt {a b : ByteArray} (h : b.size < a.size) : cmpV a b = 1 := by
  have e : Lib.compareInt (a.size : Int) (b.size : Int) = 1 := by unfold Lib.compareInt; rw [if_neg (by omega), if_pos (by omega)]
  unfold cmpV; rw [e, if_neg (by omega)]
theorem cmp_eq {a b : ByteArray} (h : a.size = b.size) : cmpV a b = Lib.compareBytes a.data.toList b.data.toList := by
  have e : Lib.compareInt (a.size : Int) (b.size : Int) = 0 := by unfold Lib.compareInt; rw [if_neg (by omega), if_neg (by omega)]
  unfold cmpV; rw [e, if_pos rfl]
theorem cmp_less (a b : ByteArray) : decide (cmpV a b < 0) = lessB a b := by
  have h := (cmp_bytes a.data.toList b.data.toList).1
  unfold lessB
  rw [ByteArray.toList_eq, ByteArray.toList_eq]
  rcases (show a.size < b.size ∨ b.size < a.size ∨ a.size = b.size by omega) with h1 | h1 | h1
  · rw [cmp_lt h1, decide_eq_true h1]; rfl
  · rw [cmp_gt h1, decide_eq_false (by omega : ¬ a.size < b.size), show (a.size == b.size) = false by simp; omega]; rfl
  · rw [cmp_eq h1, decide_eq_false (by omega : ¬ a.size < b.size), show (a.size == b.size) = true by simp; exact h1, Bool.false_or, Bool.true_and, Bool.eq_iff_iff, decide_eq_true_iff]
    exact h
theorem cmp_zero (a b : ByteArray) : (cmpV a b == 0) = (a.toList == b.toList) := by
  have h := (cmp_bytes a.data.toList b.data.toList).2
  rw [ByteArray.toList_eq, ByteArray.toList_eq]
  have hs : a.data.toList = b.data.toList → a.size = b.size := fun e => by show a.data.size = b.data.size; rw [← Array.length_toList, ← Array.length_toList, e]
  rw [Bool.eq_iff_iff, beq_iff_eq, beq_iff_eq]
  rcases (show a.size < b.size ∨ b.size < a.size ∨ a.size = b.size by omega) with h1 | h1 | h1
  · rw [cmp_lt h1]
    constructor
    · intro e; omega
    · intro e; have := hs e; omega
  · rw [cmp_gt h1]
    constructor
    · intro e; omega
    · intro e; have := hs e; omega
  · rw [cmp_eq h1]
    exact h
end Go.Proofs.YtbjolbgjohggiaaDoor.Nam
