/- What package crc's hash does: a new one holds no bytes; Write takes bytes in; Sum and Len tell what it holds; Sum of a text. Conditions: a text is no longer than the model lets one be. -/
import Derived.Test.YtlfhldfclleclaaCrcH
import Derived.BigRegion
namespace Go.Proofs.Ytlfhldfclleclaa.Crc
open Go.RowKit Go.PlainAid

/-- Block g is a hash. -/
def IsHash (w : World) (g r n : Nat) : Prop := w.heap[g]? = some (.cells (hashCells r n) 56 (0, 0))
def NewPost (w : World) (e : Ending) (w' : World) : Prop := ∃ g, w.heap.size ≤ g ∧ e = .returned (.pointer (some ⟨g, 0, none⟩)) ∧ IsHash w' g 4294967295 0 ∧ Below w.heap.size w w'
theorem wpList_build_known {P : Program} {ops : Array Oper} {rest : List Oper} {o : Oper} {a : Act} {w : World} {Q : Exit → Act → World → Prop} (hg : o.guard = none) (t : TypeId) (parts : Array (Nat × Operand)) (ho : o.op = .build t parts)
    (vs : List (Nat × Value)) (hv : (parts.map fun (i, x) => (i, a.eval x)).toList = vs) (cells : Array Value) (hb : P.built t vs = some cells)
    (h : wpList P ops Q rest (a.put o.dst (.agg cells)) w) : wpList P ops Q (o :: rest) a w := by
  subst hv
  exact wpList_build hg t parts ho (by rw [hb]; rfl) (by rw [hb]; exact h)
theorem new_any (w : World) : Calls Try.prog 25 #[] w (NewPost w) := by
  go_enter Try.func25, Try.ntmps25
  go_wp2_with (first
    | (go_at_call 34; refine (effects_any _).mono ?_; rintro e w1 ⟨rfl, hb⟩)
    | ((with_reducible show wpList _ _ _ _ _ _); refine wpList_build_known rfl 56 #[(0, .tmp 1), (1, .const (.int .u32 4294967295))] rfl [(0, .agg (tab 256)), (1, .int .u32 4294967295)] ?hv _ built_hash ?_))
  go_ret
  exact ⟨w1.heap.size, hb.size, rfl, heap_alloc_new _ _, hb.alloc hb.size _⟩

theorem hash_size (r n : Nat) : (hashCells r n).size = 258 := by simp [hashCells, tab_size]
theorem hash_rest (r n : Nat) : (hashCells r n)[256]? = some (.int .u32 r) := by
  unfold hashCells
  rw [Array.getElem?_append_right (by rw [tab_size]; exact Nat.le_refl _), tab_size]; rfl
theorem hash_count (r n : Nat) : (hashCells r n)[257]? = some (.int .i64 n) := by
  unfold hashCells
  rw [Array.getElem?_append_right (by rw [tab_size]; omega), tab_size]; rfl
theorem hash_tab (r n i : Nat) (h : i < 256) : (hashCells r n)[i]? = some (.int .u32 (stk 8 i)) := by
  unfold hashCells
  rw [Array.getElem?_append_left (by rw [tab_size]; exact h), tab_get 256 i h, if_pos h]

theorem not_run (r : Nat) (hr : r < 4294967296) : bits .xor .u32 (IntKind.max .u32) (r : Int) = ((4294967295 - r : Nat) : Int) := by
  have e : IntKind.max .u32 = ((4294967295 : Nat) : Int) := by decide
  rw [e, u32_xor_nat 4294967295 r (by omega) hr, not_xor hr, Nat.xor_comm]
theorem hsum_any (g r n : Nat) (w : World) (hr : r < 4294967296) (h : IsHash w g r n) :
    Calls Try.prog 27 #[.pointer (some ⟨g, 0, none⟩)] w fun e w' => e = .returned (.int .u32 ((4294967295 - r : Nat) : Int)) ∧ w = w' := by
  have hc : w.cell? ⟨g, 256, none⟩ = some (.int .u32 r) := by rw [cell_of_row w _ _ _ _ _ h, hash_rest]
  have hl : g < w.heap.size := lt_of_block h
  clear h
  go_enter Try.func27, Try.ntmps27
  go_wp2
  go_ret
  exact ⟨ret_int (not_run r hr), rfl⟩
theorem hlen_any (g r n : Nat) (w : World) (h : IsHash w g r n) :
    Calls Try.prog 28 #[.pointer (some ⟨g, 0, none⟩)] w fun e w' => e = .returned (.int .i64 n) ∧ w = w' := by
  have hc : w.cell? ⟨g, 257, none⟩ = some (.int .i64 n) := by rw [cell_of_row w _ _ _ _ _ h, hash_count]
  clear h
  go_enter Try.func28, Try.ntmps28
  go_wp2
  go_ret
  exact ⟨rfl, rfl⟩

theorem hash_set_rest (r r' n : Nat) : (hashCells r n).setIfInBounds 256 (.int .u32 r') = hashCells r' n := by
  unfold hashCells
  apply Array.ext_getElem?
  intro i
  rw [Array.getElem?_setIfInBounds]
  by_cases hi : 256 = i
  · subst hi
    rw [if_pos rfl, if_pos (by simp [tab_size]), Array.getElem?_append_right (by rw [tab_size]; exact Nat.le_refl _), tab_size]; rfl
  · rw [if_neg hi]
    rcases Nat.lt_or_ge i 256 with h | h
    · rw [Array.getElem?_append_left (by rw [tab_size]; exact h), Array.getElem?_append_left (by rw [tab_size]; exact h)]
    · rw [Array.getElem?_append_right (by rw [tab_size]; exact h), Array.getElem?_append_right (by rw [tab_size]; exact h), tab_size]
      obtain ⟨d, hd⟩ : ∃ d, i - 256 = d + 1 := ⟨i - 257, by omega⟩
      rw [hd]; rfl
theorem hash_set_count (r n n' : Nat) : (hashCells r n).setIfInBounds 257 (.int .i64 n') = hashCells r n' := by
  unfold hashCells
  apply Array.ext_getElem?
  intro i
  rw [Array.getElem?_setIfInBounds]
  by_cases hi : 257 = i
  · subst hi
    rw [if_pos rfl, if_pos (by simp [tab_size]), Array.getElem?_append_right (by rw [tab_size]; omega), tab_size]; rfl
  · rw [if_neg hi]
    rcases Nat.lt_or_ge i 256 with h | h
    · rw [Array.getElem?_append_left (by rw [tab_size]; exact h), Array.getElem?_append_left (by rw [tab_size]; exact h)]
    · rw [Array.getElem?_append_right (by rw [tab_size]; exact h), Array.getElem?_append_right (by rw [tab_size]; exact h), tab_size]
      rcases Nat.eq_or_lt_of_le h with h2 | h2
      · subst h2; rfl
      · obtain ⟨d, hd⟩ : ∃ d, i - 256 = d + 2 := ⟨i - 258, by omega⟩
        rw [hd]; rfl
/-- The bytes of a text, the first k of them. -/
def bys (s : ByteArray) (k : Nat) : List UInt8 := s.data.toList.take k
theorem bys_succ (s : ByteArray) (k : Nat) (h : k < s.size) : bys s (k + 1) = bys s k ++ [s[k]] := by
  unfold bys
  rw [List.take_succ_eq_append_getElem (by simpa using h)]; rfl
theorem bys_all (s : ByteArray) : bys s s.size = s.data.toList := by
  unfold bys; exact List.take_of_length_le (by simp)
theorem bt_nat (s : ByteArray) (k : Nat) (h : k < s.size) : bt s k = ((s[k].toNat : Nat) : Int) := (get_bt s k h).symm

def WRel (g n : Nat) (r : Nat) (s : ByteArray) (w : World) (i : Value) (wr : World) : Prop :=
  ∃ k : Nat, k ≤ s.size ∧ i = .int .i64 k ∧ IsHash wr g (rest r (bys s k)) n ∧ Below g w wr
def WPost (g r n : Nat) (s : ByteArray) (w : World) (e : Ending) (w' : World) : Prop :=
  e = .returned (.tuple #[]) ∧ IsHash w' g (rest r s.data.toList) (n + s.size) ∧ Below g w w'

set_option maxHeartbeats 1600000 in
theorem write_any (g r n : Nat) (s : ByteArray) (w : World) (hr : r < 4294967296) (hn : n ≤ 4611686018427387904) (hs2 : s.size ≤ 4611686018427387903) (h : IsHash w g r n) :
    Calls Try.prog 26 #[.pointer (some ⟨g, 0, none⟩), .string s] w (WPost g r n s w) := by
  have HR := Lib.hid hr
  have HN := Lib.hid hn
  have H0 := Lib.hid h
  clear hr hn h
  go_enter Try.func26, Try.ntmps26
  go_wp2
  go_loopw [7] (fun i wr => WRel g n r s w i wr) (fun i _ => s.size - (intOf i).toNat)
  case atStart => exact ⟨0, Nat.zero_le _, rfl, H0.out, Below.refl _ _⟩
  case round =>
    obtain ⟨k, hk, rfl, hh, hbel⟩ := hrel
    have HH := Lib.hid hh
    clear hh
    have hgt : g < wr.heap.size := lt_of_block HH.out
    by_cases hlt : k < s.size
    · have hb := get_bt s
      obtain ⟨c, hcc⟩ : ∃ c : Nat, c = s[k].toNat := ⟨_, rfl⟩
      have hcb : bt s k = (c : Int) := by rw [hcc]; exact bt_nat s k hlt
      have hc256 : c < 256 := by rw [hcc]; exact s[k].toNat_lt
      obtain ⟨R, hR⟩ : ∃ R, R = rest r (bys s k) := ⟨_, rfl⟩
      have hRl : R < 4294967296 := by rw [hR]; exact rest_lt HR.out _
      have hj0 := u8_xor_nat (R % 256) c (by omega) hc256
      obtain ⟨j, hj⟩ : ∃ j, j = (R % 256) ^^^ c := ⟨_, rfl⟩
      have hj256 : j < 256 := by rw [hj]; exact Nat.xor_lt_two_pow (n := 8) (by omega) hc256
      obtain ⟨E, hE⟩ : ∃ E, E = stk 8 j := ⟨_, rfl⟩
      have hEl : E < 4294967296 := by rw [hE]; exact stk_lt 8 (by omega)
      have hx0 := u32_xor_nat (R / 256) E (by omega) hEl
      obtain ⟨X, hX⟩ : ∃ X, X = R / 256 ^^^ E := ⟨_, rfl⟩
      have HNext : Hid (rest r (bys s (k + 1)) = X) := by
        show _ = _
        rw [bys_succ s k hlt, rest_snoc, ← hR, ← hcc, byte_step, hX, hE, hj]
      have hc1 : wr.cell? ⟨g, 256, none⟩ = some (.int .u32 R) := by rw [cell_of_row wr _ _ _ _ _ HH.out, hash_rest, hR]
      have hc2 : wr.cell? ⟨g, j, none⟩ = some (.int .u32 E) := by rw [cell_of_row wr _ _ _ _ _ HH.out, hash_tab _ _ _ hj256, hE]
      have hf : wr.frozen? ⟨g, 256, none⟩ = false := frozen_of_row wr _ _ _ _ HH.out
      have HSET : Hid (IsHash (wr.setCell ⟨g, 256, none⟩ (.int .u32 X)) g X n) := by
        show _ = _
        rw [heap_setCell_same wr _ _ _ _ _ HH.out, hash_set_rest]
      rw [← hj] at hj0
      rw [← hX] at hx0
      have hj1 : bits .xor .u8 ((R : Int) % 256) (c : Int) = (j : Int) := by rw [← hj0]; rfl
      have hx1 : bits .xor .u32 ((R : Int) / 256) (E : Int) = (X : Int) := by rw [← hx0]; rfl
      have hjlt : (j : Int) < 256 := by omega
      have hrb : (R : Int) ≤ 4294967295 := by omega
      clear hcc hc256 hR hRl hj0 hj hj256 hE hEl hx0 hX HH
      go_wp2
      go_region
      go_wp2
      go_roundw
      case rel => exact ⟨k + 1, by omega, by go_num, by rw [HNext.out]; exact HSET.out, (hbel.setCell (Nat.le_refl g) _).drew⟩
      case measure => simp [intOf]; omega
    · obtain rfl : k = s.size := by omega
      obtain ⟨R, hR⟩ : ∃ R, R = rest r (bys s s.size) := ⟨_, rfl⟩
      have HRR : Hid (rest r s.data.toList = R) := by show _ = _; rw [hR, bys_all]
      have hc1 : wr.cell? ⟨g, 257, none⟩ = some (.int .i64 n) := by rw [cell_of_row wr _ _ _ _ _ HH.out, hash_count]
      have hf : wr.frozen? ⟨g, 257, none⟩ = false := frozen_of_row wr _ _ _ _ HH.out
      have HSET : Hid (IsHash (wr.setCell ⟨g, 257, none⟩ (.int .i64 ((n + s.size : Nat) : Int))) g R (n + s.size)) := by
        show _ = _
        rw [heap_setCell_same wr _ _ _ _ _ HH.out, hash_set_count, hR]
      have hnb : (n : Int) ≤ 4611686018427387904 := by have := HN.out; omega
      have ecast : ((n + s.size : Nat) : Int) = (n : Int) + (s.size : Int) := by omega
      rw [ecast] at HSET
      clear hR HH ecast
      go_wp2
      go_end0
      exact ⟨rfl, by rw [HRR.out]; exact HSET.out, hbel.setCell (Nat.le_refl g) _⟩
end Go.Proofs.Ytlfhldfclleclaa.Crc
