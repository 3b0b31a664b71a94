/- What the document's sum of a text returns, and what package crc's hash holds: the table of what each byte does, what rests, how many bytes there were. Conditions: a text is no longer than the model lets one be. -/
import Derived.Test.YtlfhldfclleclaaCrcA
import Derived.Laws.Tables
import Derived.Laws.Rows
import Derived.Laws.ResultCell
namespace Go.Proofs.Ytlfhldfclleclaa.Crc
open Go.RowKit Go.PlainAid

/-- The table, its first k numbers laid. -/
def tab (k : Nat) : Array Value := ((List.range 256).map fun i => if i < k then Value.int .u32 (stk 8 i) else Value.int .u32 0).toArray
theorem tab_size (k : Nat) : (tab k).size = 256 := by simp [tab]
theorem tab_get (k i : Nat) (h : i < 256) : (tab k)[i]? = some (if i < k then Value.int .u32 (stk 8 i) else Value.int .u32 0) := by
  simp [tab, h]
theorem tab_set (k : Nat) (_h : k < 256) : (tab k).setIfInBounds k (Value.int .u32 (stk 8 k)) = tab (k + 1) := by
  apply Array.ext_getElem?
  intro i
  rw [Array.getElem?_setIfInBounds, tab_size]
  by_cases hi : i < 256
  · rw [tab_get _ _ hi, tab_get _ _ hi]
    by_cases hk : k = i
    · subst hk; simp [_h]
    · rw [if_neg hk]
      by_cases h2 : i < k
      · rw [if_pos h2, if_pos (by omega)]
      · rw [if_neg h2, if_neg (by omega)]
  · rw [if_neg (by omega), Array.getElem?_eq_none (by rw [tab_size]; omega), Array.getElem?_eq_none (by rw [tab_size]; omega)]
theorem tab_one (k : Nat) : (tab k).all (·.oneCell') = true := by
  rw [Array.all_eq_true_iff_forall_mem]
  intro v hv
  simp only [tab, List.mem_toArray, List.mem_map] at hv
  obtain ⟨i, _, rfl⟩ := hv
  split <;> rfl
theorem zero_tab : ∀ w, (zeroValue 53).run Try.prog w = .ok (.agg (tab 0)) w := fun w => by kernel_rfl
theorem size_tab : (Try.prog.info? 53).map (·.size) = some 256 := by kernel_rfl

/-- What holds at each round's head. -/
def EffRel (w : World) (i : Value) (wr : World) : Prop := ∃ k : Nat, k ≤ 256 ∧ i = .int .i64 k ∧ wr.heap[w.heap.size]? = some (.cells (tab 0) 53 (0, 0)) ∧ wr.heap[w.heap.size + 1]? = some (.cells (tab k) 53 (0, 0)) ∧ Below w.heap.size w wr
/-- What the call hands back. -/
def EffPost (w : World) (e : Ending) (w' : World) : Prop := e = .returned (.agg (tab 256)) ∧ Below w.heap.size w w'

set_option maxHeartbeats 800000 in
theorem effects_any (w : World) : Calls Try.prog 34 #[] w (EffPost w) := by
  have hz := zero_tab
  go_enter Try.func34, Try.ntmps34
  go_wp2_with fail
  go_loopw [4] (fun i wr => EffRel w i wr)
    (fun i _ => (256 - intOf i).toNat)
  case atStart => exact ⟨0, by omega, rfl, heap_alloc2_old _ _ _, heap_alloc2_new _ _ _, ((Below.refl _ _).alloc (Nat.le_refl _) _).alloc (by simp) _⟩
  case round =>
    obtain ⟨k, hk, rfl, hb0, hb1, hbel⟩ := hrel
    have HB0 := Lib.hid hb0
    have HB1 := Lib.hid hb1
    clear hz hb0 hb1
    have HK := Lib.hid hk
    clear hk
    have hkb : k ≤ 4294967290 := by have := HK.out; omega
    rcases Int.lt_or_le (k : Int) 256 with hlt | hge
    · have tk : decide ((k : Int) < 256) = true := decide_eq_true hlt
      have HLT := Lib.hid hlt
      clear hlt
      go_wp2_with fail
      have HKB := Lib.hid hkb
      clear hkb
      go_loop [3, 9] (fun v j => ∃ m : Nat, m ≤ 8 ∧ j = .int .i64 m ∧ v = .int .u32 (stk m k)) (fun _ j => (8 - intOf j).toNat)
      case atStart => exact ⟨0, by omega, rfl, rfl⟩
      case round =>
        obtain ⟨m, hm, rfl, rfl⟩ := hrel
        obtain ⟨X, hX⟩ : ∃ X, X = stk m k := ⟨_, rfl⟩
        have hXl : X < 4294967296 := by rw [hX]; exact stk_lt m (by have := HK.out; omega)
        have HS : Hid (stk (m + 1) k = st X) := by show _ = _; rw [hX]; rfl
        rw [← hX]
        have HX := Lib.hid hX
        have HXL := Lib.hid hXl
        clear hX hXl
        by_cases hm8 : m < 8
        · have t8 : decide ((m : Int) < 8) = true := decide_eq_true (by omega)
          have HM8 := Lib.hid hm8
          have HM := Lib.hid hm
          have hmb : m ≤ 9223372036854775806 := by omega
          clear hm hm8
          go_wp2_with (go_at_call 37; refine (shifted_any X HXL.out _).mono ?_; rintro e w' ⟨rfl, rfl⟩)
          go_round
          case rel => exact ⟨m + 1, by have := HM8.out; omega, by go_num, by rw [HS.out]⟩
          case measure => have := HM8.out; simp [intOf]; omega
        · obtain rfl : m = 8 := by omega
          clear hm hm8
          have hc : wr.cell? ⟨w.heap.size + 1, k, none⟩ = some (.int .u32 0) := by
            rw [cell_of_row wr _ _ _ _ _ HB1.out, tab_get _ _ (by have := HLT.out; omega), if_neg (by omega)]
          have hf : wr.frozen? ⟨w.heap.size + 1, k, none⟩ = false := frozen_of_row wr _ _ _ _ HB1.out
          have hlen : Hid ((wr.setCell ⟨w.heap.size + 1, k, none⟩ (.int .u32 X)).heap[w.heap.size + 1]? = some (.cells (tab (k + 1)) 53 (0, 0))) := by
            show _ = _
            rw [heap_setCell_same wr _ _ _ _ _ HB1.out, HX.out, tab_set k (by have := HLT.out; omega)]
          have hlen0 : Hid ((wr.setCell ⟨w.heap.size + 1, k, none⟩ (.int .u32 X)).heap[w.heap.size]? = some (.cells (tab 0) 53 (0, 0))) := by
            show _ = _
            rw [heap_setCell_other wr _ _ _ (by simp)]; exact HB0.out
          have hkb := HKB.out
          have hlt := HLT.out
          clear tk
          go_wp2
          go_roundw
          case rel => exact ⟨k + 1, by have := HLT.out; omega, by go_num, hlen0.out, hlen.out, hbel.setCell (by simp) _⟩
          case measure => have := HLT.out; simp [intOf]; omega
    · have hk256 : Hid (k = 256) := by show _ = _; have := HK.out; omega
      have tk : decide ((k : Int) < 256) = false := decide_eq_false (by omega)
      clear hge
      go_wp2_with (first
        | ((with_reducible show wpList _ _ _ _ _ _); refine wpList_load_row rfl 53 (.tmp 1) rfl (w.heap.size + 1) rfl 53 _ (0, 0) _ HB1.out Try.underlying53 rfl (by rw [size_tab, tab_size]) ?_)
        | ((with_reducible show wpList _ _ _ _ _ _); refine wpList_store_row rfl 53 (.tmp 0) (.tmp 18) rfl w.heap.size (tab k) rfl rfl 53 (tab 0) HB0.out (by rw [size_tab, tab_size]) (by rw [tab_size, tab_size]) (tab_one k) ?_))
      refine bodyPost_ret (v := .agg (tab k)) (results_cell_row (by rfl) _ _ w.heap.size 53 (tab k) (0, 0) _ rfl (setRow_heap _ _ _ _ _ _ HB0.out) Try.underlying53 rfl (by rw [size_tab, tab_size])) rfl ⟨by rw [hk256.out], ?_⟩
      exact hbel.trans ⟨rfl, rfl, rfl, by simp, fun b hb => setRow_other _ _ _ _ (by omega)⟩
end Go.Proofs.Ytlfhldfclleclaa.Crc
