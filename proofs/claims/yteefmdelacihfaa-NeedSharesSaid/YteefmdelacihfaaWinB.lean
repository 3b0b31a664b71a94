
/- Windows: how many ticks are a partition's. Condition: at most 400 windows of plain numbers, a frame of 1 to 1,048,576. -/

import Derived.Test.YteefmdelacihfaaWinN

import Derived.OwnWalk

namespace Go.Proofs.Yteefmdelacihfaa.Win

open Go.RowKit Go.PlainAid Go.Proofs.Yteefmdelacihfaa.Oct Go.Proofs.Yteefmdelacihfaa.Flt Go.Proofs.Yteefmdelacihfaa.Rdr Go.Proofs.Yteefmdelacihfaa.Args

open Go.Proofs.Yteefmdelacihfaa.Act (A3 actL flatA flatA_snoc flatA_get flatA_len ActsAt I64 Wide row_beside row_base)

set_option linter.unusedVariables false

set_option linter.unusedSimpArgs false

/-- The lengths of what is a partition's, together. -/
def tickS (z : Int) : List A3 → Int
  | [] => 0
  | x :: l => (if x.s = z then x.a else 0) + tickS z l
theorem tickS_snoc (z : Int) (x : A3) : ∀ l : List A3, tickS z (l ++ [x]) = tickS z l + (if x.s = z then x.a else 0)
  | [] => by simp [tickS]
  | y :: l => by simp only [List.cons_append, tickS, tickS_snoc z x l]; omega
theorem tickS_in (z : Int) {cs : List Int} {fr : Int} {l : List A3} {m : Nat} (h : Cuts cs fr) (hm : cs.length = m + 1) : ∀ k, k ≤ m → 0 ≤ tickS z ((rowsL fr l cs m).take k) ∧ tickS z ((rowsL fr l cs m).take k) ≤ cut cs k
  | 0, _ => by
    have := (cut_in h hm (Nat.zero_le m)).1
    simp [tickS]; exact this
  | k + 1, hk => by
    have ih := tickS_in z (l := l) h hm k (by omega)
    rw [rowsL_take fr l cs (by omega), tickS_snoc]
    have h1 : cut cs k < cut cs (k + 1) := by
      unfold cut
      rw [List.getElem?_eq_getElem (by omega), List.getElem?_eq_getElem (by omega)]
      exact rising_lt h.1 (Nat.lt_succ_self k) (by omega)
    dsimp only
    split <;> omega
theorem ticks1_any (v z : Int) (g : Nat) (w : World) (hz : w.cell? ⟨g, 0, none⟩ = some (.int .i64 z)) :
    Calls Try.prog 33 #[.int .i64 v, .pointer (some ⟨g, 0, none⟩)] w fun e w' => e = .returned (.bool (v == z)) ∧ w = w' := by
  go_enter Try.func33, Try.ntmps33
  go_wp2
  go_ret
  exact ⟨by simp, rfl⟩
def CtRel2 (z : Int) (m : Nat) (L : List A3) (w2 : World) (i v : Value) (wr : World) : Prop :=
  ∃ k : Nat, k ≤ m ∧ i = .int .i64 (k : Int) ∧ v = .int .i64 (tickS z (L.take k)) ∧ Below w2.heap.size w2 wr
set_option maxRecDepth 8000 in
set_option maxHeartbeats 6400000 in
theorem count2_any (z : Int) (g : Nat) (id : Int) (fr : Nat) (P : Option Addr) (pc : Nat) (l : List A3) (C : Option Addr) (nn cc : Nat) (w : World) (hz : w.cell? ⟨g, 0, none⟩ = some (.int .i64 z)) (h1 : ActsAt w P l) (hnum : ∀ x ∈ l, Num x) (hf : 1 ≤ fr ∧ fr ≤ 1048576) (hl : l.length ≤ 400) (m : Nat) (hm : (cutsOf fr l).length = m + 1) :
    Calls Try.prog 32 #[.agg #[.int .i64 id, .int .i64 (fr : Int), .slice P l.length pc, .slice C nn cc], .func (.func 33) #[] #[.pointer (some ⟨g, 0, none⟩)]] w fun e w' => e = .returned (.int .i64 (tickS z (rowsL fr l (cutsOf fr l) m))) ∧ Below w.heap.size w w' := by
  have hb0 : Below w.heap.size w (w.alloc (.cells #[.int .i64 id, .int .i64 (fr : Int), .slice P l.length pc, .slice C nn cc] 25)) := (Below.refl _ _).alloc (Nat.le_refl _) _
  have HR := Lib.hid (rows_any id fr P pc l C nn cc (w.alloc (.cells #[.int .i64 id, .int .i64 (fr : Int), .slice P l.length pc, .slice C nn cc] 25)) (h1.kept hb0) hnum hf hl m hm)
  have HIN : Hid (∀ k, k ≤ m → 0 ≤ tickS z ((rowsL fr l (cutsOf fr l) m).take k) ∧ tickS z ((rowsL fr l (cutsOf fr l) m).take k) ≤ 1048576) := fun k hk => by
    have hc := cutsOf_cuts (fr : Int) l (by omega) hnum
    have := tickS_in z (l := l) hc hm k hk
    have := (cut_in hc hm hk).2
    omega
  have HMM : Hid (m ≤ 1000) := by have := cutsOf_le (fr : Int) l; show _ ≤ _; omega
  obtain ⟨L, hL⟩ : ∃ L, rowsL fr l (cutsOf fr l) m = L := ⟨_, rfl⟩
  have HLL : Hid (L.length = m) := by show _ = _; rw [← hL, rowsL_len]
  rw [hL] at HR HIN
  rw [hL]
  obtain ⟨a, ha⟩ : ∃ a, l.length = a := ⟨_, rfl⟩
  rw [ha] at HR hb0
  rw [ha]
  have HB0 := Lib.hid hb0
  have HZB : Hid (∀ W, Below w.heap.size w W → W.cell? ⟨g, 0, none⟩ = some (.int .i64 z)) := fun W b => (b.cell (p := ⟨g, 0, none⟩) (Go.block_lt_of_cell hz)).trans hz
  clear hz h1 hnum hf hl hm hL ha hb0
  go_enter Try.func32, Try.ntmps32
  go_wp2_with fail
  refine HR.out.mono ?_
  rintro e w2 ⟨V, rfl, ho2, hb2⟩
  obtain ⟨VA, VC, rfl⟩ := row_slice3 ho2
  have HAT := Lib.hid (own_winsL ho2 HLL.out.symm)
  have HB2 := Lib.hid (HB0.out.trans (hb2.mono HB0.out.size))
  clear ho2 hb2 HR HB0
  go_wp2_with fail
  go_loopw [11, 5] (fun i v wr => CtRel2 z m L w2 i v wr) (fun i _ _ => m - (intOf i).toNat)
  case atStart => exact ⟨0, Nat.zero_le _, rfl, by simp [tickS], Below.refl _ _⟩
  case round =>
    obtain ⟨k, hk, rfl, rfl, hb⟩ := hrel
    have HB := Lib.hid hb
    clear hb
    by_cases hlt : k < m
    · obtain ⟨x, hx⟩ : ∃ x, L[k]? = some x := ⟨_, List.getElem?_eq_getElem (by rw [HLL.out]; exact hlt)⟩
      obtain ⟨ax, rfl, c1, c2, c3⟩ := (HAT.out.kept HB.out) k x hx
      have htk : L.take (k + 1) = L.take k ++ [x] := by rw [List.take_add_one, hx]; rfl
      have hbs : tickS z (L.take (k + 1)) = tickS z (L.take k) + (if x.s = z then x.a else 0) := by rw [htk, tickS_snoc]
      have hin := HIN.out (k + 1) (by omega)
      rw [hbs] at hin
      have HBS := Lib.hid hbs
      obtain ⟨t0, ht0⟩ : ∃ t, tickS z (L.take k) = t := ⟨_, rfl⟩
      rw [ht0] at HBS hin
      rw [ht0]
      have hb5 : Below wr.heap.size wr (wr.alloc (.cells (winC x) 47)) := (Below.refl _ _).alloc (Nat.le_refl _) _
      have HB5 := Lib.hid (HB.out.trans (hb5.mono HB.out.size))
      have HB5B := Lib.hid (HB2.out.trans (HB5.out.mono HB2.out.size))
      obtain ⟨s1, p1, a1⟩ := x
      unfold winC at HB5 HB5B
      dsimp only at c1 c2 c3 HB5 HB5B hin HBS
      have hki : (0 : Int) ≤ k := by omega
      have hkb : (k : Int) < m := by omega
      have hmm := HMM.out
      clear hx htk hbs ht0 hb5
      go_wp2_with fail
      refine (ticks1_any s1 z g _ (HZB.out _ HB5B.out)).mono ?_
      rintro e w6 ⟨rfl, rfl⟩
      by_cases hs : s1 = z
      · have hno : (s1 == z) = true := by simp [hs]
        rw [if_pos hs] at hin HBS
        rw [hno]
        clear hs hno
        have hwp : IntKind.i64.wrap (t0 + a1) = t0 + a1 := IntWalk.i64_in _ (by omega)
        go_wp2
        go_roundw
        case rel => exact ⟨k + 1, by omega, by go_num, by rw [HBS.out], HB5.out⟩
        case measure => simp [intOf]; omega
      · have hno : (s1 == z) = false := by simp [hs]
        rw [if_neg hs] at hin HBS
        rw [hno]
        clear hs hno
        go_wp2
        go_roundw
        case rel => exact ⟨k + 1, by omega, by go_num, by rw [HBS.out]; simp, HB5.out⟩
        case measure => simp [intOf]; omega
    · obtain rfl : k = m := by omega
      rw [List.take_of_length_le (by rw [HLL.out]; exact Nat.le_refl _)]
      have HBF := Lib.hid (HB2.out.trans (HB.out.mono HB2.out.size))
      clear HB
      go_wp2
      go_ret
      exact ⟨rfl, HBF.out⟩
set_option maxRecDepth 4000 in
set_option maxHeartbeats 1600000 in
theorem ticks_any (z : Int) (id : Int) (fr : Nat) (P : Option Addr) (pc : Nat) (l : List A3) (C : Option Addr) (nn cc : Nat) (w : World) (h1 : ActsAt w P l) (hnum : ∀ x ∈ l, Num x) (hf : 1 ≤ fr ∧ fr ≤ 1048576) (hl : l.length ≤ 400) (m : Nat) (hm : (cutsOf fr l).length = m + 1) :
    Calls Try.prog 26 #[.agg #[.int .i64 id, .int .i64 (fr : Int), .slice P l.length pc, .slice C nn cc], .int .i64 z] w fun e w' => e = .returned (.int .i64 (tickS z (rowsL fr l (cutsOf fr l) m))) ∧ Below w.heap.size w w' := by
  have hb0 := two_below w (.cells #[.int .i64 id, .int .i64 (fr : Int), .slice P l.length pc, .slice C nn cc] 25) (.cells #[.int .i64 z] 3)
  have hcz := heap_alloc_new (w.alloc (.cells #[.int .i64 id, .int .i64 (fr : Int), .slice P l.length pc, .slice C nn cc] 25)) (.cells #[.int .i64 z] 3)
  rw [World.size_alloc] at hcz
  have HR := Lib.hid (count2_any z (w.heap.size + 1) id fr P pc l C nn cc _ (by rw [cell_of_row _ _ _ _ _ _ hcz]; rfl) (h1.kept hb0) hnum hf hl m hm)
  have hbx := (heap_alloc_old (w.alloc (.cells #[.int .i64 id, .int .i64 (fr : Int), .slice P l.length pc, .slice C nn cc] 25)) (.cells #[.int .i64 z] 3) (r := w.heap.size) (by simp)).trans (heap_alloc_new w (.cells #[.int .i64 id, .int .i64 (fr : Int), .slice P l.length pc, .slice C nn cc] 25))
  have HB0 := Lib.hid hb0
  obtain ⟨r, hr⟩ : ∃ r, tickS z (rowsL fr l (cutsOf fr l) m) = r := ⟨_, rfl⟩
  rw [hr] at HR
  rw [hr]
  obtain ⟨a, ha⟩ : ∃ a, l.length = a := ⟨_, rfl⟩
  rw [ha] at HR HB0 hbx
  rw [ha]
  have y0 := cell_of_row _ _ 0 _ _ _ hbx
  have y1 := cell_of_row _ _ 1 _ _ _ hbx
  have y2 := cell_of_row _ _ 2 _ _ _ hbx
  have y3 := cell_of_row _ _ 3 _ _ _ hbx
  simp only [List.getElem?_toArray, List.getElem?_cons_zero, List.getElem?_cons_succ] at y0 y1 y2 y3
  clear h1 hnum hf hl hm hr ha hb0 hcz hbx
  go_enter Try.func26, Try.ntmps26
  go_wp2_with fail
  refine HR.out.mono ?_
  rintro e w2 ⟨rfl, hb2⟩
  have HB2 := Lib.hid (HB0.out.trans (hb2.mono HB0.out.size))
  clear hb2 HR HB0
  go_wp2
  go_ret
  exact ⟨rfl, HB2.out⟩
end Go.Proofs.Yteefmdelacihfaa.Win
