
/- Windows: how many ticks are somebody's. Condition: at most 400 windows of plain numbers, a frame of 1 to 1,048,576. -/

import Derived.Test.YteefmdelacihfaaDoorWinL

import Derived.OwnWalk

namespace Go.Proofs.YteefmdelacihfaaDoor.Win

open Go.RowKit Go.PlainAid Go.Proofs.YteefmdelacihfaaDoor.Oct Go.Proofs.YteefmdelacihfaaDoor.Flt Go.Proofs.YteefmdelacihfaaDoor.Rdr Go.Proofs.YteefmdelacihfaaDoor.Args

open Go.Proofs.YteefmdelacihfaaDoor.Act (A3 actL flatA flatA_snoc flatA_get flatA_len ActsAt I64 Wide row_beside row_base)

set_option linter.unusedVariables false

set_option linter.unusedSimpArgs false

def nobody (v : Int) : Bool := v == -1
/-- The lengths of what is somebody's, together. -/
def busyS : List A3 → Int
  | [] => 0
  | x :: l => (if x.s = -1 then 0 else x.a) + busyS l
theorem busy_snoc (x : A3) : ∀ l : List A3, busyS (l ++ [x]) = busyS l + (if x.s = -1 then 0 else x.a)
  | [] => by simp [busyS]
  | y :: l => by simp only [List.cons_append, busyS, busy_snoc x l]; omega
theorem busy_in {cs : List Int} {fr : Int} {l : List A3} {m : Nat} (h : Cuts cs fr) (hm : cs.length = m + 1) : ∀ k, k ≤ m → 0 ≤ busyS ((rowsL fr l cs m).take k) ∧ busyS ((rowsL fr l cs m).take k) ≤ cut cs k
  | 0, _ => by
    have := (cut_in h hm (Nat.zero_le m)).1
    simp [busyS]; exact this
  | k + 1, hk => by
    have ih := busy_in (l := l) h hm k (by omega)
    rw [rowsL_take fr l cs (by omega), busy_snoc]
    have h1 : cut cs k < cut cs (k + 1) := by
      unfold cut
      rw [List.getElem?_eq_getElem (by omega), List.getElem?_eq_getElem (by omega)]
      exact rising_lt h.1 (Nat.lt_succ_self k) (by omega)
    dsimp only
    split <;> omega
theorem busy1_any (v : Int) (w : World) :
    Calls Tryd.prog 29 #[.int .i64 v] w fun e w' => e = .returned (.bool (!nobody v)) ∧ w = w' := by
  unfold nobody
  go_enter Tryd.func29, Tryd.ntmps29
  go_wp2
  go_ret
  exact ⟨by simp [bne], rfl⟩
def CtRel (m : Nat) (L : List A3) (w2 : World) (i v : Value) (wr : World) : Prop :=
  ∃ k : Nat, k ≤ m ∧ i = .int .i64 (k : Int) ∧ v = .int .i64 (busyS (L.take k)) ∧ Below w2.heap.size w2 wr
theorem own_winsL {w : World} {B n : Nat} {A : Option Addr} {c : Nat} {l : List A3} (h : w.ownsRow B 50 3 (.slice A n c) n (flatA l)) (hn : n = l.length) : ActsAt w A l := by
  subst hn
  intro i x hx
  have hi : i < l.length := (List.getElem?_eq_some_iff.1 hx).1
  rcases h.2 with ⟨e, h0⟩ | ⟨G, c', cur, e, h2, h3, h4⟩
  · omega
  · cases e
    have e : (Addr.mk G 0 none).add (i * 3) = ⟨G, i * 3, none⟩ := by
      rcases Nat.eq_zero_or_pos (i * 3) with h0 | h0
      · rw [h0]; simp [Addr.add]
      · simp [Addr.add]; omega
    refine ⟨_, rfl, ?_, ?_, ?_⟩
    · have := h.cellAt (i * 3 + 0) (by omega)
      rw [flatA_get l i x 0 hx (by omega)] at this
      rw [e]; exact this
    · have := h.cellAt (i * 3 + 1) (by omega)
      rw [flatA_get l i x 1 hx (by omega)] at this
      rw [e]; exact this
    · have := h.cellAt (i * 3 + 2) (by omega)
      rw [flatA_get l i x 2 hx (by omega)] at this
      rw [e]; exact this
set_option maxRecDepth 8000 in
set_option maxHeartbeats 6400000 in
theorem count_any (id : Int) (fr : Nat) (P : Option Addr) (pc : Nat) (l : List A3) (C : Option Addr) (nn cc : Nat) (w : World) (h1 : ActsAt w P l) (hnum : ∀ x ∈ l, Num x) (hf : 1 ≤ fr ∧ fr ≤ 1048576) (hl : l.length ≤ 400) (m : Nat) (hm : (cutsOf fr l).length = m + 1) :
    Calls Tryd.prog 27 #[.agg #[.int .i64 id, .int .i64 (fr : Int), .slice P l.length pc, .slice C nn cc], .func (.func 29) #[] #[]] w fun e w' => e = .returned (.int .i64 (busyS (rowsL fr l (cutsOf fr l) m))) ∧ Below w.heap.size w w' := by
  have hb0 : Below w.heap.size w (w.alloc (.cells #[.int .i64 id, .int .i64 (fr : Int), .slice P l.length pc, .slice C nn cc] 25)) := (Below.refl _ _).alloc (Nat.le_refl _) _
  have HR := Lib.hid (rows_any id fr P pc l C nn cc (w.alloc (.cells #[.int .i64 id, .int .i64 (fr : Int), .slice P l.length pc, .slice C nn cc] 25)) (h1.kept hb0) hnum hf hl m hm)
  have HIN : Hid (∀ k, k ≤ m → 0 ≤ busyS ((rowsL fr l (cutsOf fr l) m).take k) ∧ busyS ((rowsL fr l (cutsOf fr l) m).take k) ≤ 1048576) := fun k hk => by
    have hc := cutsOf_cuts (fr : Int) l (by omega) hnum
    have := busy_in (l := l) hc hm k hk
    have := (cut_in hc hm hk).2
    omega
  have HMM : Hid (m ≤ 1000) := by have := cutsOf_le (fr : Int) l; show _ ≤ _; omega
  obtain ⟨L, hL⟩ : ∃ L, rowsL fr l (cutsOf fr l) m = L := ⟨_, rfl⟩
  have HLL : Hid (L.length = m) := by show _ = _; rw [← hL, rowsL_len]
  rw [hL] at HR HIN
  rw [hL]
  obtain ⟨a, ha⟩ : ∃ a, l.length = a := ⟨_, rfl⟩
  rw [ha] at HR hb0
  rw [ha]
  have HB0 := Lib.hid hb0
  clear h1 hnum hf hl hm hL ha hb0
  go_enter Tryd.func27, Tryd.ntmps27
  go_wp2_with fail
  refine HR.out.mono ?_
  rintro e w2 ⟨V, rfl, ho2, hb2⟩
  obtain ⟨VA, VC, rfl⟩ := row_slice3 ho2
  have HAT := Lib.hid (own_winsL ho2 HLL.out.symm)
  have HB2 := Lib.hid (HB0.out.trans (hb2.mono HB0.out.size))
  clear ho2 hb2 HR HB0
  go_wp2_with fail
  go_loopw [11, 5] (fun i v wr => CtRel m L w2 i v wr) (fun i _ _ => m - (intOf i).toNat)
  case atStart => exact ⟨0, Nat.zero_le _, rfl, by simp [busyS], Below.refl _ _⟩
  case round =>
    obtain ⟨k, hk, rfl, rfl, hb⟩ := hrel
    have HB := Lib.hid hb
    clear hb
    by_cases hlt : k < m
    · obtain ⟨x, hx⟩ : ∃ x, L[k]? = some x := ⟨_, List.getElem?_eq_getElem (by rw [HLL.out]; exact hlt)⟩
      obtain ⟨ax, rfl, c1, c2, c3⟩ := (HAT.out.kept HB.out) k x hx
      have htk : L.take (k + 1) = L.take k ++ [x] := by rw [List.take_add_one, hx]; rfl
      have hbs : busyS (L.take (k + 1)) = busyS (L.take k) + (if x.s = -1 then 0 else x.a) := by rw [htk, busy_snoc]
      have hin := HIN.out (k + 1) (by omega)
      rw [hbs] at hin
      have HBS := Lib.hid hbs
      obtain ⟨t0, ht0⟩ : ∃ t, busyS (L.take k) = t := ⟨_, rfl⟩
      rw [ht0] at HBS hin
      rw [ht0]
      have hb5 : Below wr.heap.size wr (wr.alloc (.cells (winC x) 50)) := (Below.refl _ _).alloc (Nat.le_refl _) _
      have HB5 := Lib.hid (HB.out.trans (hb5.mono HB.out.size))
      obtain ⟨s1, p1, a1⟩ := x
      unfold winC at HB5
      dsimp only at c1 c2 c3 HB5 hin HBS
      have hki : (0 : Int) ≤ k := by omega
      have hkb : (k : Int) < m := by omega
      have hmm := HMM.out
      clear hx htk hbs ht0 hb5
      go_wp2_with fail
      refine (busy1_any s1 _).mono ?_
      rintro e w6 ⟨rfl, rfl⟩
      by_cases hs : s1 = -1
      · have hno : nobody s1 = true := by unfold nobody; simp [hs]
        rw [if_pos hs] at hin HBS
        rw [hno]
        clear hs hno
        go_wp2
        go_roundw
        case rel => exact ⟨k + 1, by omega, by go_num, by rw [HBS.out]; simp, HB5.out⟩
        case measure => simp [intOf]; omega
      · have hno : nobody s1 = false := by unfold nobody; simp [hs]
        rw [if_neg hs] at hin
        rw [hno]
        have hwp : IntKind.i64.wrap (t0 + a1) = t0 + a1 := IntWalk.i64_in _ (by omega)
        go_wp2
        go_roundw
        case rel => exact ⟨k + 1, by omega, by go_num, by rw [HBS.out, if_neg hs], HB5.out⟩
        case measure => simp [intOf]; omega
    · obtain rfl : k = m := by omega
      rw [List.take_of_length_le (by rw [HLL.out]; exact Nat.le_refl _)]
      have HBF := Lib.hid (HB2.out.trans (HB.out.mono HB2.out.size))
      clear HB
      go_wp2
      go_ret
      exact ⟨rfl, HBF.out⟩
set_option maxRecDepth 4000 in
set_option maxHeartbeats 1600000 in
theorem busy_any (id : Int) (fr : Nat) (P : Option Addr) (pc : Nat) (l : List A3) (C : Option Addr) (nn cc : Nat) (w : World) (h1 : ActsAt w P l) (hnum : ∀ x ∈ l, Num x) (hf : 1 ≤ fr ∧ fr ≤ 1048576) (hl : l.length ≤ 400) (m : Nat) (hm : (cutsOf fr l).length = m + 1) :
    Calls Tryd.prog 14 #[.agg #[.int .i64 id, .int .i64 (fr : Int), .slice P l.length pc, .slice C nn cc]] w fun e w' => e = .returned (.int .i64 (busyS (rowsL fr l (cutsOf fr l) m))) ∧ Below w.heap.size w w' := by
  have hb0 : Below w.heap.size w (w.alloc (.cells #[.int .i64 id, .int .i64 (fr : Int), .slice P l.length pc, .slice C nn cc] 25)) := (Below.refl _ _).alloc (Nat.le_refl _) _
  have HR := Lib.hid (count_any id fr P pc l C nn cc (w.alloc (.cells #[.int .i64 id, .int .i64 (fr : Int), .slice P l.length pc, .slice C nn cc] 25)) (h1.kept hb0) hnum hf hl m hm)
  have HB0 := Lib.hid hb0
  obtain ⟨r, hr⟩ : ∃ r, busyS (rowsL fr l (cutsOf fr l) m) = r := ⟨_, rfl⟩
  rw [hr] at HR
  rw [hr]
  obtain ⟨a, ha⟩ : ∃ a, l.length = a := ⟨_, rfl⟩
  rw [ha] at HR HB0
  rw [ha]
  clear h1 hnum hf hl hm hr ha hb0
  go_enter Tryd.func14, Tryd.ntmps14
  go_wp2_with fail
  refine HR.out.mono ?_
  rintro e w2 ⟨rfl, hb2⟩
  have HB2 := Lib.hid (HB0.out.trans (hb2.mono HB0.out.size))
  clear hb2 HR HB0
  go_wp2
  go_ret
  exact ⟨rfl, HB2.out⟩
end Go.Proofs.YteefmdelacihfaaDoor.Win
