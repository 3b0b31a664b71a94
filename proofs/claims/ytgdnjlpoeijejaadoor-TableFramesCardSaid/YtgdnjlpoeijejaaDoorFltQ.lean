
/- What package fault's Of tells of a fault: its class, the outermost section and the outermost place; of nil nothing; and First, of errors. Condition: there are at most a million wraps. -/

import Derived.Test.YtgdnjlpoeijejaaDoorFltP

namespace Go.Proofs.YtgdnjlpoeijejaaDoor.Flt

open Go.RowKit Go.PlainAid

/-- The outermost section, the outermost place. -/
def secOf : List (Bool × Int) → Int
  | [] => 0
  | (true, n) :: _ => n
  | (false, _) :: r => secOf r
def atOf : List (Bool × Int) → Int
  | [] => 0
  | (false, n) :: _ => n
  | (true, _) :: r => atOf r
def fltV (k s a : Int) : Value := .agg #[.int .i64 k, .int .i64 s, .int .i64 a]

/-- A slice of pointers that reads as the blocks gs. -/
def IsPtrs (w : World) (A : Option Addr) (gs : List Nat) : Prop := ∀ i (h : i < gs.length), ∃ r, A = some ⟨r, 0, none⟩ ∧ w.cell? ⟨r, i, none⟩ = some (.pointer (some ⟨gs[i], 0, none⟩))
theorem owns_ptrs {w : World} {B : Nat} {l : Value} {gs : List Nat} (h : w.ownsRow B 68 1 l gs.length (ptrs gs)) : ∃ A cap, l = .slice A gs.length cap ∧ gs.length ≤ cap ∧ IsPtrs w A gs := by
  rcases h.2 with ⟨rfl, h0⟩ | ⟨g, cap, cur, rfl, _, h3, h4, _, _, h5⟩
  · exact ⟨none, 0, by rw [h0], by omega, fun i hi => by omega⟩
  · refine ⟨_, cap, rfl, h4, fun i hi => ⟨g, rfl, ?_⟩⟩
    rw [cell_of_row w _ _ _ _ _ h3]
    have e : (cur.toList.take (gs.length * 1))[i]? = (ptrs gs)[i]? := by rw [h5]
    rw [List.getElem?_take_of_lt (by omega)] at e
    rw [← Array.getElem?_toList, e]
    simp [ptrs, hi]
theorem IsPtrs.kept {w w' : World} {A : Option Addr} {gs : List Nat} (h : IsPtrs w A gs) (b : Below w.heap.size w w') : IsPtrs w' A gs := by
  intro i hi
  obtain ⟨r, e, hc⟩ := h i hi
  exact ⟨r, e, (b.cell (Go.block_lt_of_cell hc)).trans hc⟩
theorem sec_drop (ws : List (Bool × Int)) (j : Nat) (h : j < ws.length) : secOf (ws.drop j) = if ws[j].1 then ws[j].2 else secOf (ws.drop (j + 1)) := by
  rw [List.drop_eq_getElem_cons h]
  rcases ws[j] with ⟨b, n⟩
  cases b <;> rfl
theorem at_drop (ws : List (Bool × Int)) (j : Nat) (h : j < ws.length) : atOf (ws.drop j) = if ws[j].1 then atOf (ws.drop (j + 1)) else ws[j].2 := by
  rw [List.drop_eq_getElem_cons h]
  rcases ws[j] with ⟨b, n⟩
  cases b <;> rfl
def fltCells (k s a : Int) : Array Value := #[.int .i64 k, .int .i64 s, .int .i64 a]
theorem size_flt : (Tryd.prog.info? 35).map (·.size) = some 3 := by kernel_rfl

theorem one_flt (k s a : Int) : (#[Value.int .i64 k, .int .i64 s, .int .i64 a]).all (·.oneCell') = true := by simp [Value.oneCell']

theorem of_nil (w : World) : Calls Tryd.prog 7 #[.nilIface] w fun e w' => e = .returned (fltV 0 0 0) ∧ Below w.heap.size w w' := by
  go_enter Tryd.func7, Tryd.ntmps7
  go_wp2
  simp [bodyPost, results, Tryd.results7, go_sem]
  exact ⟨rfl, (Below.refl _ _).alloc (Nat.le_refl _) _⟩

def ORel (ws : List (Bool × Int)) (k : Int) (w1 : World) (i : Value) (wr : World) : Prop :=
  ∃ j : Nat, j ≤ ws.length ∧ i = .int .i64 ((j : Int) - 1) ∧ wr.heap[w1.heap.size]? = some (.cells #[.int .i64 k, .int .i64 (secOf (ws.drop j)), .int .i64 (atOf (ws.drop j))] 35 (0, 0)) ∧ Below w1.heap.size w1 wr
set_option maxRecDepth 4000 in
set_option maxHeartbeats 1600000 in
theorem of_any (x : Value) (ws : List (Bool × Int)) (k : Int) (w : World) (h : IsFault w x ws k) (hw : ws.length ≤ 1000000) :
    Calls Tryd.prog 7 #[x] w fun e w' => e = .returned (fltV k (secOf ws) (atOf ws)) ∧ Below w.heap.size w w' := by
  obtain ⟨u, y, rfl⟩ : ∃ u y, x = .iface u y := by
    cases ws with
    | nil => exact ⟨_, _, h⟩
    | cons a ws => obtain ⟨g, y, e, _⟩ := h; exact ⟨_, _, e⟩
  have hb0 : Below w.heap.size w (w.alloc (.cells #[.int .i64 0, .int .i64 0, .int .i64 0] 35)) := (Below.refl _ _).alloc (Nat.le_refl _) _
  have H := Lib.hid (h.kept hb0)
  have HW := Lib.hid hw
  clear h hw
  go_enter Tryd.func7, Tryd.ntmps7
  go_wp2_with fail
  refine (parts_any _ ws k _ H.out HW.out).mono ?_
  rintro e w1 ⟨l, gs, rfl, hgs, hown, hb1⟩
  obtain ⟨A, cap, rfl, hcap, hptr⟩ := owns_ptrs hown
  have hlen := hgs.length
  have hB : Hid (w1.heap[w.heap.size]? = some (.cells #[.int .i64 0, .int .i64 0, .int .i64 0] 35 (0, 0))) := (hb1.block _ (by simp)).trans (heap_alloc_new _ _)
  have hsz : w.heap.size < w1.heap.size := lt_of_block hB.out
  have HSZ := Lib.hid hsz
  have hbel : Below w.heap.size w w1 := hb0.trans (hb1.mono hb0.size)
  have HGS := Lib.hid (hgs.kept hb1)
  have HP := Lib.hid hptr
  have HL := Lib.hid hlen
  have hn9 : ((gs.length : Nat) : Int) ≤ 1000000 := by have := HW.out; omega
  clear hgs hown hb1 hptr hlen hb0 H hsz
  go_wp2_with fail
  go_loopw [6] (fun i wr => ORel ws k w1 i wr) (fun i _ => (intOf i + 1).toNat)
  case atStart =>
    refine ⟨ws.length, Nat.le_refl _, by rw [HL.out], ?_, (Below.refl _ _).alloc (Nat.le_refl _) _⟩
    rw [List.drop_length]; exact heap_alloc_new _ _
  case round =>
    obtain ⟨j, hj, rfl, hF, hbr⟩ := hrel
    cases j with
    | zero =>
      have hB2 : Hid (wr.heap[w.heap.size]? = some (.cells #[.int .i64 0, .int .i64 0, .int .i64 0] 35 (0, 0))) := (hbr.block _ HSZ.out).trans hB.out
      have HF : Hid (wr.heap[w1.heap.size]? = some (.cells #[.int .i64 k, .int .i64 (secOf ws), .int .i64 (atOf ws)] 35 (0, 0))) := by show _ = _; simpa using hF
      clear hF hj hn9 hcap
      go_wp2_with (first
        | ((with_reducible show wpList _ _ _ _ _ _); refine wpList_load_row rfl 35 (.tmp 5) rfl w1.heap.size rfl 35 _ (0, 0) _ HF.out Tryd.underlying35 rfl (by rw [size_flt]; rfl) ?_)
        | ((with_reducible show wpList _ _ _ _ _ _); (refine wpList_store_row rfl 35 (.tmp 2) (.tmp 47) rfl w.heap.size #[.int .i64 k, .int .i64 (secOf ws), .int .i64 (atOf ws)] rfl rfl 35 #[.int .i64 0, .int .i64 0, .int .i64 0] hB2.out (by rw [size_flt]; rfl) rfl (one_flt _ _ _) ?_)))
      refine bodyPost_ret (v := fltV k (secOf ws) (atOf ws)) (results_cell_row (by rfl) _ _ w.heap.size 35 _ (0, 0) _ rfl (setRow_heap _ _ _ _ _ _ hB2.out) Tryd.underlying35 rfl (by rw [size_flt]; rfl)) rfl ⟨rfl, ?_⟩
      exact hbel.trans ((hbr.mono hbel.size).trans ⟨rfl, rfl, rfl, by simp, fun b hb => setRow_other _ _ _ _ (by omega)⟩)
    | succ m =>
      have e0 : (((m + 1 : Nat) : Int) - 1) = (m : Int) := by omega
      rw [e0]
      have hml : m < gs.length := by have := HL.out; omega
      obtain ⟨r, hA, hc0⟩ := HP.out m hml
      subst hA
      obtain ⟨yy, hg0⟩ := HGS.out.get m (by omega) hml
      obtain ⟨g, hgg⟩ : ∃ g, gs[m] = g := ⟨_, rfl⟩
      obtain ⟨b, hbb⟩ : ∃ b, (ws[m]'(by omega)).1 = b := ⟨_, rfl⟩
      obtain ⟨n, hnn⟩ : ∃ n, (ws[m]'(by omega)).2 = n := ⟨_, rfl⟩
      have hs0 := sec_drop ws m (by omega)
      have ha0 := at_drop ws m (by omega)
      rw [hgg, hbb, hnn] at hg0
      rw [hgg] at hc0
      rw [hbb, hnn] at hs0 ha0
      have hc1 : wr.cell? ⟨r, m, none⟩ = some (.pointer (some ⟨g, 0, none⟩)) := (hbr.cell (Go.block_lt_of_cell hc0)).trans hc0
      have hg1 : wr.heap[g]? = some (.cells #[.bool b, .int .i64 n, yy] 67 (0, 0)) := (hbr.block _ (lt_of_block hg0)).trans hg0
      have hc2 : wr.cell? ⟨g, 0, none⟩ = some (.bool b) := by rw [cell_of_row wr _ _ _ _ _ hg1]; rfl
      have hc3 : wr.cell? ⟨g, 1, none⟩ = some (.int .i64 n) := by rw [cell_of_row wr _ _ _ _ _ hg1]; rfl
      obtain ⟨S, hS⟩ : ∃ S, secOf (ws.drop (m + 1)) = S := ⟨_, rfl⟩
      obtain ⟨T, hT⟩ : ∃ T, atOf (ws.drop (m + 1)) = T := ⟨_, rfl⟩
      rw [hS, hT] at hF
      rw [hS] at hs0
      rw [hT] at ha0
      have hf1 : wr.frozen? ⟨w1.heap.size, 1, none⟩ = false := frozen_of_row wr _ _ _ _ hF
      have hf2 : wr.frozen? ⟨w1.heap.size, 2, none⟩ = false := frozen_of_row wr _ _ _ _ hF
      have hd1 : wr.cell? ⟨w1.heap.size, 1, none⟩ = some (.int .i64 S) := by rw [cell_of_row wr _ _ _ _ _ hF]; rfl
      have hd2 : wr.cell? ⟨w1.heap.size, 2, none⟩ = some (.int .i64 T) := by rw [cell_of_row wr _ _ _ _ _ hF]; rfl
      have hmn : (m : Int) < (gs.length : Int) := by omega
      have hm9 : (m : Int) ≤ 1000000 := by omega
      have HS := Lib.hid hs0
      have HT := Lib.hid ha0
      have HJ := Lib.hid hj
      have HF1 : Hid ((wr.setCell ⟨w1.heap.size, 1, none⟩ (.int .i64 n)).heap[w1.heap.size]? = some (.cells #[.int .i64 k, .int .i64 n, .int .i64 T] 35 (0, 0))) := by
        show _ = _; rw [heap_setCell_same wr _ _ _ _ _ hF]; rfl
      have HF2 : Hid ((wr.setCell ⟨w1.heap.size, 2, none⟩ (.int .i64 n)).heap[w1.heap.size]? = some (.cells #[.int .i64 k, .int .i64 S, .int .i64 n] 35 (0, 0))) := by
        show _ = _; rw [heap_setCell_same wr _ _ _ _ _ hF]; rfl
      have HB1 : ∀ v, Below w1.heap.size w1 (wr.setCell ⟨w1.heap.size, 1, none⟩ v) := fun v => hbr.setCell (Nat.le_refl _) v
      have HB2 : ∀ v, Below w1.heap.size w1 (wr.setCell ⟨w1.heap.size, 2, none⟩ v) := fun v => hbr.setCell (Nat.le_refl _) v
      have HBB1 := Lib.hid HB1
      have HBB2 := Lib.hid HB2
      clear hs0 ha0 hgg hbb hnn hS hT hc0 hg0 hg1 hF hj HB1 HB2 hbr
      cases b with
      | true =>
        go_wp2
        go_roundw
        case rel => exact ⟨m, by have := HJ.out; omega, by go_num, by rw [HS.out, HT.out]; exact HF1.out, HBB1.out _⟩
        case measure => simp [intOf]
      | false =>
        go_wp2
        go_roundw
        case rel => exact ⟨m, by have := HJ.out; omega, by go_num, by rw [HS.out, HT.out]; exact HF2.out, HBB2.out _⟩
        case measure => simp [intOf]
end Go.Proofs.YtgdnjlpoeijejaaDoor.Flt
