
/- Frames: a copy of an engine, a new engine. Conditions: the engine is one of its tables; the tables' ids fit 64 bits, and there are fewer than 2 to the power 40. Frames: a new engine. Conditions: the tables' ids fit 64 bits, and there are at most 2 to the power 39. -/

import Derived.Test.YtofcjkfaccdnjaaDoorFrmA

namespace Go.Proofs.YtofcjkfaccdnjaaDoor.Frm

open Go.RowKit Go.PlainAid Go.Proofs.YtofcjkfaccdnjaaDoor.Oct Go.Proofs.YtofcjkfaccdnjaaDoor.Flt Go.Proofs.YtofcjkfaccdnjaaDoor.Rdr Go.Proofs.YtofcjkfaccdnjaaDoor.Args Go.Proofs.YtofcjkfaccdnjaaDoor.Win Go.Proofs.YtofcjkfaccdnjaaDoor.Tab Go.Proofs.YtofcjkfaccdnjaaDoor.Clk

open Go.Proofs.YtofcjkfaccdnjaaDoor.Act (A3 actL flatA ActsAt I64 Wide)

set_option linter.unusedVariables false

set_option linter.unusedSimpArgs false

theorem copy_cell {w : World} {g : Nat} {xs : Array Value} {T : TypeId} (h : w.heap[g]? = some (.cells xs T (0, 0))) (k : Nat) (v : Value) (hv : xs[k]? = some v) : w.cell? ⟨g, k, none⟩ = some v := by
  rw [cell_of_row w _ _ _ _ _ h]; exact hv
theorem copy_free {w : World} {g : Nat} {xs : Array Value} {T : TypeId} (h : w.heap[g]? = some (.cells xs T (0, 0))) (k : Nat) : w.frozen? ⟨g, k, none⟩ = false := by simp [World.frozen?, h]
theorem below_set (w : World) (b o : Nat) (v : Value) : Below b w (w.setCell ⟨b, o, none⟩ v) :=
  ⟨rfl, rfl, rfl, by simp, fun k hk => heap_setCell_other w ⟨b, o, none⟩ k v (by show k ≠ b; omega)⟩
theorem copy_set1 {w : World} {g : Nat} {c0 c1 c2 c3 c4 : Value} {T : TypeId} (h : w.heap[g]? = some (.cells #[c0, c1, c2, c3, c4] T (0, 0))) (v : Value) : (w.setCell ⟨g, 1, none⟩ v).heap[g]? = some (.cells #[c0, v, c2, c3, c4] T (0, 0)) := by
  rw [setCell_eq_setRow w g 1 _ _ (0, 0) _ h]
  exact setRow_heap _ _ _ _ _ _ h
theorem copy_set2 {w : World} {g : Nat} {c0 c1 c2 c3 c4 : Value} {T : TypeId} (h : w.heap[g]? = some (.cells #[c0, c1, c2, c3, c4] T (0, 0))) (v : Value) : (w.setCell ⟨g, 2, none⟩ v).heap[g]? = some (.cells #[c0, c1, v, c3, c4] T (0, 0)) := by
  rw [setCell_eq_setRow w g 2 _ _ (0, 0) _ h]
  exact setRow_heap _ _ _ _ _ _ h
section

variable {w : World} {B q mb ck cu : Nat} {Ts : List TR} {T : TR} {t : Nat} {due : Int} {now frames : Nat}

set_option maxRecDepth 8000 in
set_option maxHeartbeats 3200000 in
theorem ecopy_any (h : IsE w B q mb ck cu Ts T t due now frames) :
    Calls Tryd.prog 16 #[.pointer (some ⟨q, 0, none⟩)] w fun e w' => ∃ qn ck' cu', e = .returned (.pointer (some ⟨qn, 0, none⟩)) ∧ w.heap.size ≤ qn ∧ w.heap.size ≤ ck' ∧ w.heap.size ≤ cu' ∧ IsE w' B qn mb ck' cu' Ts T t due now frames ∧ Below w.heap.size w w' := by
  obtain ⟨c0, c1, c2, c3, c4⟩ := h.cells
  have hb1 : Below w.heap.size w (w.alloc (.cells #[.map (some mb), .pointer (some ⟨ck, 0, none⟩), .pointer (some ⟨cu, 0, none⟩), .int .i64 due, .int .u64 (frames : Int)] 75)) := (Below.refl _ _).alloc (Nat.le_refl _) _
  have HE := Lib.hid h
  have HX1 := Lib.hid (heap_alloc_new w (.cells #[.map (some mb), .pointer (some ⟨ck, 0, none⟩), .pointer (some ⟨cu, 0, none⟩), .int .i64 due, .int .u64 (frames : Int)] 75))
  have HB1 := Lib.hid hb1
  clear h hb1
  go_enter Tryd.func16, Tryd.ntmps16
  go_upto_region 2 with fail
  clear c0 c1 c2 c3 c4
  obtain ⟨W1, hW1⟩ : ∃ W, w.alloc (.cells #[.map (some mb), .pointer (some ⟨ck, 0, none⟩), .pointer (some ⟨cu, 0, none⟩), .int .i64 due, .int .u64 (frames : Int)] 75) = W := ⟨_, rfl⟩
  rw [hW1] at HX1 HB1
  rw [hW1]
  have he1 := HE.out.keep HB1.out
  obtain ⟨c0, c1, c2, c3, c4⟩ := he1.cells
  have HE1 : Hid (IsE W1.drew B q mb ck cu Ts T t due now frames) := he1.keep ⟨rfl, rfl, rfl, Nat.le_refl _, fun _ _ => rfl⟩
  have HX2 : Hid (W1.drew.heap[w.heap.size]? = some (.cells #[.map (some mb), .pointer (some ⟨ck, 0, none⟩), .pointer (some ⟨cu, 0, none⟩), .int .i64 due, .int .u64 (frames : Int)] 75 (0, 0))) := HX1.out
  have HB2 : Hid (Below w.heap.size w W1.drew) := HB1.out.drew
  clear he1 hW1 HX1 HB1
  go_region_held3 (fun wx => wx.cell? ⟨q, 1, none⟩ = some (.pointer (some ⟨ck, 0, none⟩)) ∧ wx.cell? ⟨q, 2, none⟩ = some (.pointer (some ⟨cu, 0, none⟩)))
    (first | (refine ⟨?_, ?_⟩ <;> assumption) | (go_keep; done))
    (first
      | (go_at_call 39; refine (ccopy_any ck now _ HE1.out.clk).mono ?_; rintro e w3 ⟨ck', hg3, rfl, hk3, hb3⟩; have HE3 := Lib.hid (HE1.out.keep hb3); have HK3 := Lib.hid hk3; have HG3 : Hid (w.heap.size < ck') := Nat.lt_of_lt_of_le (lt_of_block HX2.out) hg3; have HX3 := Lib.hid ((hb3.block _ (lt_of_block HX2.out)).trans HX2.out); have HB3 := Lib.hid (HB2.out.trans (hb3.mono HB2.out.size)); clear hg3 hk3 hb3; obtain ⟨c0, c1, c2, c3, c4⟩ := HE3.out.cells)
      | (go_at_call 40; obtain ⟨r, x, hc, hx⟩ := HE3.out.cur; refine (ccopy_t cu T.g (t : Int) r _ hc).mono ?_; rintro e w4 ⟨rfl, hc4, hb4⟩; have HE4 := Lib.hid (HE3.out.keep hb4); have HC4 := Lib.hid hc4; have HT4 := Lib.hid hx; have HK4 : Hid (IsClk w4 ck' now) := (hb4.block _ (lt_of_block HK3.out)).trans HK3.out; have HX4 := Lib.hid ((hb4.block _ (lt_of_block HX3.out)).trans HX3.out); have HB4 := Lib.hid (HB3.out.trans (hb4.mono HB3.out.size)); have HL4 : Hid (ck' < w3.heap.size) := lt_of_block HK3.out; clear hc hx hc4 hb4; obtain ⟨c0, c1, c2, c3, c4⟩ := HE4.out.cells; have x1 := copy_cell HX4.out 1 _ rfl; have x2 := copy_free HX4.out 1; have x3 := copy_cell (copy_set1 HX4.out (.pointer (some ⟨ck', 0, none⟩))) 2 _ rfl; have x4 := copy_free (copy_set1 HX4.out (.pointer (some ⟨ck', 0, none⟩))) 2; have x5 := copy_cell HX4.out 2 _ rfl; have x6 := copy_free HX4.out 2; obtain ⟨l1, l2, l3, l4⟩ := HE.out.lt; have HE5 := Lib.hid (HE4.out.kept (N := w.heap.size) (below_set w4 w.heap.size 1 (.pointer (some ⟨ck', 0, none⟩))) l1 l2 l3 l4); have HE6 := Lib.hid (HE5.out.kept (N := w.heap.size) (below_set (w4.setCell ⟨w.heap.size, 1, none⟩ (.pointer (some ⟨ck', 0, none⟩))) w.heap.size 2 (.pointer (some ⟨w3.heap.size, 0, none⟩))) l1 l2 l3 l4); obtain ⟨d0, d1, d2, d3, d4⟩ := HE5.out.cells; obtain ⟨e0, e1, e2, e3, e4⟩ := HE6.out.cells; clear l1 l2 l3 l4))
  all_goals
    have hk : ∀ k, k ≠ w.heap.size → ((w4.setCell ⟨w.heap.size, 1, none⟩ (.pointer (some ⟨ck', 0, none⟩))).setCell ⟨w.heap.size, 2, none⟩ (.pointer (some ⟨w3.heap.size, 0, none⟩))).heap[k]? = w4.heap[k]? := fun k hk => (heap_setCell_other _ ⟨w.heap.size, 2, none⟩ k _ hk).trans (heap_setCell_other _ ⟨w.heap.size, 1, none⟩ k _ hk)
    have hlt := HE.out.lt
    have hB := HE.out.hB
    have hne := HE.out.ne
    have h3 := HG3.out
    have h4 := HL4.out
    have HEN : Hid (IsE ((w4.setCell ⟨w.heap.size, 1, none⟩ (.pointer (some ⟨ck', 0, none⟩))).setCell ⟨w.heap.size, 2, none⟩ (.pointer (some ⟨w3.heap.size, 0, none⟩))) B w.heap.size mb ck' w3.heap.size Ts T t due now frames) :=
      ⟨copy_set2 (copy_set1 HX4.out _) _, (hk _ (by omega)).trans HK4.out, ⟨r, x, ⟨(hk _ (by omega)).trans HC4.out.box⟩, HT4.out⟩, HE6.out.map, HE6.out.tabs, HE6.out.mem, HE6.out.dues, HE6.out.wd, ⟨by omega, by omega, by omega, by omega⟩, ⟨by omega, by omega, by omega, by omega, by omega, by omega⟩, HE6.out.tm⟩
    have HBN : Hid (Below w.heap.size w ((w4.setCell ⟨w.heap.size, 1, none⟩ (.pointer (some ⟨ck', 0, none⟩))).setCell ⟨w.heap.size, 2, none⟩ (.pointer (some ⟨w3.heap.size, 0, none⟩)))) := (HB4.out.trans (below_set _ _ _ _)).trans (below_set _ _ _ _)
    have HLE : Hid (w.heap.size ≤ ck' ∧ w.heap.size ≤ w3.heap.size) := by show _ ∧ _; omega
    clear hk hlt hB hne h3 h4
    go_wp2
    go_ret
    exact ⟨_, _, _, rfl, Nat.le_refl _, HLE.out.1, HLE.out.2, HEN.out, HBN.out⟩
/-- Pointers to tables, one behind the other. -/
def PtrsAt (w : World) (A : Option Addr) (Ts : List TR) : Prop := ∀ i X, Ts[i]? = some X → ∃ y, A = some y ∧ w.cell? (y.add i) = some (.pointer (some ⟨X.g, 0, none⟩))
theorem PtrsAt.kept {w w' : World} {A : Option Addr} {Ts : List TR} (h : PtrsAt w A Ts) (b : Below w.heap.size w w') : PtrsAt w' A Ts := by
  intro i X hX
  obtain ⟨y, e, h1⟩ := h i X hX
  exact ⟨y, e, (b.cell (Go.block_lt_of_cell h1)).trans h1⟩
set_option maxRecDepth 4000 in
theorem index_no (A : Option Addr) (cap n : Nat) (Ts : List TR) (w : World) (h : PtrsAt w A Ts) (hn : Ts.length = n) (hl : n ≤ 1099511627776) :
    Calls Tryd.prog 51 #[.slice A n cap, .pointer none] w fun e w' => e = .returned (.int .i64 (-1)) ∧ Below w.heap.size w w' := by
  have H := Lib.hid h
  have HN := Lib.hid hn
  clear h hn
  go_enter Tryd.func51, Tryd.ntmps51
  go_wp2
  go_loopw [8] (fun i wr => (∃ k : Nat, k ≤ n ∧ i = .int .i64 k) ∧ ∃ m, wr = w.drewN m) (fun i _ => n - (intOf i).toNat)
  case atStart => exact ⟨⟨0, Nat.zero_le _, rfl⟩, 0, rfl⟩
  case round =>
    obtain ⟨⟨k, hk, rfl⟩, m, hwr⟩ := hrel
    have HW := Lib.hid hwr
    have HBW : Hid (Below w.heap.size w wr) := by show Below _ _ _; rw [hwr]; exact ⟨rfl, rfl, rfl, Nat.le_refl _, fun _ _ => rfl⟩
    clear hwr
    by_cases hlt : k < n
    · obtain ⟨X, hX⟩ : ∃ X, Ts[k]? = some X := ⟨_, List.getElem?_eq_getElem (by rw [HN.out]; exact hlt)⟩
      obtain ⟨y, rfl, hc⟩ := (H.out.kept HBW.out) k X hX
      have h0 : (0 : Int) ≤ k := by omega
      have h1 : (k : Int) < n := by omega
      have hk1 : IntKind.i64.wrap ((k : Int) + 1) = (k : Int) + 1 := IntWalk.i64_in _ (by omega)
      have heq : (binOp BinOp.eql 63 (.pointer none) (.pointer (some ⟨X.g, 0, none⟩))).run Tryd.prog wr = .ok (.bool false) wr := by rfl
      clear hX
      go_wp2
      go_roundw
      case rel => exact ⟨⟨k + 1, by omega, by first | rfl | go_num⟩, m, by rw [HW.out]⟩
      case measure => simp [intOf]; omega
    · obtain rfl : k = n := by omega
      go_wp2
      go_ret
      exact ⟨rfl, HBW.out⟩
theorem contains_no (A : Option Addr) (cap n : Nat) (Ts : List TR) (w : World) (h : PtrsAt w A Ts) (hn : Ts.length = n) (hl : n ≤ 1099511627776) :
    Calls Tryd.prog 28 #[.slice A n cap, .pointer none] w fun e w' => e = .returned (.bool false) ∧ Below w.heap.size w w' := by
  have HI := Lib.hid (index_no A cap n Ts w h hn hl)
  clear h hn hl
  go_enter Tryd.func28, Tryd.ntmps28
  go_wp2_with fail
  refine HI.out.mono ?_
  rintro e w2 ⟨rfl, hb2⟩
  have HB := Lib.hid hb2
  clear hb2
  go_wp2
  go_ret
  exact ⟨rfl, HB.out⟩
end

end Go.Proofs.YtofcjkfaccdnjaaDoor.Frm

namespace Go.Proofs.YtofcjkfaccdnjaaDoor.Frm

open Go.RowKit Go.PlainAid Go.Proofs.YtofcjkfaccdnjaaDoor.Oct Go.Proofs.YtofcjkfaccdnjaaDoor.Flt Go.Proofs.YtofcjkfaccdnjaaDoor.Rdr Go.Proofs.YtofcjkfaccdnjaaDoor.Args Go.Proofs.YtofcjkfaccdnjaaDoor.Win Go.Proofs.YtofcjkfaccdnjaaDoor.Tab Go.Proofs.YtofcjkfaccdnjaaDoor.Clk

open Go.Proofs.YtofcjkfaccdnjaaDoor.Act (A3 actL flatA ActsAt I64 Wide)

set_option linter.unusedVariables false

set_option linter.unusedSimpArgs false

theorem pick_snoc (L : List TR) (X : TR) (i : Int) (h : pick L X.id = none) : pick (L ++ [X]) i = if i = X.id then some X else pick L i := by
  unfold pick at h ⊢
  rw [List.find?_append]
  by_cases hi : i = X.id
  · subst hi
    rw [h, if_pos rfl]
    simp
  · rw [if_neg hi]
    have : (X.id == i) = false := by simp; exact fun e => hi e.symm
    simp [this]
/-- No two tables of one id among the first k. -/
def Uniq (Ts : List TR) (k : Nat) : Prop := ∀ (i j : Nat) (X Y : TR), i < j → j < k → Ts[i]? = some X → Ts[j]? = some Y → X.id ≠ Y.id
theorem pick_none {Ts : List TR} {k : Nat} {id : Int} (h : pick (Ts.take k) id = none) {i : Nat} {X : TR} (hi : i < k) (hX : Ts[i]? = some X) : X.id ≠ id := by
  unfold pick at h
  rw [List.find?_eq_none] at h
  have hm : X ∈ Ts.take k := List.mem_of_getElem? (i := i) (by rw [List.getElem?_take_of_lt hi]; exact hX)
  have := h X hm
  simpa using this
theorem pick_some {Ts : List TR} {k : Nat} {id : Int} {Y : TR} (h : pick (Ts.take k) id = some Y) : ∃ i, i < k ∧ Ts[i]? = some Y ∧ Y.id = id := by
  obtain ⟨hm, he⟩ := pick_mem h
  obtain ⟨i, hi, rfl⟩ := List.mem_iff_getElem.1 hm
  have hik : i < k := by rw [List.length_take] at hi; omega
  refine ⟨i, hik, ?_, he⟩
  rw [← List.getElem?_take_of_lt hik]
  exact List.getElem?_eq_getElem hi
/-- What a new engine is. -/
def ENew (w : World) (Ts : List TR) (first : Int) (epoch : Nat) (e : Ending) (w' : World) : Prop :=
  Below w.heap.size w w' ∧
  ((¬ Uniq Ts Ts.length ∧ e = .returned (.tuple #[.pointer none, .int .i64 9])) ∨
   (Uniq Ts Ts.length ∧ pick Ts first = none ∧ e = .returned (.tuple #[.pointer none, .int .i64 10])) ∨
   (Uniq Ts Ts.length ∧ ∃ T q mb ck cu, pick Ts first = some T ∧ e = .returned (.tuple #[.pointer (some ⟨q, 0, none⟩), .int .i64 0]) ∧ IsE w' w.heap.size q mb ck cu Ts T 0 first epoch 0))
def NRel (w : World) (mb : Nat) (Ts : List TR) (n : Nat) (i : Value) (wr : World) : Prop :=
  ∃ k m : Nat, k ≤ n ∧ m ≤ k ∧ i = .int .i64 (k : Int) ∧ MapT wr mb m (fun v => (pick (Ts.take k) v).map TR.g) ∧ Uniq Ts k ∧ Below w.heap.size w wr
set_option maxRecDepth 8000 in
set_option maxHeartbeats 6400000 in
theorem enew_any (A : Option Addr) (cap n : Nat) (Ts : List TR) (first : Int) (epoch : Nat) (w : World) (h : PtrsAt w A Ts) (hn : Ts.length = n) (hl : n ≤ 1099511627776) (hT : ∀ X ∈ Ts, TabOk w.heap.size w X) (hf : I64 first) (he : epoch ≤ 18446744073709551615) :
    Calls Tryd.prog 9 #[.slice A n cap, .int .i64 first, .int .u64 (epoch : Int)] w (ENew w Ts first epoch) := by
  have HCN := Lib.hid (contains_no A cap n Ts w h hn hl)
  have HP := Lib.hid h
  have HN := Lib.hid hn
  have HT := Lib.hid hT
  have HF := Lib.hid hf
  have HEP := Lib.hid he
  have HL := Lib.hid hl
  have hmm := @run_makeMap Tryd.prog
  clear h hn hT hf he hl
  go_enter Tryd.func9, Tryd.ntmps9
  go_wp2_with fail
  refine HCN.out.mono ?_
  rintro e w1 ⟨rfl, hb1⟩
  have hb2 : Below w.heap.size w (w1.alloc (.map #[] 0)) := hb1.trans (((Below.refl w1.heap.size w1).alloc (Nat.le_refl _) _).mono hb1.size)
  have HMB : Hid (w.heap.size ≤ w1.heap.size) := hb1.size
  have HS0 : Hid (NRel w w1.heap.size Ts n (.int .i64 0) (w1.alloc (.map #[] 0))) := ⟨0, 0, Nat.zero_le _, Nat.le_refl _, rfl, map_made w1, fun i j X Y h1 h2 => by omega, hb2⟩
  clear hb1 hb2 HCN
  go_wp2_with fail
  obtain ⟨mb, hmb⟩ : ∃ b, w1.heap.size = b := ⟨_, rfl⟩
  obtain ⟨W2, hW2⟩ : ∃ W, w1.alloc (.map #[] 0) = W := ⟨_, rfl⟩
  rw [hmb, hW2] at HS0
  rw [hmb] at HMB
  rw [hmb, hW2]
  clear hmb hW2 hmm
  go_loopw [17] (fun i wr => NRel w mb Ts n i wr) (fun i _ => n - (intOf i).toNat)
  case atStart => exact HS0.out
  case round =>
    obtain ⟨k, m, hk, hmk, rfl, hmp, hun, hbel⟩ := hrel
    have HMP := Lib.hid hmp
    have HUN := Lib.hid hun
    have HB := Lib.hid hbel
    clear hmp hun hbel HS0
    by_cases hlt : k < n
    · obtain ⟨X, hX⟩ : ∃ X, Ts[k]? = some X := ⟨_, List.getElem?_eq_getElem (by rw [HN.out]; exact hlt)⟩
      have HX := Lib.hid hX
      have hc := HP.out k X hX
      obtain ⟨y, rfl, hc⟩ := hc
      have hcr : wr.cell? (y.add k) = some (.pointer (some ⟨X.g, 0, none⟩)) := (HB.out.cell (Go.block_lt_of_cell hc)).trans hc
      have HTX := Lib.hid ((HT.out X (List.mem_of_getElem? hX)).kept HB.out)
      have HID := Lib.hid (id_any X.g X.id (X.fr : Int) X.A X.c X.L wr HTX.out.it)
      have h0 : (0 : Int) ≤ k := by omega
      have h1 : (k : Int) < n := by omega
      have hl := HL.out
      have hk1 : IntKind.i64.wrap ((k : Int) + 1) = (k : Int) + 1 := IntWalk.i64_in _ (by omega)
      have hlk := HMP.out.look X.id HTX.out.wd
      clear hX hc
      cases hp : pick (Ts.take k) X.id with
      | some Y =>
        rw [hp] at hlk
        have HLK : Hid ((Instr.lookup 69 (.map (some mb)) (.int .i64 X.id) false).run Tryd.prog wr = .ok (.pointer (some ⟨Y.g, 0, none⟩)) wr) := hlk
        have HPK := Lib.hid hp
        clear hlk hp
        go_wp2_with (first
          | (go_at_call 29; refine HID.out.mono ?_; rintro e wa ⟨rfl, rfl⟩)
          | (at_lookup; refine wpList_look _ rfl _ _ 69 rfl (.pointer (some ⟨Y.g, 0, none⟩)) _ _ rfl rfl HLK.out ?_))
        go_ret2
        obtain ⟨i, hi, hY, hid⟩ := pick_some HPK.out
        exact ⟨HB.out, .inl ⟨fun hu => hu i k Y X hi (by rw [HN.out]; exact hlt) hY HX.out hid, rfl⟩⟩
      | none =>
        rw [hp] at hlk
        have HLK : Hid ((Instr.lookup 69 (.map (some mb)) (.int .i64 X.id) false).run Tryd.prog wr = .ok (.pointer none) wr) := hlk
        have HPK := Lib.hid hp
        clear hlk hp
        obtain ⟨w5, hrun, hm5, hg5⟩ := HMP.out.put X.id HTX.out.wd X.g (by unfold maxLen; omega)
        have HRUN := Lib.hid hrun
        have hb5 := HB.out.grown hg5 HB.out.size (fun j hj => by obtain rfl := Option.some.inj hj; exact HMB.out)
        have HB5 := Lib.hid hb5
        have htk : Ts.take (k + 1) = Ts.take k ++ [X] := by rw [List.take_add_one, HX.out]; rfl
        have hm6 : MapT w5 mb (m + 1) (fun v => (pick (Ts.take (k + 1)) v).map TR.g) := by
          have e : (fun v => (pick (Ts.take (k + 1)) v).map TR.g) = (fun i => if i = X.id then some X.g else (pick (Ts.take k) i).map TR.g) := by
            funext v
            rw [htk, pick_snoc _ _ _ HPK.out]
            split <;> rfl
          rw [e]
          exact hm5
        have HM6 := Lib.hid hm6
        have HU6 : Hid (Uniq Ts (k + 1)) := fun i j X' Y' hij hjk g1 g2 => by
          by_cases hj : j = k
          · subst hj
            rw [HX.out] at g2
            obtain rfl := Option.some.inj g2
            exact pick_none HPK.out hij g1
          · exact HUN.out i j X' Y' hij (by omega) g1 g2
        clear hrun hm5 hg5 hb5 htk hm6
        go_wp2_with (first
          | (go_at_call 29; refine HID.out.mono ?_; rintro e wa ⟨rfl, rfl⟩)
          | (at_lookup; refine wpList_look _ rfl _ _ 69 rfl (.pointer none) _ _ rfl rfl HLK.out ?_)
          | (at_mapUpdate; refine wpList_upd _ rfl _ _ _ 69 rfl _ _ _ rfl rfl rfl w5 HRUN.out ?_))
        go_roundw
        case rel => exact ⟨k + 1, m + 1, by omega, by omega, by first | rfl | go_num, HM6.out, HU6.out, HB5.out⟩
        case measure => simp [intOf]; omega
    · obtain rfl : k = n := by omega
      have htk : Ts.take k = Ts := List.take_of_length_le (by rw [HN.out]; exact Nat.le_refl _)
      have hmp := HMP.out
      rw [htk] at hmp
      have hlk := hmp.look first HF.out
      have HMP2 := Lib.hid hmp
      have HU : Hid (Uniq Ts Ts.length) := by show Uniq _ _; rw [HN.out]; exact HUN.out
      clear hmp htk HMP HUN
      cases hp : pick Ts first with
      | none =>
        rw [hp] at hlk
        have HLK : Hid ((Instr.lookup 69 (.map (some mb)) (.int .i64 first) false).run Tryd.prog wr = .ok (.pointer none) wr) := hlk
        have HPK := Lib.hid hp
        clear hlk hp
        go_wp2_with (first
          | (at_lookup; refine wpList_look _ rfl _ _ 69 rfl (.pointer none) _ _ rfl rfl HLK.out ?_))
        go_ret2
        exact ⟨HB.out, .inr (.inl ⟨HU.out, HPK.out, rfl⟩)⟩
      | some T =>
        rw [hp] at hlk
        have HLK : Hid ((Instr.lookup 69 (.map (some mb)) (.int .i64 first) false).run Tryd.prog wr = .ok (.pointer (some ⟨T.g, 0, none⟩)) wr) := hlk
        have HPK := Lib.hid hp
        have HTS : Hid (∀ X ∈ Ts, TabOk w.heap.size wr X) := fun X hX => (HT.out X hX).kept HB.out
        clear hlk hp HT
        go_wp2_with (first
          | (at_lookup; refine wpList_look _ rfl _ _ 69 rfl (.pointer (some ⟨T.g, 0, none⟩)) _ _ rfl rfl HLK.out ?_)
          | (go_at_call 30; refine (cnew_any epoch _).mono ?_; rintro e w4 ⟨ck, hg4, rfl, hk4, hb4⟩; have HK4 := Lib.hid hk4; have HG4 := Lib.hid hg4; have HB4 := Lib.hid hb4; clear hk4 hg4 hb4)
          | (go_at_call 31; refine (ccursor_any T.g _).mono ?_; rintro e w5 ⟨rfl, hc5, hb5⟩; have HC5 := Lib.hid hc5; have HB5 := Lib.hid hb5; clear hc5 hb5))
        go_ret2
        obtain ⟨bm, hmk⟩ : ∃ b, b = b := ⟨0, rfl⟩
        have hmlt := HMP2.out.blk
        have hmB := HMB.out
        have hg4 := HG4.out
        have hk4 := lt_of_block HK4.out
        have hc5 := lt_of_block HC5.out.box
        have hb6 : Below w5.heap.size w5 (w5.alloc (.cells #[.map (some mb), .pointer (some ⟨ck, 0, none⟩), .pointer (some ⟨w4.heap.size, 0, none⟩), .int .i64 first, .int .u64 0] 75)) := (Below.refl _ _).alloc (Nat.le_refl _) _
        have hbw4 : Below w.heap.size w w4 := HB.out.trans (HB4.out.mono HB.out.size)
        have hbw5 : Below w.heap.size w w5 := hbw4.trans (HB5.out.mono hbw4.size)
        have hbw6 : Below w.heap.size w (w5.alloc (.cells #[.map (some mb), .pointer (some ⟨ck, 0, none⟩), .pointer (some ⟨w4.heap.size, 0, none⟩), .int .i64 first, .int .u64 0] 75)) := hbw5.trans (hb6.mono hbw5.size)
        obtain ⟨x0, hx0⟩ := first_run (HTS.out T (pick_mem HPK.out).1).ru
        have hbr5 : Below wr.heap.size wr w5 := HB4.out.trans (HB5.out.mono HB4.out.size)
        refine ⟨hbw6, .inr (.inr ⟨HU.out, T, w5.heap.size, mb, ck, w4.heap.size, HPK.out, rfl, ?_⟩)⟩
        have hs4 := HB4.out.size
        have hs0 := HB.out.size
        refine ⟨heap_alloc_new _ _, (hb6.block _ (by omega)).trans ((HB5.out.block _ hk4).trans HK4.out), ⟨0, x0, ⟨(hb6.block _ hc5).trans HC5.out.box⟩, hx0⟩, ⟨_, (HMP2.out.kept (hbr5.block _ hmlt)).kept (hb6.block _ (by omega))⟩, fun X hX => ((HTS.out X hX).kept ((hbr5.mono hs0))).kept (hb6.mono (by omega)), (pick_mem HPK.out).1, ⟨T, HPK.out⟩, HF.out, ⟨by omega, by omega, by omega, by omega⟩, ⟨by omega, by omega, by omega, by omega, by omega, by omega⟩, ⟨Nat.zero_le _, HEP.out⟩⟩
end Go.Proofs.YtofcjkfaccdnjaaDoor.Frm
