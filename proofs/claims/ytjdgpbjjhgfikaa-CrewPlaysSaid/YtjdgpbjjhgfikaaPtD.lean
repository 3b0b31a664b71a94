
/- The document's partition: new ones, modes, actions, cells. Condition: at most a thousand cells. -/

import Derived.Test.YtjdgpbjjhgfikaaPtC

namespace Go.Proofs.Ytjdgpbjjhgfikaa.Pt

open Go.RowKit Go.PlainAid Go.Proofs.Ytjdgpbjjhgfikaa.Args Go.Proofs.Ytjdgpbjjhgfikaa.Cel

open Go.Proofs.Ytjdgpbjjhgfikaa.Mod (askN startN setM setS actN actM actS size_ch)

set_option linter.unusedVariables false

set_option linter.unusedSimpArgs false

theorem size_rp : (Try.prog.info? 51).map (·.size) = some 10 := by kernel_rfl
theorem one_rp (id : Int) (nm : ByteArray) (may : Bool) (a b N : Option Addr) (n cap n2 cap2 n3 nc : Nat) (m st ca : Int) {wr : Int} : (#[.int .i64 id, .string nm, .bool may, .slice a n cap, .int .i64 m, .int .i64 st, .int .i64 ca, .slice b n2 cap2, .slice N n3 nc, .int .i64 wr] : Array Value).all (·.oneCell') = true := by simp [Value.oneCell']
/-- A partition of the document's that a call hands back: its numbers lie in a new row, or in the one that was. -/
def RP (s : PK) (a : Option Addr) (cap : Nat) (N : Option Addr) (m st ca : Int) (xs : List Nat) (wr : Int) (f : Value → Value) (w : World) (e : Ending) (w' : World) : Prop :=
  ∃ (N' : Option Addr) (nc : Nat), e = .returned (f (.agg #[.int .i64 s.id, .string s.nm, .bool s.may, .slice a s.n cap, .int .i64 m, .int .i64 st, .int .i64 ca, .slice a s.n cap, .slice N' s.n nc, .int .i64 wr])) ∧ NumsAt w' N' xs ∧ (∀ y, N' = some y → w.heap.size ≤ y.block ∨ N = some y) ∧ Below w.heap.size w w'
theorem nums_row {W : World} {N : Option Addr} {xs : List Nat} (h : NumsAt W N xs) (X : Nat) (cs : Array Value) (hN : xs ≠ [] → ∀ y, N = some y → y.block ≠ X) : NumsAt (W.setRow X cs) N xs := by
  intro i v hv
  have hne : xs ≠ [] := fun e => by rw [e] at hv; simp at hv
  obtain ⟨y, hy, hc⟩ := h i v hv
  refine ⟨y, hy, (World.cell?_of_block ?_).trans hc⟩
  have hyb : (y.add i).block = y.block := by cases i <;> rfl
  exact setRow_other _ _ _ _ (by rw [hyb]; exact hN hne y hy)
theorem nums_cell {W : World} {N : Option Addr} {xs : List Nat} (h : NumsAt W N xs) (X o : Nat) (u : Value) (hN : xs ≠ [] → ∀ y, N = some y → y.block ≠ X) : NumsAt (W.setCell ⟨X, o, none⟩ u) N xs := by
  intro i v hv
  have hne : xs ≠ [] := fun e => by rw [e] at hv; simp at hv
  obtain ⟨y, hy, hc⟩ := h i v hv
  refine ⟨y, hy, (World.cell?_of_block ?_).trans hc⟩
  have hyb : (y.add i).block = y.block := by cases i <;> rfl
  exact heap_setCell_other _ _ _ _ (by rw [hyb]; exact hN hne y hy)
theorem NumsAt.lt {W : World} {N : Option Addr} {xs : List Nat} (h : NumsAt W N xs) (hx : xs ≠ []) : ∀ y, N = some y → y.block < W.heap.size := by
  intro y hy
  cases xs with
  | nil => exact absurd rfl hx
  | cons v l =>
    obtain ⟨z, hz, hc⟩ := h 0 v rfl
    rw [hy] at hz
    obtain rfl := Option.some.inj hz
    exact Go.block_lt_of_cell hc
theorem startL_nil (goes : C2 → Bool) (fs : List C2) : startL goes fs [] = [] := by cases fs <;> rfl
theorem goL_nil (how : Int) (fs : List C2) : goL how fs [] = [] := by unfold goL; split; exact startL_nil _ _; split; exact startL_nil _ _; rfl
theorem goL_ne {how : Int} {fs : List C2} {ns : List Nat} (h : goL how fs ns ≠ []) : ns ≠ [] := fun e => h (by rw [e]; exact goL_nil _ _)
theorem setN_ne {n : Nat} {i : Int} {v : Nat} {ns : List Nat} (h : setN n i v ns ≠ []) : ns ≠ [] := fun e => h (by rw [e]; unfold setN; split <;> rfl)
section

variable {s : PK} {a : Option Addr} {cap : Nat} {N : Option Addr} {nc : Nat} {m st ca : Int} {ns : List Nat} {wr : Int}

set_option maxRecDepth 4000 in
theorem rcell_any (w : World) (hx : NumsAt w N ns) (hnl : ns.length = s.n) (hn : s.n ≤ 1000)  (i : Int) :
    Calls Try.prog 38 #[.agg #[.int .i64 s.id, .string s.nm, .bool s.may, .slice a s.n cap, .int .i64 m, .int .i64 st, .int .i64 ca, .slice a s.n cap, .slice N s.n nc, .int .i64 wr], .int .i64 i] w fun e w' => e = .returned (.int .i64 (cellK m s.n i)) ∧ Below w.heap.size w w' := by
  have hb : Below w.heap.size w (w.alloc (.cells #[.int .i64 s.id, .string s.nm, .bool s.may, .slice a s.n cap, .int .i64 m, .int .i64 st, .int .i64 ca, .slice a s.n cap, .slice N s.n nc, .int .i64 wr] 51)) := (Below.refl _ _).alloc (Nat.le_refl _) _
  have hr := heap_alloc_new w (.cells #[.int .i64 s.id, .string s.nm, .bool s.may, .slice a s.n cap, .int .i64 m, .int .i64 st, .int .i64 ca, .slice a s.n cap, .slice N s.n nc, .int .i64 wr] 51)
  obtain ⟨W, hW⟩ : ∃ W, w.alloc (.cells #[.int .i64 s.id, .string s.nm, .bool s.may, .slice a s.n cap, .int .i64 m, .int .i64 st, .int .i64 ca, .slice a s.n cap, .slice N s.n nc, .int .i64 wr] 51) = W := ⟨_, rfl⟩
  rw [hW] at hb hr
  have HW := Lib.hid hW
  have HB := Lib.hid hb
  have x4 := cell_of_row _ _ 4 _ _ _ hr
  have x8 := cell_of_row _ _ 8 _ _ _ hr
  simp only [List.getElem?_toArray, List.getElem?_cons_zero, List.getElem?_cons_succ] at x4 x8
  clear hb hr hW hx hnl
  unfold cellK
  by_cases h0 : m = 0
  · rw [if_pos h0]
    subst h0
    go_enter Try.func38, Try.ntmps38
    go_upto_region 1 with fail
    rw [HW.out]
    go_wp2
    go_ret
    exact ⟨rfl, HB.out⟩
  · rw [if_neg h0]
    have t0 : (m == 0) = false := by simp [h0]
    clear h0
    by_cases hi : 0 ≤ i ∧ i < (s.n : Int)
    · have e : inB s.n i = true := decide_eq_true hi
      have t1 : decide (i < 0) = false := decide_eq_false (by omega)
      have t2 : decide ((s.n : Int) ≤ i) = false := decide_eq_false (by omega)
      rw [e]
      clear e hi hn
      go_enter Try.func38, Try.ntmps38
      go_upto_region 1 with fail
      rw [HW.out]
      go_wp2
      go_ret
      exact ⟨rfl, HB.out⟩
    · have e : inB s.n i = false := decide_eq_false hi
      rw [e]
      have hcase : decide (i < 0) = true ∨ (decide (i < 0) = false ∧ decide ((s.n : Int) ≤ i) = true) := by
        rcases Int.lt_or_le i 0 with h | h
        · exact .inl (decide_eq_true h)
        · exact .inr ⟨decide_eq_false (by omega), decide_eq_true (by omega)⟩
      clear e hi hn
      rcases hcase with t1 | ⟨t1, t2⟩
      all_goals
        go_enter Try.func38, Try.ntmps38
        go_upto_region 1 with fail
        rw [HW.out]
        go_wp2
        go_ret
        exact ⟨rfl, HB.out⟩
set_option maxRecDepth 4000 in
set_option maxHeartbeats 1600000 in
theorem rstart_any (w : World) (hx : NumsAt w N ns) (hnl : ns.length = s.n) (hn : s.n ≤ 1000)  (hfl : s.fs.length = s.n) (hf : CellsAt w a s.fs) (hst : 0 ≤ st ∧ st ≤ 1000000) (how cause : Int) (hh : how = 0 ∨ how = 1 ∨ how = 2) :
    Calls Try.prog 35 #[.agg #[.int .i64 s.id, .string s.nm, .bool s.may, .slice a s.n cap, .int .i64 m, .int .i64 st, .int .i64 ca, .slice a s.n cap, .slice N s.n nc, .int .i64 wr], .int .i64 how, .int .i64 cause] w (RP s a cap N m (goN how st) (goC how cause ca) (goL how s.fs ns) (goW how wr) (fun v => v) w) := by
  obtain ⟨W0, hW0⟩ : ∃ W, (w.alloc (.cells #[.int .i64 s.id, .string s.nm, .bool s.may, .slice a s.n cap, .int .i64 m, .int .i64 st, .int .i64 ca, .slice a s.n cap, .slice N s.n nc, .int .i64 wr] 51)).alloc (.cells #[.int .i64 0, .string ⟨#[]⟩, .bool false, .slice none 0 0, .int .i64 0, .int .i64 0, .int .i64 0, .slice none 0 0, .slice none 0 0, .int .i64 0] 51) = W := ⟨_, rfl⟩
  have hb0 : Below w.heap.size w W0 := by rw [← hW0]; exact ((Below.refl _ _).alloc (Nat.le_refl _) _).alloc (by simp) _
  have hs0 : W0.heap.size = w.heap.size + 2 := by rw [← hW0]; simp
  have hx0 : W0.heap[w.heap.size]? = some (.cells #[.int .i64 s.id, .string s.nm, .bool s.may, .slice a s.n cap, .int .i64 m, .int .i64 st, .int .i64 ca, .slice a s.n cap, .slice N s.n nc, .int .i64 wr] 51 (0, 0)) := by
    rw [← hW0, heap_alloc_old _ _ (by simp)]; exact heap_alloc_new _ _
  have hr0 : W0.heap[w.heap.size + 1]? = some (.cells #[.int .i64 0, .string ⟨#[]⟩, .bool false, .slice none 0 0, .int .i64 0, .int .i64 0, .int .i64 0, .slice none 0 0, .slice none 0 0, .int .i64 0] 51 (0, 0)) := by
    rw [← hW0]
    have := heap_alloc_new (w.alloc (.cells #[.int .i64 s.id, .string s.nm, .bool s.may, .slice a s.n cap, .int .i64 m, .int .i64 st, .int .i64 ca, .slice a s.n cap, .slice N s.n nc, .int .i64 wr] 51)) (.cells #[.int .i64 0, .string ⟨#[]⟩, .bool false, .slice none 0 0, .int .i64 0, .int .i64 0, .int .i64 0, .slice none 0 0, .slice none 0 0, .int .i64 0] 51)
    simpa using this
  have hnu := hx.kept hb0
  have HW0 := Lib.hid hW0
  have HB0 := Lib.hid hb0
  have HS0 := Lib.hid hs0
  have HX0 := Lib.hid hx0
  have HR0 := Lib.hid hr0
  have HNU := Lib.hid hnu
  clear hW0 hb0 hs0 hx0 hr0 hnu
  have HCE := Lib.hid (hf.kept HB0.out)
  have HNL := Lib.hid hnl
  have HFL := Lib.hid hfl
  have HN : Hid (s.n ≤ 1000) := hn
  have HNN : Hid (ns ≠ [] → ∀ y, N = some y → y.block < w.heap.size) := NumsAt.lt hx
  have tst : IntKind.i64.wrap (st + 1) = st + 1 := IntWalk.i64_in _ (by omega)
  clear hx hnl hn hfl hf hst
  rcases hh with rfl | hh
  · go_enter Try.func35, Try.ntmps35
    go_upto_region 1 with fail
    rw [HW0.out]
    go_wp2_with (first
      | ((with_reducible show wpList _ _ _ _ _ _); refine wpList_load_row rfl 51 (.tmp 3) rfl w.heap.size rfl 51 _ (0, 0) _ HX0.out Try.underlying51 rfl (by rw [size_rp]; rfl) ?_)
      | ((with_reducible show wpList _ _ _ _ _ _); refine wpList_store_row rfl 51 (.tmp 6) (.tmp 9) rfl (w.heap.size + 1) #[.int .i64 s.id, .string s.nm, .bool s.may, .slice a s.n cap, .int .i64 m, .int .i64 st, .int .i64 ca, .slice a s.n cap, .slice N s.n nc, .int .i64 wr] rfl rfl 51 #[.int .i64 0, .string ⟨#[]⟩, .bool false, .slice none 0 0, .int .i64 0, .int .i64 0, .int .i64 0, .slice none 0 0, .slice none 0 0, .int .i64 0] HR0.out (by rw [size_rp]; rfl) rfl (one_rp _ _ _ _ _ _ _ _ _ _ _ _ _ _ _) ?_))
    refine bodyPost_ret (v := .agg #[.int .i64 s.id, .string s.nm, .bool s.may, .slice a s.n cap, .int .i64 m, .int .i64 st, .int .i64 ca, .slice a s.n cap, .slice N s.n nc, .int .i64 wr]) (results_cell_row (by rfl) _ _ (w.heap.size + 1) 51 _ (0, 0) _ rfl (setRow_heap _ _ _ _ _ _ HR0.out) Try.underlying51 rfl (by rw [size_rp]; rfl)) rfl ⟨N, nc, rfl, ?_, fun y hy => .inr hy, ?_⟩
    · exact nums_row HNU.out _ _ (fun hne y hy => by have := HNN.out hne y hy; omega)
    · exact HB0.out.trans ⟨rfl, rfl, rfl, by simp, fun b hb => setRow_other _ _ _ _ (by omega)⟩
  · rcases hh with rfl | rfl
    · -- warm
      have HS := Lib.hid (rstart_warm a N cap nc s.fs ns s.n wr W0 HCE.out HNU.out HFL.out HNL.out HN.out)
      have x7 := cell_of_row _ _ 7 _ _ _ HX0.out
      have x8 := cell_of_row _ _ 8 _ _ _ HX0.out
      have x9 := cell_of_row _ _ 9 _ _ _ HX0.out
      simp only [List.getElem?_toArray, List.getElem?_cons_zero, List.getElem?_cons_succ] at x7 x8 x9
      go_enter Try.func35, Try.ntmps35
      go_upto_region 1 with fail
      rw [HW0.out]
      go_wp2_with fail
      refine HS.out.mono ?_
      rintro e w2 ⟨N', nc', rfl, hn2, hN2, hb2⟩
      have HX2 := Lib.hid ((hb2.block _ (lt_of_block HX0.out)).trans HX0.out)
      have HR2 := Lib.hid ((hb2.block _ (lt_of_block HR0.out)).trans HR0.out)
      have HB2 := Lib.hid hb2
      have HN2 := Lib.hid hn2
      have HM2 := Lib.hid hN2
      clear hn2 hN2 hb2 x7 x8 x9
      have k7 := row_setP (o := 7) (.slice a s.n cap) HX2.out
      have k8 := row_setP (o := 8) (.slice N' s.n nc') k7
      have HX3 := Lib.hid (row_setP (o := 9) (.int .i64 wr) k8)
      have z7 := cell_of_row _ _ 7 _ _ _ HX2.out
      have z8 := cell_of_row _ _ 8 _ _ _ k7
      have z9 := cell_of_row _ _ 9 _ _ _ k8
      have f7 := frozen_of_row _ _ 7 _ _ HX2.out
      have f8 := frozen_of_row _ _ 8 _ _ k7
      have f9 := frozen_of_row _ _ 9 _ _ k8
      simp only [List.getElem?_toArray, List.getElem?_cons_zero, List.getElem?_cons_succ, List.setIfInBounds_toArray, List.set_cons_zero, List.set_cons_succ] at z7 z8 z9
      clear k7 k8
      go_upto_region 4 with fail
      obtain ⟨w3, hw3⟩ : ∃ W, ((w2.setCell ⟨w.heap.size, 7, none⟩ (.slice a s.n cap)).setCell ⟨w.heap.size, 8, none⟩ (.slice N' s.n nc')).setCell ⟨w.heap.size, 9, none⟩ (.int .i64 wr) = W := ⟨_, rfl⟩
      have hx3 : w3.heap[w.heap.size]? = some (.cells #[.int .i64 s.id, .string s.nm, .bool s.may, .slice a s.n cap, .int .i64 m, .int .i64 st, .int .i64 ca, .slice a s.n cap, .slice N' s.n nc', .int .i64 wr] 51 (0, 0)) := by rw [← hw3]; exact HX3.out
      have hr3 : w3.heap[w.heap.size + 1]? = some (.cells #[.int .i64 0, .string ⟨#[]⟩, .bool false, .slice none 0 0, .int .i64 0, .int .i64 0, .int .i64 0, .slice none 0 0, .slice none 0 0, .int .i64 0] 51 (0, 0)) := by
        rw [← hw3, heap_setCell_other _ _ _ _ (by simp), heap_setCell_other _ _ _ _ (by simp), heap_setCell_other _ _ _ _ (by simp)]; exact HR2.out
      have hne : ∀ y, N' = some y → y.block ≠ w.heap.size := fun y hy => by have := HM2.out y hy; have := HS0.out; omega
      have hn3 : NumsAt w3 N' (startL (fun x => !x.kept) s.fs ns) := by rw [← hw3]; exact nums_cell (nums_cell (nums_cell HN2.out _ _ _ (fun _ => hne)) _ _ _ (fun _ => hne)) _ _ _ (fun _ => hne)
      have hb3 : Below w.heap.size w w3 := by
        rw [← hw3]
        exact ((((HB0.out.trans (HB2.out.mono HB0.out.size)).setCell (by exact Nat.le_refl _) _).setCell (by exact Nat.le_refl _) _).setCell (by exact Nat.le_refl _) _)
      rw [hw3]
      have HX4 := Lib.hid (row_setP (o := 5) (.int .i64 (st + 1)) hx3)
      have HX5 := Lib.hid (row_setP (o := 6) (.int .i64 cause) HX4.out)
      have z5 := cell_of_row _ _ 5 _ _ _ hx3
      have f5 := frozen_of_row _ _ 5 _ _ hx3
      have z6 := cell_of_row _ _ 6 _ _ _ HX4.out
      have f6 := frozen_of_row _ _ 6 _ _ HX4.out
      simp only [List.getElem?_toArray, List.getElem?_cons_zero, List.getElem?_cons_succ, List.setIfInBounds_toArray, List.set_cons_zero, List.set_cons_succ] at z5 z6
      have HR3 := Lib.hid hr3
      have HN3 := Lib.hid hn3
      have HB3 := Lib.hid hb3
      have HNE := Lib.hid hne
      clear hw3 hx3 hr3 hn3 hb3 hne z7 z8 z9 f7 f8 f9 HX2 HR2 HX3 HN2
      go_upto_region 6 with fail
      obtain ⟨w5, hw5⟩ : ∃ W, (w3.setCell ⟨w.heap.size, 5, none⟩ (.int .i64 (st + 1))).setCell ⟨w.heap.size, 6, none⟩ (.int .i64 cause) = W := ⟨_, rfl⟩
      have hx5 : w5.heap[w.heap.size]? = some (.cells #[.int .i64 s.id, .string s.nm, .bool s.may, .slice a s.n cap, .int .i64 m, .int .i64 (st + 1), .int .i64 cause, .slice a s.n cap, .slice N' s.n nc', .int .i64 wr] 51 (0, 0)) := by rw [← hw5]; exact HX5.out
      have hr5 : w5.heap[w.heap.size + 1]? = some (.cells #[.int .i64 0, .string ⟨#[]⟩, .bool false, .slice none 0 0, .int .i64 0, .int .i64 0, .int .i64 0, .slice none 0 0, .slice none 0 0, .int .i64 0] 51 (0, 0)) := by
        rw [← hw5, heap_setCell_other _ _ _ _ (by simp), heap_setCell_other _ _ _ _ (by simp)]; exact HR3.out
      have hn5 : NumsAt w5 N' (startL (fun x => !x.kept) s.fs ns) := by rw [← hw5]; exact nums_cell (nums_cell HN3.out _ _ _ (fun _ => HNE.out)) _ _ _ (fun _ => HNE.out)
      have hb5 : Below w.heap.size w w5 := by
        rw [← hw5]
        exact (HB3.out.setCell (by exact Nat.le_refl _) _).setCell (by exact Nat.le_refl _) _
      rw [hw5]
      have HX6 := Lib.hid hx5
      have HR6 := Lib.hid hr5
      have HN6 := Lib.hid hn5
      have HB6 := Lib.hid hb5
      clear hw5 hx5 hr5 hn5 hb5 z5 z6 f5 f6 HX4 HX5 HR3 HN3 HB3
      go_wp2_with (first
        | ((with_reducible show wpList _ _ _ _ _ _); refine wpList_load_row rfl 51 (.tmp 3) rfl w.heap.size rfl 51 _ (0, 0) _ HX6.out Try.underlying51 rfl (by rw [size_rp]; rfl) ?_)
        | ((with_reducible show wpList _ _ _ _ _ _); refine wpList_store_row rfl 51 (.tmp 6) (.tmp 22) rfl (w.heap.size + 1) #[.int .i64 s.id, .string s.nm, .bool s.may, .slice a s.n cap, .int .i64 m, .int .i64 (st + 1), .int .i64 cause, .slice a s.n cap, .slice N' s.n nc', .int .i64 wr] rfl rfl 51 #[.int .i64 0, .string ⟨#[]⟩, .bool false, .slice none 0 0, .int .i64 0, .int .i64 0, .int .i64 0, .slice none 0 0, .slice none 0 0, .int .i64 0] HR6.out (by rw [size_rp]; rfl) rfl (one_rp _ _ _ _ _ _ _ _ _ _ _ _ _ _ _) ?_))
      refine bodyPost_ret (v := .agg #[.int .i64 s.id, .string s.nm, .bool s.may, .slice a s.n cap, .int .i64 m, .int .i64 (st + 1), .int .i64 cause, .slice a s.n cap, .slice N' s.n nc', .int .i64 wr]) (results_cell_row (by rfl) _ _ (w.heap.size + 1) 51 _ (0, 0) _ rfl (setRow_heap _ _ _ _ _ _ HR6.out) Try.underlying51 rfl (by rw [size_rp]; rfl)) rfl ⟨N', nc', rfl, ?_, fun y hy => .inl (by have := HM2.out y hy; have := HS0.out; omega), ?_⟩
      · exact nums_row HN6.out _ _ (fun _ y hy => by have := HM2.out y hy; have := HS0.out; omega)
      · exact HB6.out.trans ⟨rfl, rfl, rfl, by simp, fun b hb => setRow_other _ _ _ _ (by omega)⟩
    · -- cold
      have HS := Lib.hid (rstart_cold a N cap nc s.fs ns s.n wr W0 HCE.out HNU.out HFL.out HNL.out HN.out)
      have x7 := cell_of_row _ _ 7 _ _ _ HX0.out
      have x8 := cell_of_row _ _ 8 _ _ _ HX0.out
      have x9 := cell_of_row _ _ 9 _ _ _ HX0.out
      simp only [List.getElem?_toArray, List.getElem?_cons_zero, List.getElem?_cons_succ] at x7 x8 x9
      go_enter Try.func35, Try.ntmps35
      go_upto_region 1 with fail
      rw [HW0.out]
      go_wp2_with fail
      refine HS.out.mono ?_
      rintro e w2 ⟨N', nc', rfl, hn2, hN2, hb2⟩
      have HX2 := Lib.hid ((hb2.block _ (lt_of_block HX0.out)).trans HX0.out)
      have HR2 := Lib.hid ((hb2.block _ (lt_of_block HR0.out)).trans HR0.out)
      have HB2 := Lib.hid hb2
      have HN2 := Lib.hid hn2
      have HM2 := Lib.hid hN2
      clear hn2 hN2 hb2 x7 x8 x9
      have k7 := row_setP (o := 7) (.slice a s.n cap) HX2.out
      have k8 := row_setP (o := 8) (.slice N' s.n nc') k7
      have HX3 := Lib.hid (row_setP (o := 9) (.int .i64 0) k8)
      have z7 := cell_of_row _ _ 7 _ _ _ HX2.out
      have z8 := cell_of_row _ _ 8 _ _ _ k7
      have z9 := cell_of_row _ _ 9 _ _ _ k8
      have f7 := frozen_of_row _ _ 7 _ _ HX2.out
      have f8 := frozen_of_row _ _ 8 _ _ k7
      have f9 := frozen_of_row _ _ 9 _ _ k8
      simp only [List.getElem?_toArray, List.getElem?_cons_zero, List.getElem?_cons_succ, List.setIfInBounds_toArray, List.set_cons_zero, List.set_cons_succ] at z7 z8 z9
      clear k7 k8
      go_upto_region 4 with fail
      obtain ⟨w3, hw3⟩ : ∃ W, ((w2.setCell ⟨w.heap.size, 7, none⟩ (.slice a s.n cap)).setCell ⟨w.heap.size, 8, none⟩ (.slice N' s.n nc')).setCell ⟨w.heap.size, 9, none⟩ (.int .i64 0) = W := ⟨_, rfl⟩
      have hx3 : w3.heap[w.heap.size]? = some (.cells #[.int .i64 s.id, .string s.nm, .bool s.may, .slice a s.n cap, .int .i64 m, .int .i64 st, .int .i64 ca, .slice a s.n cap, .slice N' s.n nc', .int .i64 0] 51 (0, 0)) := by rw [← hw3]; exact HX3.out
      have hr3 : w3.heap[w.heap.size + 1]? = some (.cells #[.int .i64 0, .string ⟨#[]⟩, .bool false, .slice none 0 0, .int .i64 0, .int .i64 0, .int .i64 0, .slice none 0 0, .slice none 0 0, .int .i64 0] 51 (0, 0)) := by
        rw [← hw3, heap_setCell_other _ _ _ _ (by simp), heap_setCell_other _ _ _ _ (by simp), heap_setCell_other _ _ _ _ (by simp)]; exact HR2.out
      have hne : ∀ y, N' = some y → y.block ≠ w.heap.size := fun y hy => by have := HM2.out y hy; have := HS0.out; omega
      have hn3 : NumsAt w3 N' (startL (fun _ => true) s.fs ns) := by rw [← hw3]; exact nums_cell (nums_cell (nums_cell HN2.out _ _ _ (fun _ => hne)) _ _ _ (fun _ => hne)) _ _ _ (fun _ => hne)
      have hb3 : Below w.heap.size w w3 := by
        rw [← hw3]
        exact ((((HB0.out.trans (HB2.out.mono HB0.out.size)).setCell (by exact Nat.le_refl _) _).setCell (by exact Nat.le_refl _) _).setCell (by exact Nat.le_refl _) _)
      rw [hw3]
      have HX4 := Lib.hid (row_setP (o := 5) (.int .i64 (st + 1)) hx3)
      have HX5 := Lib.hid (row_setP (o := 6) (.int .i64 cause) HX4.out)
      have z5 := cell_of_row _ _ 5 _ _ _ hx3
      have f5 := frozen_of_row _ _ 5 _ _ hx3
      have z6 := cell_of_row _ _ 6 _ _ _ HX4.out
      have f6 := frozen_of_row _ _ 6 _ _ HX4.out
      simp only [List.getElem?_toArray, List.getElem?_cons_zero, List.getElem?_cons_succ, List.setIfInBounds_toArray, List.set_cons_zero, List.set_cons_succ] at z5 z6
      have HR3 := Lib.hid hr3
      have HN3 := Lib.hid hn3
      have HB3 := Lib.hid hb3
      have HNE := Lib.hid hne
      clear hw3 hx3 hr3 hn3 hb3 hne z7 z8 z9 f7 f8 f9 HX2 HR2 HX3 HN2
      go_upto_region 6 with fail
      obtain ⟨w5, hw5⟩ : ∃ W, (w3.setCell ⟨w.heap.size, 5, none⟩ (.int .i64 (st + 1))).setCell ⟨w.heap.size, 6, none⟩ (.int .i64 cause) = W := ⟨_, rfl⟩
      have hx5 : w5.heap[w.heap.size]? = some (.cells #[.int .i64 s.id, .string s.nm, .bool s.may, .slice a s.n cap, .int .i64 m, .int .i64 (st + 1), .int .i64 cause, .slice a s.n cap, .slice N' s.n nc', .int .i64 0] 51 (0, 0)) := by rw [← hw5]; exact HX5.out
      have hr5 : w5.heap[w.heap.size + 1]? = some (.cells #[.int .i64 0, .string ⟨#[]⟩, .bool false, .slice none 0 0, .int .i64 0, .int .i64 0, .int .i64 0, .slice none 0 0, .slice none 0 0, .int .i64 0] 51 (0, 0)) := by
        rw [← hw5, heap_setCell_other _ _ _ _ (by simp), heap_setCell_other _ _ _ _ (by simp)]; exact HR3.out
      have hn5 : NumsAt w5 N' (startL (fun _ => true) s.fs ns) := by rw [← hw5]; exact nums_cell (nums_cell HN3.out _ _ _ (fun _ => HNE.out)) _ _ _ (fun _ => HNE.out)
      have hb5 : Below w.heap.size w w5 := by
        rw [← hw5]
        exact (HB3.out.setCell (by exact Nat.le_refl _) _).setCell (by exact Nat.le_refl _) _
      rw [hw5]
      have HX6 := Lib.hid hx5
      have HR6 := Lib.hid hr5
      have HN6 := Lib.hid hn5
      have HB6 := Lib.hid hb5
      clear hw5 hx5 hr5 hn5 hb5 z5 z6 f5 f6 HX4 HX5 HR3 HN3 HB3
      go_wp2_with (first
        | ((with_reducible show wpList _ _ _ _ _ _); refine wpList_load_row rfl 51 (.tmp 3) rfl w.heap.size rfl 51 _ (0, 0) _ HX6.out Try.underlying51 rfl (by rw [size_rp]; rfl) ?_)
        | ((with_reducible show wpList _ _ _ _ _ _); refine wpList_store_row rfl 51 (.tmp 6) (.tmp 22) rfl (w.heap.size + 1) #[.int .i64 s.id, .string s.nm, .bool s.may, .slice a s.n cap, .int .i64 m, .int .i64 (st + 1), .int .i64 cause, .slice a s.n cap, .slice N' s.n nc', .int .i64 0] rfl rfl 51 #[.int .i64 0, .string ⟨#[]⟩, .bool false, .slice none 0 0, .int .i64 0, .int .i64 0, .int .i64 0, .slice none 0 0, .slice none 0 0, .int .i64 0] HR6.out (by rw [size_rp]; rfl) rfl (one_rp _ _ _ _ _ _ _ _ _ _ _ _ _ _ _) ?_))
      refine bodyPost_ret (v := .agg #[.int .i64 s.id, .string s.nm, .bool s.may, .slice a s.n cap, .int .i64 m, .int .i64 (st + 1), .int .i64 cause, .slice a s.n cap, .slice N' s.n nc', .int .i64 0]) (results_cell_row (by rfl) _ _ (w.heap.size + 1) 51 _ (0, 0) _ rfl (setRow_heap _ _ _ _ _ _ HR6.out) Try.underlying51 rfl (by rw [size_rp]; rfl)) rfl ⟨N', nc', rfl, ?_, fun y hy => .inl (by have := HM2.out y hy; have := HS0.out; omega), ?_⟩
      · exact nums_row HN6.out _ _ (fun _ y hy => by have := HM2.out y hy; have := HS0.out; omega)
      · exact HB6.out.trans ⟨rfl, rfl, rfl, by simp, fun b hb => setRow_other _ _ _ _ (by omega)⟩
set_option maxRecDepth 4000 in
set_option maxHeartbeats 1600000 in
theorem rsetmode_any (w : World) (hx : NumsAt w N ns) (hnl : ns.length = s.n) (hn : s.n ≤ 1000)  (hfl : s.fs.length = s.n) (hf : CellsAt w a s.fs) (hst : 0 ≤ st ∧ st ≤ 1000000) (want : Int) :
    Calls Try.prog 14 #[.agg #[.int .i64 s.id, .string s.nm, .bool s.may, .slice a s.n cap, .int .i64 m, .int .i64 st, .int .i64 ca, .slice a s.n cap, .slice N s.n nc, .int .i64 wr], .int .i64 want] w (RP s a cap N (setM m want) (goN (setS m want) st) (goC (setS m want) 1 ca) (goL (setS m want) s.fs ns) (goW (setS m want) wr) (fun v => .tuple #[v, .int .i64 (askN m want)]) w) := by
  obtain ⟨W0, hW0⟩ : ∃ W, (w.alloc (.cells #[.int .i64 s.id, .string s.nm, .bool s.may, .slice a s.n cap, .int .i64 m, .int .i64 st, .int .i64 ca, .slice a s.n cap, .slice N s.n nc, .int .i64 wr] 51)).alloc (.cells #[.int .i64 0, .string ⟨#[]⟩, .bool false, .slice none 0 0, .int .i64 0, .int .i64 0, .int .i64 0, .slice none 0 0, .slice none 0 0, .int .i64 0] 51) = W := ⟨_, rfl⟩
  have hb0 : Below w.heap.size w W0 := by rw [← hW0]; exact ((Below.refl _ _).alloc (Nat.le_refl _) _).alloc (by simp) _
  have hs0 : W0.heap.size = w.heap.size + 2 := by rw [← hW0]; simp
  have hx0 : W0.heap[w.heap.size]? = some (.cells #[.int .i64 s.id, .string s.nm, .bool s.may, .slice a s.n cap, .int .i64 m, .int .i64 st, .int .i64 ca, .slice a s.n cap, .slice N s.n nc, .int .i64 wr] 51 (0, 0)) := by
    rw [← hW0, heap_alloc_old _ _ (by simp)]; exact heap_alloc_new _ _
  have hr0 : W0.heap[w.heap.size + 1]? = some (.cells #[.int .i64 0, .string ⟨#[]⟩, .bool false, .slice none 0 0, .int .i64 0, .int .i64 0, .int .i64 0, .slice none 0 0, .slice none 0 0, .int .i64 0] 51 (0, 0)) := by
    rw [← hW0]
    have := heap_alloc_new (w.alloc (.cells #[.int .i64 s.id, .string s.nm, .bool s.may, .slice a s.n cap, .int .i64 m, .int .i64 st, .int .i64 ca, .slice a s.n cap, .slice N s.n nc, .int .i64 wr] 51)) (.cells #[.int .i64 0, .string ⟨#[]⟩, .bool false, .slice none 0 0, .int .i64 0, .int .i64 0, .int .i64 0, .slice none 0 0, .slice none 0 0, .int .i64 0] 51)
    simpa using this
  have hnu := hx.kept hb0
  have HW0 := Lib.hid hW0
  have HB0 := Lib.hid hb0
  have HS0 := Lib.hid hs0
  have HX0 := Lib.hid hx0
  have HR0 := Lib.hid hr0
  have HNU := Lib.hid hnu
  clear hW0 hb0 hs0 hx0 hr0 hnu
  have HFW := Lib.hid hf
  have HXW := Lib.hid hx
  have HNL := Lib.hid hnl
  have HFL := Lib.hid hfl
  have HN : Hid (s.n ≤ 1000) := hn
  have HNN : Hid (ns ≠ [] → ∀ y, N = some y → y.block < w.heap.size) := NumsAt.lt hx
  have HST : Hid (0 ≤ st ∧ st ≤ 1000000) := hst
  have HSM := Lib.hid (Go.Proofs.Ytjdgpbjjhgfikaa.Mod.rset_any m want W0)
  have HHH : Hid (setS m want = 0 ∨ setS m want = 1 ∨ setS m want = 2) := by unfold setS startN; show _ ∨ _; split <;> (try split) <;> (try split) <;> simp
  have HNO : Hid (askN m want ≠ 0 → setM m want = m ∧ setS m want = 0) := setM_no
  obtain ⟨M, hM⟩ : ∃ x, setM m want = x := ⟨_, rfl⟩
  obtain ⟨Q, hQ⟩ : ∃ x, setS m want = x := ⟨_, rfl⟩
  obtain ⟨k, hk⟩ : ∃ x, askN m want = x := ⟨_, rfl⟩
  rw [hM, hQ, hk] at HSM HNO
  rw [hQ] at HHH
  rw [hM, hQ, hk]
  have x4 := cell_of_row _ _ 4 _ _ _ HX0.out
  simp only [List.getElem?_toArray, List.getElem?_cons_zero, List.getElem?_cons_succ] at x4
  clear hx hnl hn hfl hf hst hM hQ hk
  go_enter Try.func14, Try.ntmps14
  go_upto_region 1 with fail
  rw [HW0.out]
  go_wp2_with fail
  refine HSM.out.mono ?_
  rintro e w2 ⟨rfl, hb2⟩
  have HX2 := Lib.hid ((hb2.block _ (lt_of_block HX0.out)).trans HX0.out)
  have HR2 := Lib.hid ((hb2.block _ (lt_of_block HR0.out)).trans HR0.out)
  have HB2 := Lib.hid (HB0.out.trans (hb2.mono HB0.out.size))
  have HS2 : Hid (w.heap.size + 2 ≤ w2.heap.size) := by have := hb2.size; have := HS0.out; show _ ≤ _; omega
  clear hb2 x4 HSM
  by_cases h0 : k = 0
  · subst h0
    have z4 := cell_of_row _ _ 4 _ _ _ HX2.out
    simp only [List.getElem?_toArray, List.getElem?_cons_zero, List.getElem?_cons_succ] at z4
    have f4 := frozen_of_row _ _ 4 _ _ HX2.out
    have hx3 : (w2.setCell ⟨w.heap.size, 4, none⟩ (.int .i64 M)).heap[w.heap.size]? = some (.cells #[.int .i64 s.id, .string s.nm, .bool s.may, .slice a s.n cap, .int .i64 M, .int .i64 st, .int .i64 ca, .slice a s.n cap, .slice N s.n nc, .int .i64 wr] 51 (0, 0)) := row_setP (o := 4) (.int .i64 M) HX2.out
    have hr3 : (w2.setCell ⟨w.heap.size, 4, none⟩ (.int .i64 M)).heap[w.heap.size + 1]? = some (.cells #[.int .i64 0, .string ⟨#[]⟩, .bool false, .slice none 0 0, .int .i64 0, .int .i64 0, .int .i64 0, .slice none 0 0, .slice none 0 0, .int .i64 0] 51 (0, 0)) := (heap_setCell_other _ _ _ _ (by simp)).trans HR2.out
    have hb3 : Below w.heap.size w (w2.setCell ⟨w.heap.size, 4, none⟩ (.int .i64 M)) := HB2.out.setCell (by exact Nat.le_refl _) _
    have hs3 : w.heap.size + 2 ≤ (w2.setCell ⟨w.heap.size, 4, none⟩ (.int .i64 M)).heap.size := by have := HS2.out; simp; omega
    go_upto_region 5 with fail
    obtain ⟨w3, hw3⟩ : ∃ W, w2.setCell ⟨w.heap.size, 4, none⟩ (.int .i64 M) = W := ⟨_, rfl⟩
    rw [hw3] at hx3 hr3 hb3 hs3
    rw [hw3]
    have HX3 := Lib.hid hx3
    have HR3 := Lib.hid hr3
    have HB3 := Lib.hid hb3
    have HS3 : Hid (w.heap.size + 2 ≤ w3.heap.size) := hs3
    have HSTART := Lib.hid (rstart_any (s := s) (a := a) (cap := cap) (N := N) (nc := nc) (m := M) (st := st) (ca := ca) (ns := ns) (wr := wr) w3 (HXW.out.kept HB3.out) HNL.out HN.out HFL.out (HFW.out.kept HB3.out) HST.out Q 1 HHH.out)
    clear hx3 hr3 hb3 hs3 hw3 z4 f4 HX2 HR2 HB2 HS2
    go_wp2_with ((with_reducible show wpList _ _ _ _ _ _); refine wpList_load_row rfl 51 (.tmp 2) rfl w.heap.size rfl 51 _ (0, 0) _ HX3.out Try.underlying51 rfl (by rw [size_rp]; rfl) ?_)
    refine HSTART.out.mono ?_
    rintro e w4 ⟨N', nc', rfl, hn4, hN4, hb4⟩
    have HR4 := Lib.hid ((hb4.block _ (lt_of_block HR3.out)).trans HR3.out)
    have HB4 := Lib.hid (HB3.out.trans (hb4.mono HB3.out.size))
    have HN4 := Lib.hid hn4
    have HM4 : Hid (∀ y, N' = some y → w3.heap.size ≤ y.block ∨ N = some y) := hN4
    clear hn4 hN4 hb4 HSTART
    go_wp2_with ((with_reducible show wpList _ _ _ _ _ _); refine wpList_store_row rfl 51 (.tmp 4) (.tmp 25) rfl (w.heap.size + 1) #[.int .i64 s.id, .string s.nm, .bool s.may, .slice a s.n cap, .int .i64 M, .int .i64 (goN Q st), .int .i64 (goC Q 1 ca), .slice a s.n cap, .slice N' s.n nc', .int .i64 (goW Q wr)] rfl rfl 51 #[.int .i64 0, .string ⟨#[]⟩, .bool false, .slice none 0 0, .int .i64 0, .int .i64 0, .int .i64 0, .slice none 0 0, .slice none 0 0, .int .i64 0] HR4.out (by rw [size_rp]; rfl) rfl (one_rp _ _ _ _ _ _ _ _ _ _ _ _ _ _ _) ?_)
    refine bodyPost_ret (v := .tuple #[.agg #[.int .i64 s.id, .string s.nm, .bool s.may, .slice a s.n cap, .int .i64 M, .int .i64 (goN Q st), .int .i64 (goC Q 1 ca), .slice a s.n cap, .slice N' s.n nc', .int .i64 (goW Q wr)], .int .i64 0]) (results_row_tmpC Try.results14 _ _ (w.heap.size + 1) 51 _ (0, 0) _ rfl (setRow_heap _ _ _ _ _ _ HR4.out) Try.underlying51 rfl (by rw [size_rp]; rfl)) rfl ⟨N', nc', rfl, ?_, fun y hy => ?_, ?_⟩
    · exact nums_row HN4.out _ _ (fun hne y hy => by
        have := HS3.out
        rcases HM4.out y hy with h | h
        · omega
        · have := HNN.out (goL_ne hne) y h; omega)
    · rcases HM4.out y hy with h | h
      · left; have := HS3.out; omega
      · exact .inr h
    · exact HB4.out.trans ⟨rfl, rfl, rfl, by simp, fun b hb => setRow_other _ _ _ _ (by omega)⟩
  · obtain ⟨e1, e2⟩ := HNO.out h0
    have t0 : (k != 0) = true := by simp [h0]
    subst e1 e2
    clear h0
    go_wp2_with (first
      | ((with_reducible show wpList _ _ _ _ _ _); refine wpList_load_row rfl 51 (.tmp 2) rfl w.heap.size rfl 51 _ (0, 0) _ HX2.out Try.underlying51 rfl (by rw [size_rp]; rfl) ?_)
      | ((with_reducible show wpList _ _ _ _ _ _); refine wpList_store_row rfl 51 (.tmp 4) (.tmp 19) rfl (w.heap.size + 1) #[.int .i64 s.id, .string s.nm, .bool s.may, .slice a s.n cap, .int .i64 M, .int .i64 st, .int .i64 ca, .slice a s.n cap, .slice N s.n nc, .int .i64 wr] rfl rfl 51 #[.int .i64 0, .string ⟨#[]⟩, .bool false, .slice none 0 0, .int .i64 0, .int .i64 0, .int .i64 0, .slice none 0 0, .slice none 0 0, .int .i64 0] HR2.out (by rw [size_rp]; rfl) rfl (one_rp _ _ _ _ _ _ _ _ _ _ _ _ _ _ _) ?_))
    refine bodyPost_ret (v := .tuple #[.agg #[.int .i64 s.id, .string s.nm, .bool s.may, .slice a s.n cap, .int .i64 M, .int .i64 st, .int .i64 ca, .slice a s.n cap, .slice N s.n nc, .int .i64 wr], .int .i64 k]) (results_row_tmpC Try.results14 _ _ (w.heap.size + 1) 51 _ (0, 0) _ rfl (setRow_heap _ _ _ _ _ _ HR2.out) Try.underlying51 rfl (by rw [size_rp]; rfl)) rfl ⟨N, nc, rfl, ?_, fun y hy => .inr hy, ?_⟩
    · exact nums_row (HXW.out.kept HB2.out) _ _ (fun hne y hy => by have := HNN.out hne y hy; omega)
    · exact HB2.out.trans ⟨rfl, rfl, rfl, by simp, fun b hb => setRow_other _ _ _ _ (by omega)⟩
theorem ract_any2 (now act : Int) (w : World) :
    Calls Try.prog 65 #[.int .i64 now, .int .i64 act] w fun e w' => e = .returned (.tuple #[.int .i64 (actM now act), .int .i64 (actS now act), .int .i64 (actN act)]) ∧ Below w.heap.size w w' := by
  have h := Go.Proofs.Ytjdgpbjjhgfikaa.Mod.ract_any now act w
  have e1 : (if actN act = 0 then actM now act else now) = actM now act := by unfold actN actM; split <;> split <;> (try rfl) <;> omega
  have e2 : (if actN act = 0 then actS now act else 0) = actS now act := by unfold actN actS; split <;> split <;> (try rfl) <;> omega
  rw [e1, e2] at h
  refine h.mono ?_
  rintro e w' ⟨rfl, rfl⟩
  exact ⟨rfl, Below.refl _ _⟩
theorem actS_in (m act : Int) : actS m act = 0 ∨ actS m act = 1 ∨ actS m act = 2 := by unfold actS; split <;> (try split) <;> (try split) <;> simp
theorem actS_no {m act : Int} (h : actS m act = 0) : actM m act = m := by
  unfold actS at h
  unfold actM
  by_cases h1 : m < 1 ∨ 3 < m
  · rw [if_pos h1]
  · rw [if_neg h1] at h ⊢
    by_cases a1 : act = 1
    · rw [if_pos a1] at h; omega
    · rw [if_neg a1] at h ⊢
      by_cases a2 : act = 2
      · rw [if_pos a2] at h; omega
      · rw [if_neg a2]
set_option maxRecDepth 4000 in
set_option maxHeartbeats 1600000 in
theorem ract_any (w : World) (hx : NumsAt w N ns) (hnl : ns.length = s.n) (hn : s.n ≤ 1000)  (hfl : s.fs.length = s.n) (hf : CellsAt w a s.fs) (hst : 0 ≤ st ∧ st ≤ 1000000) (act : Int) :
    Calls Try.prog 43 #[.agg #[.int .i64 s.id, .string s.nm, .bool s.may, .slice a s.n cap, .int .i64 m, .int .i64 st, .int .i64 ca, .slice a s.n cap, .slice N s.n nc, .int .i64 wr], .int .i64 act] w (RP s a cap N (actM m act) (goN (actS m act) st) (goC (actS m act) 2 ca) (goL (actS m act) s.fs ns) (goW (actS m act) wr) (fun v => .tuple #[v, .bool (goes (actS m act))]) w) := by
  obtain ⟨W0, hW0⟩ : ∃ W, (w.alloc (.cells #[.int .i64 s.id, .string s.nm, .bool s.may, .slice a s.n cap, .int .i64 m, .int .i64 st, .int .i64 ca, .slice a s.n cap, .slice N s.n nc, .int .i64 wr] 51)).alloc (.cells #[.int .i64 0, .string ⟨#[]⟩, .bool false, .slice none 0 0, .int .i64 0, .int .i64 0, .int .i64 0, .slice none 0 0, .slice none 0 0, .int .i64 0] 51) = W := ⟨_, rfl⟩
  have hb0 : Below w.heap.size w W0 := by rw [← hW0]; exact ((Below.refl _ _).alloc (Nat.le_refl _) _).alloc (by simp) _
  have hs0 : W0.heap.size = w.heap.size + 2 := by rw [← hW0]; simp
  have hx0 : W0.heap[w.heap.size]? = some (.cells #[.int .i64 s.id, .string s.nm, .bool s.may, .slice a s.n cap, .int .i64 m, .int .i64 st, .int .i64 ca, .slice a s.n cap, .slice N s.n nc, .int .i64 wr] 51 (0, 0)) := by
    rw [← hW0, heap_alloc_old _ _ (by simp)]; exact heap_alloc_new _ _
  have hr0 : W0.heap[w.heap.size + 1]? = some (.cells #[.int .i64 0, .string ⟨#[]⟩, .bool false, .slice none 0 0, .int .i64 0, .int .i64 0, .int .i64 0, .slice none 0 0, .slice none 0 0, .int .i64 0] 51 (0, 0)) := by
    rw [← hW0]
    have := heap_alloc_new (w.alloc (.cells #[.int .i64 s.id, .string s.nm, .bool s.may, .slice a s.n cap, .int .i64 m, .int .i64 st, .int .i64 ca, .slice a s.n cap, .slice N s.n nc, .int .i64 wr] 51)) (.cells #[.int .i64 0, .string ⟨#[]⟩, .bool false, .slice none 0 0, .int .i64 0, .int .i64 0, .int .i64 0, .slice none 0 0, .slice none 0 0, .int .i64 0] 51)
    simpa using this
  have hnu := hx.kept hb0
  have HW0 := Lib.hid hW0
  have HB0 := Lib.hid hb0
  have HS0 := Lib.hid hs0
  have HX0 := Lib.hid hx0
  have HR0 := Lib.hid hr0
  have HNU := Lib.hid hnu
  clear hW0 hb0 hs0 hx0 hr0 hnu
  have HFW := Lib.hid hf
  have HXW := Lib.hid hx
  have HNL := Lib.hid hnl
  have HFL := Lib.hid hfl
  have HN : Hid (s.n ≤ 1000) := hn
  have HNN : Hid (ns ≠ [] → ∀ y, N = some y → y.block < w.heap.size) := NumsAt.lt hx
  have HST : Hid (0 ≤ st ∧ st ≤ 1000000) := hst
  have HSM := Lib.hid (ract_any2 m act W0)
  have HHH : Hid (actS m act = 0 ∨ actS m act = 1 ∨ actS m act = 2) := actS_in m act
  have HNO : Hid (actS m act = 0 → actM m act = m) := actS_no
  obtain ⟨M, hM⟩ : ∃ x, actM m act = x := ⟨_, rfl⟩
  obtain ⟨Q, hQ⟩ : ∃ x, actS m act = x := ⟨_, rfl⟩
  obtain ⟨k, hk⟩ : ∃ x, actN act = x := ⟨_, rfl⟩
  rw [hM, hQ, hk] at HSM
  rw [hM, hQ] at HNO
  rw [hQ] at HHH
  rw [hM, hQ]
  obtain ⟨gb, hgb⟩ : ∃ b, goes Q = b := ⟨_, rfl⟩
  rw [hgb]
  have HGB : Hid (gb = true ↔ Q ≠ 0) := by
    show _ ↔ _
    rw [← hgb]; unfold goes; rw [decide_eq_true_iff]
    have := HHH.out
    omega
  clear hgb
  have x4 := cell_of_row _ _ 4 _ _ _ HX0.out
  simp only [List.getElem?_toArray, List.getElem?_cons_zero, List.getElem?_cons_succ] at x4
  clear hx hnl hn hfl hf hst hM hQ hk
  go_enter Try.func43, Try.ntmps43
  go_upto_region 1 with fail
  rw [HW0.out]
  go_wp2_with fail
  refine HSM.out.mono ?_
  rintro e w2 ⟨rfl, hb2⟩
  have HX2 := Lib.hid ((hb2.block _ (lt_of_block HX0.out)).trans HX0.out)
  have HR2 := Lib.hid ((hb2.block _ (lt_of_block HR0.out)).trans HR0.out)
  have HB2 := Lib.hid (HB0.out.trans (hb2.mono HB0.out.size))
  have HS2 : Hid (w.heap.size + 2 ≤ w2.heap.size) := by have := hb2.size; have := HS0.out; show _ ≤ _; omega
  clear hb2 x4 HSM
  by_cases h0 : Q ≠ 0
  · have t0 : (Q == 0) = false := by simp [h0]
    have hgb := HGB.out.2 h0
    subst hgb
    clear h0
    have z4 := cell_of_row _ _ 4 _ _ _ HX2.out
    simp only [List.getElem?_toArray, List.getElem?_cons_zero, List.getElem?_cons_succ] at z4
    have f4 := frozen_of_row _ _ 4 _ _ HX2.out
    have hx3 : (w2.setCell ⟨w.heap.size, 4, none⟩ (.int .i64 M)).heap[w.heap.size]? = some (.cells #[.int .i64 s.id, .string s.nm, .bool s.may, .slice a s.n cap, .int .i64 M, .int .i64 st, .int .i64 ca, .slice a s.n cap, .slice N s.n nc, .int .i64 wr] 51 (0, 0)) := row_setP (o := 4) (.int .i64 M) HX2.out
    have hr3 : (w2.setCell ⟨w.heap.size, 4, none⟩ (.int .i64 M)).heap[w.heap.size + 1]? = some (.cells #[.int .i64 0, .string ⟨#[]⟩, .bool false, .slice none 0 0, .int .i64 0, .int .i64 0, .int .i64 0, .slice none 0 0, .slice none 0 0, .int .i64 0] 51 (0, 0)) := (heap_setCell_other _ _ _ _ (by simp)).trans HR2.out
    have hb3 : Below w.heap.size w (w2.setCell ⟨w.heap.size, 4, none⟩ (.int .i64 M)) := HB2.out.setCell (by exact Nat.le_refl _) _
    have hs3 : w.heap.size + 2 ≤ (w2.setCell ⟨w.heap.size, 4, none⟩ (.int .i64 M)).heap.size := by have := HS2.out; simp; omega
    go_upto_region 5 with fail
    obtain ⟨w3, hw3⟩ : ∃ W, w2.setCell ⟨w.heap.size, 4, none⟩ (.int .i64 M) = W := ⟨_, rfl⟩
    rw [hw3] at hx3 hr3 hb3 hs3
    rw [hw3]
    have HX3 := Lib.hid hx3
    have HR3 := Lib.hid hr3
    have HB3 := Lib.hid hb3
    have HS3 : Hid (w.heap.size + 2 ≤ w3.heap.size) := hs3
    have HSTART := Lib.hid (rstart_any (s := s) (a := a) (cap := cap) (N := N) (nc := nc) (m := M) (st := st) (ca := ca) (ns := ns) (wr := wr) w3 (HXW.out.kept HB3.out) HNL.out HN.out HFL.out (HFW.out.kept HB3.out) HST.out Q 2 HHH.out)
    clear hx3 hr3 hb3 hs3 hw3 z4 f4 HX2 HR2 HB2 HS2
    go_wp2_with ((with_reducible show wpList _ _ _ _ _ _); refine wpList_load_row rfl 51 (.tmp 2) rfl w.heap.size rfl 51 _ (0, 0) _ HX3.out Try.underlying51 rfl (by rw [size_rp]; rfl) ?_)
    refine HSTART.out.mono ?_
    rintro e w4 ⟨N', nc', rfl, hn4, hN4, hb4⟩
    have HR4 := Lib.hid ((hb4.block _ (lt_of_block HR3.out)).trans HR3.out)
    have HB4 := Lib.hid (HB3.out.trans (hb4.mono HB3.out.size))
    have HN4 := Lib.hid hn4
    have HM4 : Hid (∀ y, N' = some y → w3.heap.size ≤ y.block ∨ N = some y) := hN4
    clear hn4 hN4 hb4 HSTART
    go_wp2_with ((with_reducible show wpList _ _ _ _ _ _); refine wpList_store_row rfl 51 (.tmp 4) (.tmp 24) rfl (w.heap.size + 1) #[.int .i64 s.id, .string s.nm, .bool s.may, .slice a s.n cap, .int .i64 M, .int .i64 (goN Q st), .int .i64 (goC Q 2 ca), .slice a s.n cap, .slice N' s.n nc', .int .i64 (goW Q wr)] rfl rfl 51 #[.int .i64 0, .string ⟨#[]⟩, .bool false, .slice none 0 0, .int .i64 0, .int .i64 0, .int .i64 0, .slice none 0 0, .slice none 0 0, .int .i64 0] HR4.out (by rw [size_rp]; rfl) rfl (one_rp _ _ _ _ _ _ _ _ _ _ _ _ _ _ _) ?_)
    refine bodyPost_ret (v := .tuple #[.agg #[.int .i64 s.id, .string s.nm, .bool s.may, .slice a s.n cap, .int .i64 M, .int .i64 (goN Q st), .int .i64 (goC Q 2 ca), .slice a s.n cap, .slice N' s.n nc', .int .i64 (goW Q wr)], .bool true]) (results_row_tmpC Try.results43 _ _ (w.heap.size + 1) 51 _ (0, 0) _ rfl (setRow_heap _ _ _ _ _ _ HR4.out) Try.underlying51 rfl (by rw [size_rp]; rfl)) rfl ⟨N', nc', rfl, ?_, fun y hy => ?_, ?_⟩
    · exact nums_row HN4.out _ _ (fun hne y hy => by
        have := HS3.out
        rcases HM4.out y hy with h | h
        · omega
        · have := HNN.out (goL_ne hne) y h; omega)
    · rcases HM4.out y hy with h | h
      · left; have := HS3.out; omega
      · exact .inr h
    · exact HB4.out.trans ⟨rfl, rfl, rfl, by simp, fun b hb => setRow_other _ _ _ _ (by omega)⟩
  · have h1 : Q = 0 := by omega
    have e1 := HNO.out h1
    have hgb : gb = false := by
      cases hq : gb with
      | false => rfl
      | true => exact absurd h1 (HGB.out.1 hq)
    subst e1 h1 hgb
    clear h0
    go_wp2_with (first
      | ((with_reducible show wpList _ _ _ _ _ _); refine wpList_load_row rfl 51 (.tmp 2) rfl w.heap.size rfl 51 _ (0, 0) _ HX2.out Try.underlying51 rfl (by rw [size_rp]; rfl) ?_)
      | ((with_reducible show wpList _ _ _ _ _ _); refine wpList_store_row rfl 51 (.tmp 4) (.tmp 19) rfl (w.heap.size + 1) #[.int .i64 s.id, .string s.nm, .bool s.may, .slice a s.n cap, .int .i64 M, .int .i64 st, .int .i64 ca, .slice a s.n cap, .slice N s.n nc, .int .i64 wr] rfl rfl 51 #[.int .i64 0, .string ⟨#[]⟩, .bool false, .slice none 0 0, .int .i64 0, .int .i64 0, .int .i64 0, .slice none 0 0, .slice none 0 0, .int .i64 0] HR2.out (by rw [size_rp]; rfl) rfl (one_rp _ _ _ _ _ _ _ _ _ _ _ _ _ _ _) ?_))
    refine bodyPost_ret (v := .tuple #[.agg #[.int .i64 s.id, .string s.nm, .bool s.may, .slice a s.n cap, .int .i64 M, .int .i64 st, .int .i64 ca, .slice a s.n cap, .slice N s.n nc, .int .i64 wr], .bool false]) (results_row_tmpC Try.results43 _ _ (w.heap.size + 1) 51 _ (0, 0) _ rfl (setRow_heap _ _ _ _ _ _ HR2.out) Try.underlying51 rfl (by rw [size_rp]; rfl)) rfl ⟨N, nc, rfl, ?_, fun y hy => .inr hy, ?_⟩
    · exact nums_row (HXW.out.kept HB2.out) _ _ (fun hne y hy => by have := HNN.out hne y hy; omega)
    · exact HB2.out.trans ⟨rfl, rfl, rfl, by simp, fun b hb => setRow_other _ _ _ _ (by omega)⟩
theorem cell_yes {m : Int} {n : Nat} {i : Int} (h : cellK m n i = 0) (v : Nat) (ns : List Nat) (wr : Int) : wL m n i v ns = setN n i v ns ∧ wW m n i wr = setW n i wr := by
  unfold cellK at h
  unfold wL wW
  by_cases h0 : m = 0
  · rw [if_pos h0] at h; omega
  · rw [if_neg h0, if_neg h0]; exact ⟨rfl, rfl⟩
theorem cell_no {m : Int} {n : Nat} {i : Int} (h : cellK m n i ≠ 0) (v : Nat) (ns : List Nat) (wr : Int) : wL m n i v ns = ns ∧ wW m n i wr = wr := by
  unfold cellK at h
  unfold wL wW
  by_cases h0 : m = 0
  · rw [if_pos h0, if_pos h0]; exact ⟨rfl, rfl⟩
  · rw [if_neg h0] at h
    rw [if_neg h0, if_neg h0]
    cases hb : inB n i with
    | true => rw [hb] at h; exact absurd rfl h
    | false => unfold setN setW; rw [hb]; exact ⟨rfl, rfl⟩
set_option maxRecDepth 4000 in
set_option maxHeartbeats 1600000 in
theorem rwrite_any (w : World) (hx : NumsAt w N ns) (hnl : ns.length = s.n) (hn : s.n ≤ 1000)  (hw : 0 ≤ wr ∧ wr ≤ 1000000) (i : Int) (v : Nat) :
    Calls Try.prog 17 #[.agg #[.int .i64 s.id, .string s.nm, .bool s.may, .slice a s.n cap, .int .i64 m, .int .i64 st, .int .i64 ca, .slice a s.n cap, .slice N s.n nc, .int .i64 wr], .int .i64 i, .int .u32 (v : Int)] w (RP s a cap N m st ca (wL m s.n i v ns) (wW m s.n i wr) (fun v => .tuple #[v, .int .i64 (cellK m s.n i)]) w) := by
  obtain ⟨W0, hW0⟩ : ∃ W, (w.alloc (.cells #[.int .i64 s.id, .string s.nm, .bool s.may, .slice a s.n cap, .int .i64 m, .int .i64 st, .int .i64 ca, .slice a s.n cap, .slice N s.n nc, .int .i64 wr] 51)).alloc (.cells #[.int .i64 0, .string ⟨#[]⟩, .bool false, .slice none 0 0, .int .i64 0, .int .i64 0, .int .i64 0, .slice none 0 0, .slice none 0 0, .int .i64 0] 51) = W := ⟨_, rfl⟩
  have hb0 : Below w.heap.size w W0 := by rw [← hW0]; exact ((Below.refl _ _).alloc (Nat.le_refl _) _).alloc (by simp) _
  have hs0 : W0.heap.size = w.heap.size + 2 := by rw [← hW0]; simp
  have hx0 : W0.heap[w.heap.size]? = some (.cells #[.int .i64 s.id, .string s.nm, .bool s.may, .slice a s.n cap, .int .i64 m, .int .i64 st, .int .i64 ca, .slice a s.n cap, .slice N s.n nc, .int .i64 wr] 51 (0, 0)) := by
    rw [← hW0, heap_alloc_old _ _ (by simp)]; exact heap_alloc_new _ _
  have hr0 : W0.heap[w.heap.size + 1]? = some (.cells #[.int .i64 0, .string ⟨#[]⟩, .bool false, .slice none 0 0, .int .i64 0, .int .i64 0, .int .i64 0, .slice none 0 0, .slice none 0 0, .int .i64 0] 51 (0, 0)) := by
    rw [← hW0]
    have := heap_alloc_new (w.alloc (.cells #[.int .i64 s.id, .string s.nm, .bool s.may, .slice a s.n cap, .int .i64 m, .int .i64 st, .int .i64 ca, .slice a s.n cap, .slice N s.n nc, .int .i64 wr] 51)) (.cells #[.int .i64 0, .string ⟨#[]⟩, .bool false, .slice none 0 0, .int .i64 0, .int .i64 0, .int .i64 0, .slice none 0 0, .slice none 0 0, .int .i64 0] 51)
    simpa using this
  have hnu := hx.kept hb0
  have HW0 := Lib.hid hW0
  have HB0 := Lib.hid hb0
  have HS0 := Lib.hid hs0
  have HX0 := Lib.hid hx0
  have HR0 := Lib.hid hr0
  have HNU := Lib.hid hnu
  clear hW0 hb0 hs0 hx0 hr0 hnu
  have HXW := Lib.hid hx
  have HNL := Lib.hid hnl
  have HN : Hid (s.n ≤ 1000) := hn
  have HNN : Hid (ns ≠ [] → ∀ y, N = some y → y.block < w.heap.size) := NumsAt.lt hx
  have HWR : Hid (0 ≤ wr ∧ wr ≤ 1000000) := hw
  have HCK := Lib.hid (rcell_any (s := s) (a := a) (cap := cap) (N := N) (nc := nc) (m := m) (st := st) (ca := ca) (wr := wr) W0 HNU.out hnl hn i)
  have HY : Hid (cellK m s.n i = 0 → wL m s.n i v ns = setN s.n i v ns ∧ wW m s.n i wr = setW s.n i wr) := fun h => cell_yes h v ns wr
  have HO : Hid (cellK m s.n i ≠ 0 → wL m s.n i v ns = ns ∧ wW m s.n i wr = wr) := fun h => cell_no h v ns wr
  obtain ⟨k, hk⟩ : ∃ x, cellK m s.n i = x := ⟨_, rfl⟩
  obtain ⟨L, hL⟩ : ∃ x, wL m s.n i v ns = x := ⟨_, rfl⟩
  obtain ⟨U, hU⟩ : ∃ x, wW m s.n i wr = x := ⟨_, rfl⟩
  rw [hk] at HCK
  rw [hk, hL, hU] at HY HO
  rw [hk, hL, hU]
  clear hx hnl hn hw hk hL hU
  go_enter Try.func17, Try.ntmps17
  go_upto_region 1 with fail
  rw [HW0.out]
  go_wp2_with ((with_reducible show wpList _ _ _ _ _ _); refine wpList_load_row rfl 51 (.tmp 3) rfl w.heap.size rfl 51 _ (0, 0) _ HX0.out Try.underlying51 rfl (by rw [size_rp]; rfl) ?_)
  refine HCK.out.mono ?_
  rintro e w2 ⟨rfl, hb2⟩
  have HX2 := Lib.hid ((hb2.block _ (lt_of_block HX0.out)).trans HX0.out)
  have HR2 := Lib.hid ((hb2.block _ (lt_of_block HR0.out)).trans HR0.out)
  have HB2 := Lib.hid (HB0.out.trans (hb2.mono HB0.out.size))
  have HS2 : Hid (w.heap.size + 2 ≤ w2.heap.size) := by have := hb2.size; have := HS0.out; show _ ≤ _; omega
  clear hb2 HCK
  by_cases h0 : k = 0
  · obtain ⟨e1, e2⟩ := HY.out h0
    subst e1 e2 h0
    have HSE := Lib.hid (Go.Proofs.Ytjdgpbjjhgfikaa.Cel.rset_any a N cap nc i v ns s.n wr w2 (HXW.out.kept HB2.out) HNL.out HN.out HWR.out)
    clear HY HO
    have x7 := cell_of_row _ _ 7 _ _ _ HX2.out
    have x8 := cell_of_row _ _ 8 _ _ _ HX2.out
    have x9 := cell_of_row _ _ 9 _ _ _ HX2.out
    simp only [List.getElem?_toArray, List.getElem?_cons_zero, List.getElem?_cons_succ] at x7 x8 x9
    go_wp2_with fail
    refine HSE.out.mono ?_
    rintro e w3 ⟨N', nc', rfl, hn3, hN3, hb3⟩
    obtain ⟨bb, hbb⟩ : ∃ b, inB s.n i = b := ⟨_, rfl⟩
    rw [hbb]
    clear hbb
    have HX3 := Lib.hid ((hb3.block _ (lt_of_block HX2.out)).trans HX2.out)
    have HR3 := Lib.hid ((hb3.block _ (lt_of_block HR2.out)).trans HR2.out)
    have HB3 := Lib.hid (HB2.out.trans (hb3.mono HB2.out.size))
    have HN3 := Lib.hid hn3
    have HM3 : Hid (∀ y, N' = some y → w2.heap.size ≤ y.block ∨ N = some y) := hN3
    clear hn3 hN3 hb3 HSE x7 x8 x9
    have k7 := row_setP (o := 7) (.slice a s.n cap) HX3.out
    have k8 := row_setP (o := 8) (.slice N' s.n nc') k7
    have HX4 := Lib.hid (row_setP (o := 9) (.int .i64 (setW s.n i wr)) k8)
    have z7 := cell_of_row _ _ 7 _ _ _ HX3.out
    have z8 := cell_of_row _ _ 8 _ _ _ k7
    have z9 := cell_of_row _ _ 9 _ _ _ k8
    have f7 := frozen_of_row _ _ 7 _ _ HX3.out
    have f8 := frozen_of_row _ _ 8 _ _ k7
    have f9 := frozen_of_row _ _ 9 _ _ k8
    simp only [List.getElem?_toArray, List.getElem?_cons_zero, List.getElem?_cons_succ, List.setIfInBounds_toArray, List.set_cons_zero, List.set_cons_succ] at z7 z8 z9
    clear k7 k8
    go_upto_region 4 with fail
    obtain ⟨w4, hw4⟩ : ∃ W, ((w3.setCell ⟨w.heap.size, 7, none⟩ (.slice a s.n cap)).setCell ⟨w.heap.size, 8, none⟩ (.slice N' s.n nc')).setCell ⟨w.heap.size, 9, none⟩ (.int .i64 (setW s.n i wr)) = W := ⟨_, rfl⟩
    have hx4 : w4.heap[w.heap.size]? = some (.cells #[.int .i64 s.id, .string s.nm, .bool s.may, .slice a s.n cap, .int .i64 m, .int .i64 st, .int .i64 ca, .slice a s.n cap, .slice N' s.n nc', .int .i64 (setW s.n i wr)] 51 (0, 0)) := by rw [← hw4]; exact HX4.out
    have hr4 : w4.heap[w.heap.size + 1]? = some (.cells #[.int .i64 0, .string ⟨#[]⟩, .bool false, .slice none 0 0, .int .i64 0, .int .i64 0, .int .i64 0, .slice none 0 0, .slice none 0 0, .int .i64 0] 51 (0, 0)) := by
      rw [← hw4, heap_setCell_other _ _ _ _ (by simp), heap_setCell_other _ _ _ _ (by simp), heap_setCell_other _ _ _ _ (by simp)]; exact HR3.out
    have hne : setN s.n i v ns ≠ [] → ∀ y, N' = some y → y.block ≠ w.heap.size ∧ y.block ≠ w.heap.size + 1 := fun hq y hy => by
      have := HS2.out
      rcases HM3.out y hy with h | h
      · omega
      · have := HNN.out (setN_ne hq) y h; omega
    have hn4 : NumsAt w4 N' (setN s.n i v ns) := by rw [← hw4]; exact nums_cell (nums_cell (nums_cell HN3.out _ _ _ (fun hq y hy => (hne hq y hy).1)) _ _ _ (fun hq y hy => (hne hq y hy).1)) _ _ _ (fun hq y hy => (hne hq y hy).1)
    have hb4 : Below w.heap.size w w4 := by
      rw [← hw4]
      exact ((HB3.out.setCell (by exact Nat.le_refl _) _).setCell (by exact Nat.le_refl _) _).setCell (by exact Nat.le_refl _) _
    rw [hw4]
    have HX5 := Lib.hid hx4
    have HR5 := Lib.hid hr4
    have HN5 := Lib.hid hn4
    have HB5 := Lib.hid hb4
    have HNE := Lib.hid hne
    clear hw4 hx4 hr4 hn4 hb4 hne z7 z8 z9 f7 f8 f9 HX3 HX4 HR3 HN3
    go_wp2_with (first
      | ((with_reducible show wpList _ _ _ _ _ _); refine wpList_load_row rfl 51 (.tmp 3) rfl w.heap.size rfl 51 _ (0, 0) _ HX5.out Try.underlying51 rfl (by rw [size_rp]; rfl) ?_)
      | ((with_reducible show wpList _ _ _ _ _ _); refine wpList_store_row rfl 51 (.tmp 6) (.tmp 23) rfl (w.heap.size + 1) #[.int .i64 s.id, .string s.nm, .bool s.may, .slice a s.n cap, .int .i64 m, .int .i64 st, .int .i64 ca, .slice a s.n cap, .slice N' s.n nc', .int .i64 (setW s.n i wr)] rfl rfl 51 #[.int .i64 0, .string ⟨#[]⟩, .bool false, .slice none 0 0, .int .i64 0, .int .i64 0, .int .i64 0, .slice none 0 0, .slice none 0 0, .int .i64 0] HR5.out (by rw [size_rp]; rfl) rfl (one_rp _ _ _ _ _ _ _ _ _ _ _ _ _ _ _) ?_))
    refine bodyPost_ret (v := .tuple #[.agg #[.int .i64 s.id, .string s.nm, .bool s.may, .slice a s.n cap, .int .i64 m, .int .i64 st, .int .i64 ca, .slice a s.n cap, .slice N' s.n nc', .int .i64 (setW s.n i wr)], .int .i64 0]) (results_row_tmpC Try.results17 _ _ (w.heap.size + 1) 51 _ (0, 0) _ rfl (setRow_heap _ _ _ _ _ _ HR5.out) Try.underlying51 rfl (by rw [size_rp]; rfl)) rfl ⟨N', nc', rfl, ?_, fun y hy => ?_, ?_⟩
    · exact nums_row HN5.out _ _ (fun hq y hy => (HNE.out hq y hy).2)
    · rcases HM3.out y hy with h | h
      · left; have := HS2.out; omega
      · exact .inr h
    · exact HB5.out.trans ⟨rfl, rfl, rfl, by simp, fun b hb => setRow_other _ _ _ _ (by omega)⟩
  · obtain ⟨e1, e2⟩ := HO.out h0
    have t0 : (k == 0) = false := by simp [h0]
    subst e1 e2
    clear h0 HY HO
    go_wp2_with (first
      | ((with_reducible show wpList _ _ _ _ _ _); refine wpList_load_row rfl 51 (.tmp 3) rfl w.heap.size rfl 51 _ (0, 0) _ HX2.out Try.underlying51 rfl (by rw [size_rp]; rfl) ?_)
      | ((with_reducible show wpList _ _ _ _ _ _); refine wpList_store_row rfl 51 (.tmp 6) (.tmp 23) rfl (w.heap.size + 1) #[.int .i64 s.id, .string s.nm, .bool s.may, .slice a s.n cap, .int .i64 m, .int .i64 st, .int .i64 ca, .slice a s.n cap, .slice N s.n nc, .int .i64 U] rfl rfl 51 #[.int .i64 0, .string ⟨#[]⟩, .bool false, .slice none 0 0, .int .i64 0, .int .i64 0, .int .i64 0, .slice none 0 0, .slice none 0 0, .int .i64 0] HR2.out (by rw [size_rp]; rfl) rfl (one_rp _ _ _ _ _ _ _ _ _ _ _ _ _ _ _) ?_))
    refine bodyPost_ret (v := .tuple #[.agg #[.int .i64 s.id, .string s.nm, .bool s.may, .slice a s.n cap, .int .i64 m, .int .i64 st, .int .i64 ca, .slice a s.n cap, .slice N s.n nc, .int .i64 U], .int .i64 k]) (results_row_tmpC Try.results17 _ _ (w.heap.size + 1) 51 _ (0, 0) _ rfl (setRow_heap _ _ _ _ _ _ HR2.out) Try.underlying51 rfl (by rw [size_rp]; rfl)) rfl ⟨N, nc, rfl, ?_, fun y hy => .inr hy, ?_⟩
    · exact nums_row (HXW.out.kept HB2.out) _ _ (fun hne y hy => by have := HNN.out hne y hy; omega)
    · exact HB2.out.trans ⟨rfl, rfl, rfl, by simp, fun b hb => setRow_other _ _ _ _ (by omega)⟩
section
attribute [-go_sem] storeVar
set_option maxRecDepth 4000 in
set_option maxHeartbeats 1600000 in
theorem rnewp_any (id : Int) (nm : ByteArray) (may : Bool) (a : Option Addr) (cap : Nat) (l : List C2) (n : Nat) (w : World) (hx : CellsAt w a l) (hln : l.length = n) (hl : n ≤ 1000) :
    Calls Try.prog 31 #[.agg #[.int .i64 id, .string nm, .bool may, .slice a n cap]] w (RP ⟨id, nm, may, l, n⟩ a cap none 1 1 0 (l.map C2.v) 0 (fun v => v) w) := by
  obtain ⟨W0, hW0⟩ : ∃ W, (w.alloc (.cells #[.int .i64 id, .string nm, .bool may, .slice a n cap] 39)).alloc (.cells #[.int .i64 0, .string ⟨#[]⟩, .bool false, .slice none 0 0, .int .i64 0, .int .i64 0, .int .i64 0, .slice none 0 0, .slice none 0 0, .int .i64 0] 51) = W := ⟨_, rfl⟩
  have hb0 : Below w.heap.size w W0 := by rw [← hW0]; exact ((Below.refl _ _).alloc (Nat.le_refl _) _).alloc (by simp) _
  have hs0 : W0.heap.size = w.heap.size + 2 := by rw [← hW0]; simp
  have hx0 : W0.heap[w.heap.size]? = some (.cells #[.int .i64 id, .string nm, .bool may, .slice a n cap] 39 (0, 0)) := by
    rw [← hW0, heap_alloc_old _ _ (by simp)]; exact heap_alloc_new _ _
  have hr0 : W0.heap[w.heap.size + 1]? = some (.cells #[.int .i64 0, .string ⟨#[]⟩, .bool false, .slice none 0 0, .int .i64 0, .int .i64 0, .int .i64 0, .slice none 0 0, .slice none 0 0, .int .i64 0] 51 (0, 0)) := by
    rw [← hW0]
    have := heap_alloc_new (w.alloc (.cells #[.int .i64 id, .string nm, .bool may, .slice a n cap] 39)) (.cells #[.int .i64 0, .string ⟨#[]⟩, .bool false, .slice none 0 0, .int .i64 0, .int .i64 0, .int .i64 0, .slice none 0 0, .slice none 0 0, .int .i64 0] 51)
    simpa using this
  have HW0 := Lib.hid hW0
  have HB0 := Lib.hid hb0
  have HS0 := Lib.hid hs0
  have HX0 := Lib.hid hx0
  have HR0 := Lib.hid hr0
  have HLM : Hid ((l.map C2.v).length = n) := by show _ = _; rw [List.length_map]; exact hln
  have HNEW := Lib.hid (rnew_any a cap l n W0.drew (hx.kept (below_drew hb0)) hln hl)
  have c0 := cell_of_row _ _ 0 _ _ _ hx0
  have c1 := cell_of_row _ _ 1 _ _ _ hx0
  have c2 := cell_of_row _ _ 2 _ _ _ hx0
  have c3 := cell_of_row _ _ 3 _ _ _ hx0
  simp only [List.getElem?_toArray, List.getElem?_cons_zero, List.getElem?_cons_succ] at c0 c1 c2 c3
  clear hW0 hb0 hs0 hx0 hr0 hx hln hl
  go_enter Try.func31, Try.ntmps31
  go_upto_region 1 with fail
  rw [HW0.out]
  go_region_held3 (fun wx => wx.cell? ⟨w.heap.size, 0, none⟩ = some (.int .i64 id) ∧ wx.cell? ⟨w.heap.size, 1, none⟩ = some (.string nm) ∧ wx.cell? ⟨w.heap.size, 2, none⟩ = some (.bool may) ∧ wx.cell? ⟨w.heap.size, 3, none⟩ = some (.slice a n cap))
    (first | exact HKS.out | exact HKP.out | (refine ⟨?_, ?_, ?_, ?_⟩ <;> assumption) | (go_keep; done))
    (first
      | (go_at_call 56; refine HNEW.out.mono ?_; rintro e w2 ⟨N, nc, rfl, ho, hb2⟩; have hb3 : Below W0.heap.size W0 w2 := (below_drew (Below.refl _ _)).trans hb2; have HR2 := Lib.hid ((hb3.block _ (lt_of_block HR0.out)).trans HR0.out); have HB3 := Lib.hid hb3; have HO := Lib.hid ho; have e0 := (hb3.cell (p := ⟨w.heap.size, 0, none⟩) (Go.block_lt_of_cell c0)).trans c0; have e1 := (hb3.cell (p := ⟨w.heap.size, 1, none⟩) (Go.block_lt_of_cell c1)).trans c1; have e2 := (hb3.cell (p := ⟨w.heap.size, 2, none⟩) (Go.block_lt_of_cell c2)).trans c2; have e3 := (hb3.cell (p := ⟨w.heap.size, 3, none⟩) (Go.block_lt_of_cell c3)).trans c3; have hst : Sem.run Try.prog (storeVar 51 ⟨w.heap.size + 1, 0, none⟩ (.agg #[.int .i64 id, .string nm, .bool may, .slice a n cap, .int .i64 1, .int .i64 1, .int .i64 0, .slice a n cap, .slice N n nc, .int .i64 0])) w2 = .ok () (w2.setRow (w.heap.size + 1) #[.int .i64 id, .string nm, .bool may, .slice a n cap, .int .i64 1, .int .i64 1, .int .i64 0, .slice a n cap, .slice N n nc, .int .i64 0]) := run_storeVar_row w2 (w.heap.size + 1) _ _ #[.int .i64 0, .string ⟨#[]⟩, .bool false, .slice none 0 0, .int .i64 0, .int .i64 0, .int .i64 0, .slice none 0 0, .slice none 0 0, .int .i64 0] _ HR2.out size_rp rfl (one_rp _ _ _ _ _ _ _ _ _ _ _ _ _ _ _); have hne : w.heap.size ≠ w.heap.size + 1 := (by omega); have HKS : Hid ((w2.setRow (w.heap.size + 1) #[.int .i64 id, .string nm, .bool may, .slice a n cap, .int .i64 1, .int .i64 1, .int .i64 0, .slice a n cap, .slice N n nc, .int .i64 0]).cell? ⟨w.heap.size, 0, none⟩ = some (.int .i64 id) ∧ (w2.setRow (w.heap.size + 1) #[.int .i64 id, .string nm, .bool may, .slice a n cap, .int .i64 1, .int .i64 1, .int .i64 0, .slice a n cap, .slice N n nc, .int .i64 0]).cell? ⟨w.heap.size, 1, none⟩ = some (.string nm) ∧ (w2.setRow (w.heap.size + 1) #[.int .i64 id, .string nm, .bool may, .slice a n cap, .int .i64 1, .int .i64 1, .int .i64 0, .slice a n cap, .slice N n nc, .int .i64 0]).cell? ⟨w.heap.size, 2, none⟩ = some (.bool may) ∧ (w2.setRow (w.heap.size + 1) #[.int .i64 id, .string nm, .bool may, .slice a n cap, .int .i64 1, .int .i64 1, .int .i64 0, .slice a n cap, .slice N n nc, .int .i64 0]).cell? ⟨w.heap.size, 3, none⟩ = some (.slice a n cap)) := ⟨(World.cell?_of_block (setRow_other _ _ _ _ hne)).trans e0, (World.cell?_of_block (setRow_other _ _ _ _ hne)).trans e1, (World.cell?_of_block (setRow_other _ _ _ _ hne)).trans e2, (World.cell?_of_block (setRow_other _ _ _ _ hne)).trans e3⟩; have HKP : Hid (w2.cell? ⟨w.heap.size, 0, none⟩ = some (.int .i64 id) ∧ w2.cell? ⟨w.heap.size, 1, none⟩ = some (.string nm) ∧ w2.cell? ⟨w.heap.size, 2, none⟩ = some (.bool may) ∧ w2.cell? ⟨w.heap.size, 3, none⟩ = some (.slice a n cap)) := ⟨e0, e1, e2, e3⟩; clear ho hb2 hb3 e0 e1 e2 e3 hne))
  all_goals
    go_wp2
    refine bodyPost_ret (v := .agg #[.int .i64 id, .string nm, .bool may, .slice a n cap, .int .i64 1, .int .i64 1, .int .i64 0, .slice a n cap, .slice N n nc, .int .i64 0]) (results_cell_row (by rfl) _ _ (w.heap.size + 1) 51 _ (0, 0) _ rfl (setRow_heap _ _ _ _ _ _ HR2.out) Try.underlying51 rfl (by rw [size_rp]; rfl)) rfl ⟨N, nc, rfl, ?_, fun y hy => .inl ?_, ?_⟩
    · refine nums_row (own_nums HO.out HLM.out).1 _ _ (fun _ y hy => ?_)
      have h1 := (own_at HO.out y hy).2.1
      have h2 : W0.drew.heap.size = W0.heap.size := rfl
      have := HS0.out
      omega
    · have h1 := (own_at HO.out y hy).2.1
      have h2 : W0.drew.heap.size = W0.heap.size := rfl
      have := HS0.out
      omega
    · exact (HB0.out.trans (HB3.out.mono HB0.out.size)).trans ⟨rfl, rfl, rfl, by simp, fun b hb => setRow_other _ _ _ _ (by omega)⟩
end

end

end Go.Proofs.Ytjdgpbjjhgfikaa.Pt
