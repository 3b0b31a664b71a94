
/- The document's cells: new ones, and whether two rows of numbers are one. Condition: at most a thousand cells. -/

import Derived.Test.YtjdgpbjjhgfikaaCelG

namespace Go.Proofs.Ytjdgpbjjhgfikaa.Cel

open Go.RowKit Go.PlainAid Go.Proofs.Ytjdgpbjjhgfikaa.Args

set_option linter.unusedVariables false

set_option linter.unusedSimpArgs false

theorem step_append_ownU {P : Program} {ops : Array Oper} {o : Oper} {a : Act} {w : World} {K : Act → World → Prop} {Q : Exit → Act → World → Prop} {E : Prop}
    (hg : o.guard = none) (s x : Operand) (t : TypeId) (ho : o.op = .call { callee := .builtin .append, args := #[s, x], argTypes := #[t, t] })
    (base : Nat) (e : TypeId) (i : TypeInfo) (z : Value) (size bytes : Nat) (ht : P.underlying t = some (.slice e)) (hi : P.info? e = some i) (hz : i.zero = some z)
    (hsize : i.size = size) (hby : i.bytes = bytes) (hzs : z.cells.size = size) (hsz : 0 < size)
    (v : Value) (n : Nat) (xs : List Value) (hs : a.eval s = v) (hown : w.ownsRow base e size v n xs)
    (ad : Addr) (m c : Nat) (news : List Value) (hx : a.eval x = .slice (some ad) m c) (hl : news.length = m * size) (hnews : ∀ j u, news[j]? = some u → w.cell? (ad.add j) = some u) (h1 : ∀ u ∈ news, u.oneCell' = true)
    (h63 : n + m ≤ maxLen) (hbytes : (n + m) * bytes ≤ 140737488355328) (hbase : base ≤ w.heap.size)
    (hK : ∀ v' w', w'.ownsRow base e size v' (n + m) (xs ++ news) → w.grownBy w' v.ownBlock → K (a.put o.dst v') w') :
    if Region.wanted o (yielded ops a.tmps) = true then Oper.wp P o a w K Q else E := by
  have hw : Region.wanted o (yielded ops a.tmps) = true := by simp [Region.wanted, hg]
  rw [if_pos hw]
  exact wp_append_own w s x t ho base e i z size bytes ht hi hz hsize hby hzs hsz v n xs hs hown ad m c news hx hl hnews h1 h63 hbytes hbase fun v' w' h2 h3 _ => hK v' w' h2 h3
theorem new1W (w : World) (T : TypeId) (u : Value) : ∀ j q, ([u] : List Value)[j]? = some q → (w.alloc (.cells #[u] T)).drew.cell? ((Addr.mk w.heap.size 0 none).add j) = some q := by
  intro j q hj
  have hrow := heap_alloc_new w (.cells #[u] T)
  have e : (Addr.mk w.heap.size 0 none).add j = ⟨w.heap.size, j, none⟩ := by cases j <;> simp [Addr.add]
  have h : (w.alloc (.cells #[u] T)).cell? ⟨w.heap.size, j, none⟩ = some q := by
    rw [cell_of_row _ _ _ _ _ _ hrow, ← hj]; simp
  rw [e]; exact h
theorem new1V (w : World) (T : TypeId) (u : Value) : ∀ j q, ([u] : List Value)[j]? = some q → (w.drew.alloc (.cells #[u] T)).cell? ((Addr.mk w.heap.size 0 none).add j) = some q := new1W w T u
theorem one1W (v : Int) : ∀ u ∈ ([.int .u32 v] : List Value), u.oneCell' = true := by
  intro q hq; simp at hq; subst hq; rfl
/-- A box of the document's cells whose numbers' row grows; all else of W0 is as it was. -/
structure RN (W0 : World) (b : Nat) (F : Value) (wn : Int) (k : Nat) (xs : List Nat) (A : Option Addr) (c : Nat) (W : World) : Prop where
  box : W.heap[b]? = some (.cells #[F, .slice A k c, .int .i64 wn] 49 (0, 0))
  own : W.ownsRow W0.heap.size 40 1 (.slice A k c) k (vs xs)
  two : Two b none W0 W
  lt : b < W0.heap.size
section

variable {W0 W W' : World} {b : Nat} {F : Value} {wn : Int} {k : Nat} {xs : List Nat} {A : Option Addr} {c : Nat}

theorem RN.keep (h : RN W0 b F wn k xs A c W) (bb : Below W.heap.size W W') : RN W0 b F wn k xs A c W' :=
  ⟨(bb.block b (lt_of_block h.box)).trans h.box, own_keep h.own bb, h.two.trans (two_below bb), h.lt⟩
theorem RN.drewN (h : RN W0 b F wn k xs A c W) (m : Nat) : RN W0 b F wn k xs A c (W.drewN m) := h.keep ⟨rfl, rfl, rfl, Nat.le_refl _, fun _ _ => rfl⟩
theorem RN.cells (h : RN W0 b F wn k xs A c W) : W.cell? ⟨b, 0, none⟩ = some F ∧ W.cell? ⟨b, 1, none⟩ = some (.slice A k c) ∧ W.cell? ⟨b, 2, none⟩ = some (.int .i64 wn) := by
  refine ⟨?_, ?_, ?_⟩
  all_goals (rw [cell_of_row W _ _ _ _ _ h.box]; rfl)
theorem RN.free (h : RN W0 b F wn k xs A c W) (o : Nat) : W.frozen? ⟨b, o, none⟩ = false := by simp [World.frozen?, h.box]
/-- The row has grown, and its value is stored. -/
theorem RN.grown (h : RN W0 b F wn k xs A c W) {A' : Option Addr} {c' : Nat} {x : Nat} (ho : W'.ownsRow W0.heap.size 40 1 (.slice A' (k + 1) c') (k + 1) (vs (xs ++ [x]))) (hg : W.grownBy W' (Value.slice A k c).ownBlock) :
    W'.cell? ⟨b, 1, none⟩ = some (.slice A k c) ∧ W'.frozen? ⟨b, 1, none⟩ = false ∧ RN W0 b F wn (k + 1) (xs ++ [x]) A' c' (W'.setCell ⟨b, 1, none⟩ (.slice A' (k + 1) c')) := by
  have hne : some b ≠ (Value.slice A k c).ownBlock := fun e => by
    have := (h.own.lt b e.symm).1
    have := h.lt
    omega
  have hb : W'.heap[b]? = some (.cells #[F, .slice A k c, .int .i64 wn] 49 (0, 0)) := (hg.block b (lt_of_block h.box) hne).trans h.box
  have ht : Two b none W0 W' := ⟨hg.os.trans h.two.os, hg.tape.trans h.two.tape, hg.output.trans h.two.output, Nat.le_trans h.two.size hg.size, fun i hi h1 h2 => (hg.block i (Nat.lt_of_lt_of_le hi h.two.size) (fun e => by have := (h.own.lt i e.symm).1; omega)).trans (h.two.block i hi h1 h2)⟩
  refine ⟨by rw [cell_of_row W' _ _ _ _ _ hb]; rfl, by simp [World.frozen?, hb], ⟨?_, ?_, ht.trans (two_cell W' _ _ (.inl rfl)), h.lt⟩⟩
  · rw [heap_setCell_same W' _ _ _ _ _ hb]; rfl
  · refine ho.kept (row := some b) ⟨rfl, rfl, rfl, by simp, fun i _ hi => heap_setCell_other W' _ i _ (fun e => hi (by simp [e]))⟩ ?_
    cases hA : A' with
    | none => exact .inl rfl
    | some a =>
      right
      intro e
      have := (own_at ho a hA).2.1
      have := h.lt
      have e2 : a.block = b := Option.some.inj e
      omega
end

def ld3 (t : TypeId) (o : Operand) : Op := Op.load t o
attribute [go_sem] ld3
theorem size_rc : (Try.prog.info? 49).map (·.size) = some 3 := by kernel_rfl
def RnRel (F : Value) (l : List C2) (m : Nat) (W0 : World) (b : Nat) (i : Value) (wr : World) : Prop :=
  ∃ (k : Nat) (A : Option Addr) (c : Nat), k ≤ m ∧ i = .int .i64 (k : Int) ∧ RN W0 b F 0 k ((l.map C2.v).take k) A c wr
def RNewPost (F : Value) (xs : List Nat) (n : Nat) (wn : Int) (w : World) (e : Ending) (w' : World) : Prop :=
  ∃ (A : Option Addr) (c : Nat), e = .returned (.agg #[F, .slice A n c, .int .i64 wn]) ∧ w'.ownsRow w.heap.size 40 1 (.slice A n c) n (vs xs) ∧ Below w.heap.size w w'
set_option maxRecDepth 8000 in
set_option maxHeartbeats 3200000 in
theorem rnew_any (a : Option Addr) (cap : Nat) (l : List C2) (n : Nat) (w : World) (hx : CellsAt w a l) (hln : l.length = n) (hl : n ≤ 1000) :
    Calls Try.prog 56 #[.slice a n cap] w (RNewPost (.slice a n cap) (l.map C2.v) n 0 w) := by
  obtain ⟨i0, hi, hz0, hz1, hz2⟩ := info_parts infoU
  obtain ⟨W0, hW0⟩ : ∃ W, (w.alloc (.cells #[.slice none 0 0, .slice none 0 0, .int .i64 0] 49)).alloc (.cells #[.slice a n cap, .slice none 0 0, .int .i64 0] 49) = W := ⟨_, rfl⟩
  have hb0 : Below w.heap.size w W0 := by rw [← hW0]; exact ((Below.refl _ _).alloc (Nat.le_refl _) _).alloc (by simp) _
  have hs0 : W0.heap.size = w.heap.size + 2 := by rw [← hW0]; simp
  have hr0 : W0.heap[w.heap.size]? = some (.cells #[.slice none 0 0, .slice none 0 0, .int .i64 0] 49 (0, 0)) := by
    rw [← hW0, heap_alloc_old _ _ (by simp)]; exact heap_alloc_new _ _
  have hx0 : W0.heap[w.heap.size + 1]? = some (.cells #[.slice a n cap, .slice none 0 0, .int .i64 0] 49 (0, 0)) := by
    rw [← hW0]
    have := heap_alloc_new (w.alloc (.cells #[.slice none 0 0, .slice none 0 0, .int .i64 0] 49)) (.cells #[.slice a n cap, .slice none 0 0, .int .i64 0] 49)
    simpa using this
  have hrn : RN W0 (w.heap.size + 1) (.slice a n cap) 0 0 [] none 0 W0 := ⟨hx0, World.ownsRow_nil _ _ _ _, Two.refl _ _ _, by omega⟩
  have HW0 := Lib.hid hW0
  have HB0 := Lib.hid hb0
  have HS0 := Lib.hid hs0
  have HR0 := Lib.hid hr0
  have HRN := Lib.hid hrn
  have HCE := Lib.hid hx
  have HLN := Lib.hid hln
  have HL : Hid (n ≤ 1000) := hl
  clear hW0 hb0 hs0 hr0 hx0 hrn hx hln hl
  go_enter Try.func56, Try.ntmps56
  go_upto_region 2 with fail
  rw [HW0.out]
  go_wp2_with fail
  go_loopw [4] (fun i wr => RnRel (.slice a n cap) l n W0 (w.heap.size + 1) i wr) (fun i _ => n - (intOf i).toNat)
  case atStart => exact ⟨0, none, 0, Nat.zero_le _, rfl, HRN.out⟩
  case round =>
    obtain ⟨k, A, c, hk, rfl, hr⟩ := hrel
    have HR := Lib.hid hr
    clear hr HRN
    by_cases hlt : k < n
    · obtain ⟨x, hx⟩ : ∃ x, l[k]? = some x := ⟨_, List.getElem?_eq_getElem (by rw [HLN.out]; exact hlt)⟩
      have HBE : Hid (∀ W k xs A c, RN W0 (w.heap.size + 1) (.slice a n cap) 0 k xs A c W → Below w.heap.size w W) := fun W k xs A c h => Two.below HB0.out h.two HB0.out.size (by omega) (fun _ ha => by cases ha)
      obtain ⟨y, hy, e1, -⟩ := (HCE.out.kept (HBE.out _ _ _ _ _ HR.out)) k x hx
      subst hy
      have HCX : Hid (∀ W, Below w.heap.size w W → W.cell? (y.add (k * 2)) = some (.int .u32 (x.v : Int))) := fun W h => by
        obtain ⟨y', hy', e, -⟩ := (HCE.out.kept h) k x hx
        obtain rfl := Option.some.inj hy'
        exact e
      have htk : (l.map C2.v).take (k + 1) = (l.map C2.v).take k ++ [x.v] := by
        rw [List.take_add_one, List.getElem?_map, hx]; rfl
      have HTK := Lib.hid htk
      obtain ⟨xv, hxv⟩ : ∃ v, x.v = v := ⟨_, rfl⟩
      rw [hxv] at e1 HCX HTK
      obtain ⟨c0, c1, c2⟩ := HR.out.cells
      have f1 := HR.out.free 1
      have HLT := Lib.hid hlt
      have hkb : (k : Int) < n := by omega
      have hki : (0 : Int) ≤ k := by omega
      have hnn := HL.out
      have hk1 : IntKind.i64.wrap ((k : Int) + 1) = (k : Int) + 1 := IntWalk.i64_in _ (by omega)
      have HRA := Lib.hid ((HR.out.keep ((Below.refl _ _).alloc (Nat.le_refl _) (.cells #[.int .u32 (xv : Int)] 40))).drewN 1)
      have HRB := Lib.hid ((HR.out.drewN 1).keep ((Below.refl _ _).alloc (Nat.le_refl _) (.cells #[.int .u32 (xv : Int)] 40)))
      obtain ⟨xs, hxs⟩ : ∃ xs, (l.map C2.v).take k = xs := ⟨_, rfl⟩
      rw [hxs] at HRA HRB HTK HR
      have e5 : (wr.alloc (.cells #[.int .u32 (xv : Int)] 40)).drew.cell? ⟨w.heap.size + 1, 1, none⟩ = some (.slice A k c) := HRA.out.cells.2.1
      have e6 : (wr.drew.alloc (.cells #[.int .u32 (xv : Int)] 40)).cell? ⟨w.heap.size + 1, 1, none⟩ = some (.slice A k c) := HRB.out.cells.2.1
      clear hx htk hxv hlt hk hxs
      go_upto_region 5 with fail
      rw [show Op.load 47 (Operand.tmp 13) = ld3 47 (Operand.tmp 13) from rfl]
      go_region_held3 (fun wx => wx.cell? (y.add (k * 2)) = some (.int .u32 (xv : Int)))
        (first | exact HKQ.out | exact HKP.out | assumption | (go_keep; done))
        (first
          | (
              refine step_append_ownU (s := .tmp 14) (x := .tmp 20) (t := 47) rfl rfl (base := W0.heap.size) (e := 40) (i := i0) (z := .int .u32 0) (size := 1) (bytes := 4) Try.underlying47 hi hz0 hz1 hz2 rfl (by decide) (v := .slice A k c) (n := k) (xs := vs xs) rfl HRA.out.own ⟨wr.heap.size, 0, none⟩ 1 1 [.int .u32 (xv : Int)] rfl rfl (new1W _ _ _) (one1W _) ?_ ?_ ?_ ?_
              · have := HLT.out; have := HL.out; unfold maxLen; omega
              · have := HLT.out; have := HL.out; omega
              · exact HRA.out.two.size
              intro v' w' ho hg
              obtain ⟨A9, c9, rfl⟩ := own_slice ho
              have ho9 : w'.ownsRow W0.heap.size 40 1 (.slice A9 (k + 1) c9) (k + 1) (vs (xs ++ [xv])) := by unfold vs; rw [List.map_append]; exact ho
              have hgr := HRA.out.grown ho9 hg
              have g1 := hgr.1
              have g2 := hgr.2.1
              have HR9 := Lib.hid hgr.2.2
              have hb9 := (HBE.out _ _ _ _ _ HRA.out).grown hg (HBE.out _ _ _ _ _ HRA.out).size (fun j hj => by have := (HRA.out.own.lt j hj).1; have := HS0.out; omega)
              have HKQ : Hid (w'.cell? (y.add (k * 2)) = some (.int .u32 (xv : Int))) := HCX.out w' hb9
              have HKP : Hid ((w'.setCell ⟨w.heap.size + 1, 1, none⟩ (.slice A9 (k + 1) c9)).cell? (y.add (k * 2)) = some (.int .u32 (xv : Int))) := HCX.out _ (HBE.out _ _ _ _ _ HR9.out)
              clear ho hg ho9 hgr hb9)
          | (
              refine step_append_ownU (s := .tmp 14) (x := .tmp 20) (t := 47) rfl rfl (base := W0.heap.size) (e := 40) (i := i0) (z := .int .u32 0) (size := 1) (bytes := 4) Try.underlying47 hi hz0 hz1 hz2 rfl (by decide) (v := .slice A k c) (n := k) (xs := vs xs) rfl HRB.out.own ⟨wr.heap.size, 0, none⟩ 1 1 [.int .u32 (xv : Int)] rfl rfl (new1V _ _ _) (one1W _) ?_ ?_ ?_ ?_
              · have := HLT.out; have := HL.out; unfold maxLen; omega
              · have := HLT.out; have := HL.out; omega
              · exact HRB.out.two.size
              intro v' w' ho hg
              obtain ⟨A9, c9, rfl⟩ := own_slice ho
              have ho9 : w'.ownsRow W0.heap.size 40 1 (.slice A9 (k + 1) c9) (k + 1) (vs (xs ++ [xv])) := by unfold vs; rw [List.map_append]; exact ho
              have hgr := HRB.out.grown ho9 hg
              have g1 := hgr.1
              have g2 := hgr.2.1
              have HR9 := Lib.hid hgr.2.2
              have hb9 := (HBE.out _ _ _ _ _ HRB.out).grown hg (HBE.out _ _ _ _ _ HRB.out).size (fun j hj => by have := (HRB.out.own.lt j hj).1; have := HS0.out; omega)
              have HKQ : Hid (w'.cell? (y.add (k * 2)) = some (.int .u32 (xv : Int))) := HCX.out w' hb9
              have HKP : Hid ((w'.setCell ⟨w.heap.size + 1, 1, none⟩ (.slice A9 (k + 1) c9)).cell? (y.add (k * 2)) = some (.int .u32 (xv : Int))) := HCX.out _ (HBE.out _ _ _ _ _ HR9.out)
              clear ho hg ho9 hgr hb9))
      all_goals
        obtain ⟨W9, hW9⟩ : ∃ W, w'.setCell ⟨w.heap.size + 1, 1, none⟩ (.slice A9 (k + 1) c9) = W := ⟨_, rfl⟩
        rw [hW9] at HR9
        rw [hW9]
        clear hW9 g1 g2 HKQ HKP c0 c1 c2 e1 e5 e6 f1 HRA HRB
        go_wp2
        go_roundw
        case rel => exact ⟨k + 1, A9, c9, HLT.out, by go_num, by rw [HTK.out]; exact HR9.out⟩
        case measure => have := HLT.out; simp [intOf]; omega
    · obtain rfl : k = n := by omega
      have hfull : (l.map C2.v).take k = l.map C2.v := List.take_of_length_le (by rw [List.length_map, HLN.out]; exact Nat.le_refl _)
      rw [hfull] at HR
      have hb9 : Below w.heap.size w wr := Two.below HB0.out HR.out.two HB0.out.size (by omega) (fun _ ha => by cases ha)
      have hres : wr.heap[w.heap.size]? = some (.cells #[.slice none 0 0, .slice none 0 0, .int .i64 0] 49 (0, 0)) := (HR.out.two.block _ (by have := HS0.out; omega) (by omega) (fun _ ha => by cases ha)).trans HR0.out
      have HRES := Lib.hid hres
      have HB9 := Lib.hid hb9
      have hoo := own_base (B' := w.heap.size) HR.out.own (by have := HS0.out; omega)
      have HOO := Lib.hid hoo
      have HBX := Lib.hid HR.out.box
      have HNE : Hid (∀ x, (some x : Option Addr) = A → x.block ≠ w.heap.size) := fun x hx e => by
        have := (own_at HR.out.own x hx.symm).2.1
        have := HS0.out
        omega
      clear hfull hb9 hres hoo hk hlt
      go_wp2_with (first
        | ((with_reducible show wpList _ _ _ _ _ _); refine wpList_load_row rfl 49 (.tmp 3) rfl (w.heap.size + 1) rfl 49 _ (0, 0) _ HBX.out Try.underlying49 rfl (by rw [size_rc]; rfl) ?_)
        | ((with_reducible show wpList _ _ _ _ _ _); (refine wpList_store_row rfl 49 (.tmp 2) (.tmp 23) rfl w.heap.size #[.slice a k cap, .slice A k c, .int .i64 0] rfl rfl 49 #[.slice none 0 0, .slice none 0 0, .int .i64 0] HRES.out (by rw [size_rc]; rfl) rfl (by simp [Value.oneCell']) ?_)))
      refine bodyPost_ret (v := .agg #[.slice a k cap, .slice A k c, .int .i64 0]) (results_cell_row (by rfl) _ _ w.heap.size 49 _ (0, 0) _ rfl (setRow_heap _ _ _ _ _ _ HRES.out) Try.underlying49 rfl (by rw [size_rc]; rfl)) rfl ⟨A, c, rfl, ?_, ?_⟩
      · exact HOO.out.kept (row := some w.heap.size) ⟨rfl, rfl, rfl, by simp, fun i _ hi => setRow_other _ _ _ _ (fun e => hi (by simp [e]))⟩ (by
          cases hA : A with
          | none => exact .inl rfl
          | some x => exact .inr (fun e => HNE.out x hA.symm (Option.some.inj e)))
      · exact HB9.out.trans ⟨rfl, rfl, rfl, by simp, fun b hb => setRow_other _ _ _ _ (by omega)⟩
end Go.Proofs.Ytjdgpbjjhgfikaa.Cel
