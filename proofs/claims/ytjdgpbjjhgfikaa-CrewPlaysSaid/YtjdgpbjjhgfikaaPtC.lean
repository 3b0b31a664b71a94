
/- A partition that runs: new ones, copies, whether two shots are one. Condition: at most a thousand cells. -/

import Derived.Test.YtjdgpbjjhgfikaaPtB

namespace Go.Proofs.Ytjdgpbjjhgfikaa.Pt

open Go.RowKit Go.PlainAid Go.Proofs.Ytjdgpbjjhgfikaa.Args Go.Proofs.Ytjdgpbjjhgfikaa.Cel

open Go.Proofs.Ytjdgpbjjhgfikaa.Mod (askN startN setM setS actN actM actS size_ch)

set_option linter.unusedVariables false

set_option linter.unusedSimpArgs false

theorem size_part : (Try.prog.info? 61).map (·.size) = some 7 := by kernel_rfl
theorem size_state : (Try.prog.info? 59).map (·.size) = some 4 := by kernel_rfl
/-- A partition in new blocks. -/
def PartPost (s : PK) (m st ca : Int) (ns : List Nat) (wr : Int) (w : World) (e : Ending) (w' : World) : Prop :=
  ∃ d : PD, e = .returned (.pointer (some ⟨d.g, 0, none⟩)) ∧ IsP w' w.heap.size w'.heap.size d s m st ca ns wr ∧ Below w.heap.size w w'
section

variable {w w' : World} {lo hi : Nat} {d : PD} {s : PK} {m st ca : Int} {ns : List Nat} {wr : Int}

set_option maxRecDepth 4000 in
theorem copy_any (h : IsP w lo hi d s m st ca ns wr) (hn : s.n ≤ 1000) :
    Calls Try.prog 51 #[.pointer (some ⟨d.g, 0, none⟩)] w (PartPost s m st ca ns wr w) := by
  have HBX := Lib.hid h.box
  have hb : Below w.heap.size w (w.alloc (.cells #[.int .i64 m, .int .i64 st, .int .i64 ca, .pointer (some ⟨d.cg, 0, none⟩), .int .i64 s.id, .string s.nm, .bool s.may] 61)) := (Below.refl _ _).alloc (Nat.le_refl _) _
  have hx := heap_alloc_new w (.cells #[.int .i64 m, .int .i64 st, .int .i64 ca, .pointer (some ⟨d.cg, 0, none⟩), .int .i64 s.id, .string s.nm, .bool s.may] 61)
  have hp := h.keep hb
  have hlt := lt_of_block hx
  obtain ⟨W, hW⟩ : ∃ W, w.alloc (.cells #[.int .i64 m, .int .i64 st, .int .i64 ca, .pointer (some ⟨d.cg, 0, none⟩), .int .i64 s.id, .string s.nm, .bool s.may] 61) = W := ⟨_, rfl⟩
  rw [hW] at hb hx hp hlt
  have HW := Lib.hid hW
  obtain ⟨X, hX⟩ : ∃ X, w.heap.size = X := ⟨_, rfl⟩
  rw [hX] at hx hlt
  have HXX := Lib.hid hX
  have HX := Lib.hid hx
  have HB := Lib.hid hb
  have HP := Lib.hid hp
  have HLT := Lib.hid hlt
  have HN : Hid (s.n ≤ 1000) := hn
  have HQ := hp.cells
  clear h hb hx hp hlt hW hX hn
  go_enter Try.func51, Try.ntmps51
  go_upto_region 2 with ((with_reducible show wpList _ _ _ _ _ _); refine wpList_load_row rfl 61 (.tmp 5) rfl d.g rfl 61 _ (0, 0) _ HBX.out Try.underlying61 rfl (by rw [size_part]; rfl) ?_)
  rw [HW.out, HXX.out]
  obtain ⟨c0, c1, c2, c3, c4, c5, c6⟩ := HQ
  go_wp2_with fail
  refine (Go.Proofs.Ytjdgpbjjhgfikaa.Cel.copy_any d.cg _ HP.out.ic HN.out).mono ?_
  rintro e w2 ⟨cg, FA, fc, A, c, rfl, hic, hb2⟩
  have hx2 := (hb2.block X HLT.out).trans HX.out
  have x3 := cell_of_row _ _ 3 _ _ _ hx2
  simp only [List.getElem?_toArray, List.getElem?_cons_zero, List.getElem?_cons_succ] at x3
  have f3 := frozen_of_row w2 _ 3 _ _ hx2
  have HF : Hid (IsP (w2.setCell ⟨X, 3, none⟩ (.pointer (some ⟨cg, 0, none⟩))) w.heap.size (w2.setCell ⟨X, 3, none⟩ (.pointer (some ⟨cg, 0, none⟩))).heap.size ⟨X, cg, FA, fc, A, c⟩ s m st ca ns wr) := by
    have t : Two X none w2 (w2.setCell ⟨X, 3, none⟩ (.pointer (some ⟨cg, 0, none⟩))) := two_cell w2 _ _ (.inl rfl)
    have hge := hic.ge
    have hA := fun a ha => (own_at hic.own a ha).2
    have hF := fun a ha => (own_at hic.fst a ha).2
    have hcl := lt_of_block hic.box
    have hl := HLT.out
    have hwl : w.heap.size ≤ W.heap.size := HB.out.size
    have hsz : (w2.setCell ⟨X, 3, none⟩ (.pointer (some ⟨cg, 0, none⟩))).heap.size = w2.heap.size := by simp
    have hw2 := hb2.size
    have hia := hic.apart t (by omega) (fun _ hb => by cases hb) (fun a ha => ⟨by have := hA a ha; omega, fun _ hb => by cases hb⟩) (fun a ha => ⟨by have := hF a ha; omega, fun _ hb => by cases hb⟩)
    refine ⟨?_, ⟨hia.box, own_base hia.fst hwl, own_base hia.own hwl, hia.flen, hia.nlen, by show w.heap.size ≤ cg; omega, hia.d1, hia.d2, hia.d3⟩, ?_, ?_, ?_, ?_, ?_, ?_, ?_, ?_, Nat.le_refl _⟩
    · exact row_setP _ hx2
    · show w.heap.size ≤ X; have := HXX.out; omega
    · show X < _; rw [hsz]; omega
    · show cg < _; rw [hsz]; exact hcl
    · intro a ha; rw [hsz]; exact (hA a ha).2
    · intro a ha; rw [hsz]; exact (hF a ha).2
    · show X ≠ cg; omega
    · intro a ha; show a.block ≠ X; have := hA a ha; omega
    · intro a ha; show a.block ≠ X; have := hF a ha; omega
  have HBF : Hid (Below w.heap.size w (w2.setCell ⟨X, 3, none⟩ (.pointer (some ⟨cg, 0, none⟩)))) := (HB.out.trans (hb2.mono HB.out.size)).setCell (by have := HXX.out; show _ ≤ X; omega) _
  clear hic hb2 hx2 c0 c1 c2 c3 c4 c5 c6
  go_wp2
  go_ret
  exact ⟨_, rfl, HF.out, HBF.out⟩
set_option maxRecDepth 4000 in
theorem loaded_any (A : Option Addr) (cap : Nat) (l : List C2) (n : Nat) (w : World) (hx : CellsAt w A l) (hnil : A = none → cap = 0) (hlc : n ≤ cap) (hln : l.length = n) (hl : n ≤ 1000) :
    Calls Try.prog 55 #[.slice A n cap] w fun e w' => ∃ (g : Nat) (FA : Option Addr) (fc : Nat) (A : Option Addr) (c : Nat), e = .returned (.agg #[.int .i64 1, .int .i64 1, .int .i64 0, .pointer (some ⟨g, 0, none⟩)]) ∧ IsC w' w.heap.size g FA fc l A c (l.map C2.v) n 0 ∧ Below w.heap.size w w' := by
  have hb : Below w.heap.size w (w.alloc (.cells #[.int .i64 0, .int .i64 0, .int .i64 0, .pointer none] 59)) := (Below.refl _ _).alloc (Nat.le_refl _) _
  have hr := heap_alloc_new w (.cells #[.int .i64 0, .int .i64 0, .int .i64 0, .pointer none] 59)
  obtain ⟨W, hW⟩ : ∃ W, w.alloc (.cells #[.int .i64 0, .int .i64 0, .int .i64 0, .pointer none] 59) = W := ⟨_, rfl⟩
  rw [hW] at hb hr
  have HW := Lib.hid hW
  have HB := Lib.hid hb
  have HR := Lib.hid hr
  have HNEW := Lib.hid (new_any A cap l n W (hx.kept hb) hnil hlc hln hl)
  clear hb hr hW hx hnil hlc hln hl
  go_enter Try.func55, Try.ntmps55
  go_upto_region 1 with fail
  rw [HW.out]
  go_wp2_with fail
  refine HNEW.out.mono ?_
  rintro e w2 ⟨g, FA, fc, A', c, rfl, hic, hb2⟩
  have HR2 := Lib.hid ((hb2.block _ (lt_of_block HR.out)).trans HR.out)
  have HIC := Lib.hid hic
  have HB2 := Lib.hid hb2
  clear hic hb2
  go_wp2_with ((with_reducible show wpList _ _ _ _ _ _); refine wpList_store_row rfl 59 (.tmp 2) (.tmp 5) rfl w.heap.size #[.int .i64 1, .int .i64 1, .int .i64 0, .pointer (some ⟨g, 0, none⟩)] rfl rfl 59 #[.int .i64 0, .int .i64 0, .int .i64 0, .pointer none] HR2.out (by rw [size_state]; rfl) rfl (by simp [Value.oneCell']) ?_)
  refine bodyPost_ret (v := .agg #[.int .i64 1, .int .i64 1, .int .i64 0, .pointer (some ⟨g, 0, none⟩)]) (results_cell_row (by rfl) _ _ w.heap.size 59 _ (0, 0) _ rfl (setRow_heap _ _ _ _ _ _ HR2.out) Try.underlying59 rfl (by rw [size_state]; rfl)) rfl ⟨g, FA, fc, A', c, rfl, ?_, ?_⟩
  · have hlt := lt_of_block HR.out
    have t : Two w.heap.size none w2 (w2.setRow w.heap.size #[.int .i64 1, .int .i64 1, .int .i64 0, .pointer (some ⟨g, 0, none⟩)]) := ⟨rfl, rfl, rfl, by simp, fun k _ h1 _ => setRow_other _ _ _ _ h1⟩
    have hge := HIC.out.ge
    have hwl : w.heap.size ≤ W.heap.size := HB.out.size
    have h := HIC.out.apart t (by omega) (fun _ hb => by cases hb) (fun a ha => ⟨by have := (own_at HIC.out.own a ha).2.1; omega, fun _ hb => by cases hb⟩) (fun a ha => ⟨by have := (own_at HIC.out.fst a ha).2.1; omega, fun _ hb => by cases hb⟩)
    exact ⟨h.box, own_base h.fst hwl, own_base h.own hwl, h.flen, h.nlen, by omega, h.d1, h.d2, h.d3⟩
  · exact (HB.out.trans (HB2.out.mono HB.out.size)).trans ⟨rfl, rfl, rfl, by simp, fun b hb => setRow_other _ _ _ _ (by omega)⟩
set_option maxRecDepth 4000 in
set_option maxHeartbeats 800000 in
theorem new_part (id : Int) (nm : ByteArray) (may : Bool) (A : Option Addr) (cap : Nat) (l : List C2) (n : Nat) (w : World) (hx : CellsAt w A l) (hnil : A = none → cap = 0) (hlc : n ≤ cap) (hln : l.length = n) (hl : n ≤ 1000) :
    Calls Try.prog 30 #[.agg #[.int .i64 id, .string nm, .bool may, .slice A n cap]] w (PartPost ⟨id, nm, may, l, n⟩ 1 1 0 (l.map C2.v) 0 w) := by
  have hb : Below w.heap.size w (w.alloc (.cells #[.int .i64 id, .string nm, .bool may, .slice A n cap] 39)) := (Below.refl _ _).alloc (Nat.le_refl _) _
  have hr := heap_alloc_new w (.cells #[.int .i64 id, .string nm, .bool may, .slice A n cap] 39)
  obtain ⟨W, hW⟩ : ∃ W, w.alloc (.cells #[.int .i64 id, .string nm, .bool may, .slice A n cap] 39) = W := ⟨_, rfl⟩
  rw [hW] at hb hr
  have HW := Lib.hid hW
  have HB := Lib.hid hb
  have HLO := Lib.hid (loaded_any A cap l n W.drew (hx.kept (below_drew hb)) hnil hlc hln hl)
  obtain ⟨X, hX⟩ : ∃ X, w.heap.size = X := ⟨_, rfl⟩
  have HXX := Lib.hid hX
  rw [hX] at hr
  have HR := Lib.hid hr
  have c0 := cell_of_row _ _ 0 _ _ _ hr
  have c1 := cell_of_row _ _ 1 _ _ _ hr
  have c2 := cell_of_row _ _ 2 _ _ _ hr
  have c3 := cell_of_row _ _ 3 _ _ _ hr
  simp only [List.getElem?_toArray, List.getElem?_cons_zero, List.getElem?_cons_succ] at c0 c1 c2 c3
  clear hb hr hW hx hnil hlc hln hl hX
  go_enter Try.func30, Try.ntmps30
  go_upto_region 1 with fail
  rw [HW.out, HXX.out]
  go_region_held3 (fun wx => wx.cell? ⟨X, 0, none⟩ = some (.int .i64 id) ∧ wx.cell? ⟨X, 1, none⟩ = some (.string nm) ∧ wx.cell? ⟨X, 2, none⟩ = some (.bool may) ∧ wx.cell? ⟨X, 3, none⟩ = some (.slice A n cap))
    (first | exact HKP.out | (refine ⟨?_, ?_, ?_, ?_⟩ <;> assumption) | (go_keep; done))
    (first
      | (go_at_call 55; refine HLO.out.mono ?_; rintro e w2 ⟨cg, FA, fc, A', c, rfl, hic, hb2⟩; have HIC := Lib.hid hic; have hb3 : Below W.heap.size W w2 := (below_drew (Below.refl _ _)).trans hb2; have HB2 := Lib.hid hb3; have e0 := (hb3.cell (p := ⟨X, 0, none⟩) (Go.block_lt_of_cell c0)).trans c0; have e1 := (hb3.cell (p := ⟨X, 1, none⟩) (Go.block_lt_of_cell c1)).trans c1; have e2 := (hb3.cell (p := ⟨X, 2, none⟩) (Go.block_lt_of_cell c2)).trans c2; have e3 := (hb3.cell (p := ⟨X, 3, none⟩) (Go.block_lt_of_cell c3)).trans c3; have HKP : Hid (w2.cell? ⟨X, 0, none⟩ = some (.int .i64 id) ∧ w2.cell? ⟨X, 1, none⟩ = some (.string nm) ∧ w2.cell? ⟨X, 2, none⟩ = some (.bool may) ∧ w2.cell? ⟨X, 3, none⟩ = some (.slice A n cap)) := ⟨e0, e1, e2, e3⟩; clear hic hb2 hb3 e0 e1 e2 e3))
  all_goals
    go_wp2
    go_ret
    refine ⟨⟨w2.heap.size, cg, FA, fc, A', c⟩, rfl, ?_, ?_⟩
    · have hwl : w.heap.size ≤ W.heap.size := HB.out.size
      have hsz : W.drew.heap.size = W.heap.size := rfl
      have hw2 := HB2.out.size
      have h := HIC.out.keep ((Below.refl _ _).alloc (Nat.le_refl _) (.cells #[.int .i64 1, .int .i64 1, .int .i64 0, .pointer (some ⟨cg, 0, none⟩), .int .i64 id, .string nm, .bool may] 61))
      have hA := fun a ha => (own_at HIC.out.own a ha).2
      have hF := fun a ha => (own_at HIC.out.fst a ha).2
      have hcl := lt_of_block HIC.out.box
      have hge := h.ge
      rw [hsz] at h hge
      refine ⟨heap_alloc_new w2 _, ⟨h.box, own_base h.fst hwl, own_base h.own hwl, h.flen, h.nlen, by show w.heap.size ≤ cg; omega, h.d1, h.d2, h.d3⟩, ?_, ?_, ?_, ?_, ?_, ?_, ?_, ?_, Nat.le_refl _⟩
      · show w.heap.size ≤ w2.heap.size; omega
      · show w2.heap.size < _; simp
      · show cg < _; simp; omega
      · intro a ha; have := hA a ha; simp; omega
      · intro a ha; have := hF a ha; simp; omega
      · show w2.heap.size ≠ cg; omega
      · intro a ha; show a.block ≠ w2.heap.size; have := hA a ha; omega
      · intro a ha; show a.block ≠ w2.heap.size; have := hF a ha; omega
    · exact (HB.out.trans (HB2.out.mono HB.out.size)).alloc (Nat.le_trans HB.out.size HB2.out.size) _
/-- Rows of numbers of whatever lengths. -/
theorem equalUG_any (A D : Option Addr) (c d n k : Nat) (l m : List Nat) (w : World) (h1 : NumsAt w A l) (h2 : NumsAt w D m) (hl1 : l.length = n) (hl2 : m.length = k) (hl : n ≤ 1000) :
    Calls Try.prog 74 #[.slice A n c, .slice D k d] w fun e w' => e = .returned (.bool (decide (l = m))) ∧ ∃ q, w' = w.drewN q := by
  by_cases hk : n = k
  · subst hk
    exact equalU_any A D c d n l m w h1 h2 hl1 hl2 hl
  · have hb : decide (l = m) = false := decide_eq_false (fun e => hk (by rw [← hl1, ← hl2, e]))
    rw [hb]
    have t0 : ((n : Int) != (k : Int)) = true := by simp; omega
    have t1 : (n != k) = true := by simp; omega
    have t2 : ((n : Int) == (k : Int)) = false := by simp; omega
    have t3 : (n == k) = false := by simp; omega
    clear h1 h2 hl1 hl2 hl hb hk
    go_enter Try.func74, Try.ntmps74
    go_wp2
    go_ret
    exact ⟨rfl, 0, rfl⟩
/-- A shot: its numbers. -/
structure Sh where
  i : Int
  m : Int
  s : Int
  c : Int
  l : List Nat
def sameSh (x y : Sh) : Bool := decide (x.i = y.i ∧ x.m = y.m ∧ x.s = y.s ∧ x.c = y.c ∧ x.l = y.l)
set_option maxRecDepth 4000 in
set_option maxHeartbeats 800000 in
theorem sameshot_any (x y : Sh) (A D : Option Addr) (ac dc n k : Nat) (w : World) (h1 : NumsAt w A x.l) (h2 : NumsAt w D y.l) (hl1 : x.l.length = n) (hl2 : y.l.length = k) (hl : n ≤ 1000) :
    Calls Try.prog 53 #[.agg #[.int .i64 x.i, .int .i64 x.m, .int .i64 x.s, .int .i64 x.c, .slice A n ac], .agg #[.int .i64 y.i, .int .i64 y.m, .int .i64 y.s, .int .i64 y.c, .slice D k dc]] w fun e w' => e = .returned (.bool (sameSh x y)) ∧ Below w.heap.size w w' := by
  obtain ⟨xi, xm, xs, xc, xl⟩ := x
  obtain ⟨yi, ym, ys, yc, yl⟩ := y
  dsimp only at h1 h2 hl1 hl2
  dsimp only
  have hb0 : Below w.heap.size w (w.alloc (.cells #[.int .i64 xi, .int .i64 xm, .int .i64 xs, .int .i64 xc, .slice A n ac] 79)) := (Below.refl _ _).alloc (Nat.le_refl _) _
  have hr0 := heap_alloc_new w (.cells #[.int .i64 xi, .int .i64 xm, .int .i64 xs, .int .i64 xc, .slice A n ac] 79)
  obtain ⟨W0, hW0⟩ : ∃ W, w.alloc (.cells #[.int .i64 xi, .int .i64 xm, .int .i64 xs, .int .i64 xc, .slice A n ac] 79) = W := ⟨_, rfl⟩
  have hs0 : W0.heap.size = w.heap.size + 1 := by rw [← hW0]; simp
  rw [hW0] at hb0 hr0
  have hb1 : Below W0.heap.size W0 (W0.alloc (.cells #[.int .i64 yi, .int .i64 ym, .int .i64 ys, .int .i64 yc, .slice D k dc] 79)) := (Below.refl _ _).alloc (Nat.le_refl _) _
  have hr1 := heap_alloc_new W0 (.cells #[.int .i64 yi, .int .i64 ym, .int .i64 ys, .int .i64 yc, .slice D k dc] 79)
  have hr2 := (hb1.block _ (lt_of_block hr0)).trans hr0
  have hb2 := hb0.trans (hb1.mono hb0.size)
  obtain ⟨W, hW⟩ : ∃ W, W0.alloc (.cells #[.int .i64 yi, .int .i64 ym, .int .i64 ys, .int .i64 yc, .slice D k dc] 79) = W := ⟨_, rfl⟩
  rw [hW] at hb1 hr1 hr2 hb2
  rw [hs0] at hr1
  rw [← hW0] at hW
  have HW := Lib.hid hW
  have HBB := Lib.hid hb2
  have HE := Lib.hid (equalUG_any A D ac dc n k xl yl W (h1.kept hb2) (h2.kept hb2) hl1 hl2 hl)
  have a0 := cell_of_row _ _ 0 _ _ _ hr2
  have a1 := cell_of_row _ _ 1 _ _ _ hr2
  have a2 := cell_of_row _ _ 2 _ _ _ hr2
  have a3 := cell_of_row _ _ 3 _ _ _ hr2
  have a4 := cell_of_row _ _ 4 _ _ _ hr2
  have b0 := cell_of_row _ _ 0 _ _ _ hr1
  have b1 := cell_of_row _ _ 1 _ _ _ hr1
  have b2 := cell_of_row _ _ 2 _ _ _ hr1
  have b3 := cell_of_row _ _ 3 _ _ _ hr1
  have b4 := cell_of_row _ _ 4 _ _ _ hr1
  simp only [List.getElem?_toArray, List.getElem?_cons_zero, List.getElem?_cons_succ] at a0 a1 a2 a3 a4 b0 b1 b2 b3 b4
  clear hb0 hr0 hs0 hb1 hr1 hr2 hb2 hW hW0 h1 h2 hl1 hl2 hl
  unfold sameSh
  dsimp only
  by_cases q0 : xi = yi
  · by_cases q1 : xm = ym
    · by_cases q2 : xs = ys
      · by_cases q3 : xc = yc
        · subst q0 q1 q2 q3
          simp only [true_and]
          obtain ⟨b, hb⟩ : ∃ b, decide (xl = yl) = b := ⟨_, rfl⟩
          rw [hb] at HE
          rw [hb]
          clear hb
          go_enter Try.func53, Try.ntmps53
          go_upto_region 1 with fail
          rw [HW.out]
          go_wp2_with fail
          refine HE.out.mono ?_
          rintro e w2 ⟨rfl, q, rfl⟩
          go_wp2
          go_ret
          exact ⟨rfl, HBB.out.trans ⟨rfl, rfl, rfl, Nat.le_refl _, fun _ _ => rfl⟩⟩
        · have t3 : (xc == yc) = false := by simp [q3]
          subst q0 q1 q2
          rw [decide_eq_false (fun h => q3 h.2.2.2.1)]
          clear q3 HE
          go_enter Try.func53, Try.ntmps53
          go_upto_region 1 with fail
          rw [HW.out]
          go_wp2
          go_ret
          exact ⟨rfl, HBB.out⟩
      · have t2 : (xs == ys) = false := by simp [q2]
        subst q0 q1
        rw [decide_eq_false (fun h => q2 h.2.2.1)]
        clear q2 HE
        go_enter Try.func53, Try.ntmps53
        go_upto_region 1 with fail
        rw [HW.out]
        go_wp2
        go_ret
        exact ⟨rfl, HBB.out⟩
    · have t1 : (xm == ym) = false := by simp [q1]
      subst q0
      rw [decide_eq_false (fun h => q1 h.2.1)]
      clear q1 HE
      go_enter Try.func53, Try.ntmps53
      go_upto_region 1 with fail
      rw [HW.out]
      go_wp2
      go_ret
      exact ⟨rfl, HBB.out⟩
  · have t0 : (xi == yi) = false := by simp [q0]
    rw [decide_eq_false (fun h => q0 h.1)]
    clear q0 HE
    go_enter Try.func53, Try.ntmps53
    go_upto_region 1 with fail
    rw [HW.out]
    go_wp2
    go_ret
    exact ⟨rfl, HBB.out⟩
end

end Go.Proofs.Ytjdgpbjjhgfikaa.Pt
