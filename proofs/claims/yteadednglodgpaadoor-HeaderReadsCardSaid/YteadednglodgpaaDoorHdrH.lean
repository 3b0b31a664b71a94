
/- Words for the walk through the document's Get of a header. No condition. -/

import Derived.Test.YteadednglodgpaaDoorHdrD

import Derived.Test.YteadednglodgpaaDoorHdrC

import Derived.Deep.RegionHeld3

import Derived.Deep.CutRange

namespace Go.Proofs.YteadednglodgpaaDoor.Hdr

open Go.RowKit Go.PlainAid Go.Proofs.YteadednglodgpaaDoor.Oct Go.Proofs.YteadednglodgpaaDoor.Flt Go.Proofs.YteadednglodgpaaDoor.Rdr

set_option linter.unusedVariables false

set_option linter.unusedSimpArgs false

theorem three_facts (w : World) (o1 o2 o3 : Obj) : (((w.alloc o1).alloc o2).alloc o3).heap[w.heap.size]? = some o1 ∧ (((w.alloc o1).alloc o2).alloc o3).heap[w.heap.size + 1]? = some o2 ∧ (((w.alloc o1).alloc o2).alloc o3).heap[w.heap.size + 2]? = some o3 ∧ Below w.heap.size w (((w.alloc o1).alloc o2).alloc o3) := by
  refine ⟨?_, (third_facts w o1 o2 o3).1, (third_facts w o1 o2 o3).2.1, (third_facts w o1 o2 o3).2.2⟩
  rw [heap_alloc_old _ _ (by simp; omega), heap_alloc_old _ _ (by simp)]
  exact heap_alloc_new _ _
/-- The reader's block, the results' blocks as they were laid. -/
structure GF (w : World) (T : St) (W : World) : Prop where
  row : W.heap[w.heap.size]? = some (.cells (rdC T) 48 (0, 0))
  res : W.heap[w.heap.size + 1]? = some (.cells rd0 48 (0, 0))
  hres : W.heap[w.heap.size + 2]? = some (.cells hd0 36 (0, 0))
  below : Below w.heap.size w W
theorem GF.keep {w W W' : World} {T : St} (f : GF w T W) (b : Below W.heap.size W W') : GF w T W' :=
  ⟨(b.block _ (lt_of_block f.row)).trans f.row, (b.block _ (lt_of_block f.res)).trans f.res, (b.block _ (lt_of_block f.hres)).trans f.hres, f.below.trans (b.mono f.below.size)⟩
theorem GF.setRow {w W : World} {T : St} (f : GF w T W) (T' : St) : GF w T' (W.setRow w.heap.size (rdC T')) :=
  ⟨setRow_heap W _ _ _ _ _ f.row, (setRow_other _ _ _ _ (by omega)).trans f.res, (setRow_other _ _ _ _ (by omega)).trans f.hres, below_set2 f.below (Nat.le_refl _)⟩
theorem GF.far {w W : World} {T : St} (f : GF w T W) {g : Nat} (hg : w.heap.size + 2 < g) (cs : Array Value) : GF w T (W.setRow g cs) :=
  ⟨(setRow_other _ _ _ _ (by omega)).trans f.row, (setRow_other _ _ _ _ (by omega)).trans f.res, (setRow_other _ _ _ _ (by omega)).trans f.hres, below_set2 f.below (by omega)⟩
theorem GF.cell {w W : World} {T : St} (f : GF w T W) {g : Nat} (hg : w.heap.size + 2 < g) (o : Nat) (v : Value) : GF w T (W.setCell ⟨g, o, none⟩ v) :=
  ⟨(heap_setCell_other W _ _ v (by show _ ≠ g; omega)).trans f.row, (heap_setCell_other W _ _ v (by show _ ≠ g; omega)).trans f.res, (heap_setCell_other W _ _ v (by show _ ≠ g; omega)).trans f.hres, f.below.setCell (p := ⟨g, o, none⟩) (by show _ ≤ g; omega) v⟩
theorem GF.rows {w W : World} {T : St} (f : GF w T W) : W.cell? ⟨w.heap.size, 1, none⟩ = some (.int .i64 T.p) ∧ W.cell? ⟨w.heap.size, 3, none⟩ = some (.int .i64 T.k) := by
  constructor
  all_goals (rw [cell_of_row W _ _ _ _ _ f.row]; rfl)
theorem GF.size {w W : World} {T : St} (f : GF w T W) : w.heap.size + 2 < W.heap.size := lt_of_block f.hres
/-- The facts of a round's copies: the call's reader is laid behind, and is then the reader. -/
theorem GF.next {w W w1 : World} {T : St} (f : GF w T W) (T1 : St) (b : Below W.heap.size W w1) :
    (w1.alloc (.cells #[.string ⟨#[]⟩, .int .i64 0, .int .i64 0, .int .i64 0, .int .i64 0, .int .i64 0] 48)).heap[w1.heap.size]? = some (.cells rd0 48 (0, 0)) ∧
    ((w1.alloc (.cells #[.string ⟨#[]⟩, .int .i64 0, .int .i64 0, .int .i64 0, .int .i64 0, .int .i64 0] 48)).setRow w1.heap.size (rdC T1)).heap[w1.heap.size]? = some (.cells (rdC T1) 48 (0, 0)) ∧
    ((w1.alloc (.cells #[.string ⟨#[]⟩, .int .i64 0, .int .i64 0, .int .i64 0, .int .i64 0, .int .i64 0] 48)).setRow w1.heap.size (rdC T1)).heap[w.heap.size]? = some (.cells (rdC T) 48 (0, 0)) ∧
    GF w T1 (((w1.alloc (.cells #[.string ⟨#[]⟩, .int .i64 0, .int .i64 0, .int .i64 0, .int .i64 0, .int .i64 0] 48)).setRow w1.heap.size (rdC T1)).setRow w.heap.size (rdC T1)) := by
  have f1 := f.keep b
  have f2 := f1.keep (below_set2 (cs := rdC T1) ((Below.refl _ _).alloc (Nat.le_refl _) (.cells #[.string ⟨#[]⟩, .int .i64 0, .int .i64 0, .int .i64 0, .int .i64 0, .int .i64 0] 48)) (Nat.le_refl _))
  exact ⟨heap_alloc_new _ _, setRow_heap _ _ _ _ _ _ (heap_alloc_new _ _), f2.row, f2.setRow T1⟩
/-- Behind the beginning's bytes: the header's block besides. -/
structure G2 (w : World) (T : St) (H : Nat) (hx : Array Value) (W : World) : Prop where
  gf : GF w T W
  hdr : W.heap[H]? = some (.cells hx 36 (0, 0))
  lt : w.heap.size + 2 < H
theorem G2.keep {w W W' : World} {T : St} {H : Nat} {hx : Array Value} (f : G2 w T H hx W) (b : Below W.heap.size W W') : G2 w T H hx W' := ⟨f.gf.keep b, (b.block _ (lt_of_block f.hdr)).trans f.hdr, f.lt⟩
theorem G2.setRow {w W : World} {T : St} {H : Nat} {hx : Array Value} (f : G2 w T H hx W) (T' : St) : G2 w T' H hx (W.setRow w.heap.size (rdC T')) := ⟨f.gf.setRow T', (setRow_other _ _ _ _ (by have := f.lt; omega)).trans f.hdr, f.lt⟩
theorem G2.set {w W : World} {T : St} {H : Nat} {hx : Array Value} (f : G2 w T H hx W) (o : Nat) (v : Value) : G2 w T H (hx.setIfInBounds o v) (W.setCell ⟨H, o, none⟩ v) := ⟨f.gf.cell f.lt o v, heap_setCell_same W _ _ _ _ _ f.hdr, f.lt⟩
theorem results_row_row {P : Program} {fn : Func} {p q : Tmp} {ty ty' : TypeId} (h : fn.results = #[.cell p ty, .cell q ty']) (tmps : Array Value) (w : World) (g : Nat) (t : TypeId) (cs : Array Value) (fr : Nat × Nat) (d : TypeDesc)
    (hp : tmps.getD p undef = .pointer (some ⟨g, 0, none⟩)) (hg : w.heap[g]? = some (.cells cs t fr))
    (hu : P.underlying ty = some d) (hd : (match d with | .struct _ | .array _ _ => true | _ => false) = true) (hi : (P.info? ty).map (·.size) = some cs.size)
    (g' : Nat) (t' : TypeId) (cs' : Array Value) (fr' : Nat × Nat) (d' : TypeDesc) (hp' : tmps.getD q undef = .pointer (some ⟨g', 0, none⟩)) (hg' : w.heap[g']? = some (.cells cs' t' fr'))
    (hu' : P.underlying ty' = some d') (hd' : (match d' with | .struct _ | .array _ _ => true | _ => false) = true) (hi' : (P.info? ty').map (·.size) = some cs'.size) :
    (results fn tmps).run P w = .ok (.tuple #[.agg cs, .agg cs']) w := by
  have e1 : tmps[p]?.getD undef = .pointer (some ⟨g, 0, none⟩) := by simpa using hp
  have e2 : tmps[q]?.getD undef = .pointer (some ⟨g', 0, none⟩) := by simpa using hp'
  simp [results, h, e1, e2, asAddr, run_loadVar_row w g t ty cs fr d hg hu hd hi, run_loadVar_row w g' t' ty' cs' fr' d' hg' hu' hd' hi']
def six (w : World) (b : Nat) (T : St) : World :=
  (((((w.setCell ⟨b, 0, none⟩ (.string T.s)).setCell ⟨b, 1, none⟩ (.int .i64 T.p)).setCell ⟨b, 2, none⟩ (.int .i64 T.sec)).setCell ⟨b, 3, none⟩ (.int .i64 T.k)).setCell ⟨b, 4, none⟩ (.int .i64 T.fs)).setCell ⟨b, 5, none⟩ (.int .i64 T.fa)
theorem six_row {w : World} {b : Nat} {T : St} (h : w.heap[b]? = some (.cells rd0 48 (0, 0))) : (six w b T).heap[b]? = some (.cells (rdC T) 48 (0, 0)) := by
  have h0 := heap_setCell_same w b 0 _ _ (.string T.s) h
  have h1 := heap_setCell_same _ b 1 _ _ (.int .i64 T.p) h0
  have h2 := heap_setCell_same _ b 2 _ _ (.int .i64 T.sec) h1
  have h3 := heap_setCell_same _ b 3 _ _ (.int .i64 T.k) h2
  have h4 := heap_setCell_same _ b 4 _ _ (.int .i64 T.fs) h3
  have h5 := heap_setCell_same _ b 5 _ _ (.int .i64 T.fa) h4
  unfold six
  rw [h5]; rfl
theorem six_far {w : World} {b c : Nat} {T : St} (hne : c ≠ b) : (six w b T).heap[c]? = w.heap[c]? := by
  unfold six
  rw [heap_setCell_other _ _ _ _ hne, heap_setCell_other _ _ _ _ hne, heap_setCell_other _ _ _ _ hne, heap_setCell_other _ _ _ _ hne, heap_setCell_other _ _ _ _ hne, heap_setCell_other _ _ _ _ hne]
theorem six_size (w : World) (b : Nat) (T : St) : (six w b T).heap.size = w.heap.size := by simp [six]
theorem six_below (w : World) (b : Nat) (T : St) : Below 0 w (six w b T) :=
  ((((((Below.refl 0 w).setCell (p := ⟨b, 0, none⟩) (Nat.zero_le _) _).setCell (p := ⟨b, 1, none⟩) (Nat.zero_le _) _).setCell (p := ⟨b, 2, none⟩) (Nat.zero_le _) _).setCell (p := ⟨b, 3, none⟩) (Nat.zero_le _) _).setCell (p := ⟨b, 4, none⟩) (Nat.zero_le _) _).setCell (p := ⟨b, 5, none⟩) (Nat.zero_le _) _
def hrow (v0 v1 v2 : Nat) (T : St) : Nat → Array Value
  | 2 => #[.int .u32 v0, .int .u64 v1, .int .i64 v2, .int .i64 (cntV T 0), .int .i64 0, .int .i64 0, .int .i64 0]
  | 3 => #[.int .u32 v0, .int .u64 v1, .int .i64 v2, .int .i64 (cntV T 0), .int .i64 (cntV T 1), .int .i64 0, .int .i64 0]
  | 4 => #[.int .u32 v0, .int .u64 v1, .int .i64 v2, .int .i64 (cntV T 0), .int .i64 (cntV T 1), .int .i64 (cntV T 2), .int .i64 0]
  | 5 => #[.int .u32 v0, .int .u64 v1, .int .i64 v2, .int .i64 (cntV T 0), .int .i64 (cntV T 1), .int .i64 (cntV T 2), .int .i64 (cntV T 3)]
  | _ => #[.int .u32 v0, .int .u64 v1, .int .i64 v2, .int .i64 0, .int .i64 0, .int .i64 0, .int .i64 0]
def szC : Array Value := #[.int .i64 0, .int .i64 1, .int .i64 1, .int .i64 2, .int .i64 2]
def LRel (w : World) (T : St) (H Z v0 v1 v2 : Nat) (i : Value) (wr : World) : Prop :=
  ∃ m : Nat, 1 ≤ m ∧ m ≤ 5 ∧ i = .int .i64 m ∧ G2 w (cntN T (m - 1)) H (hrow v0 v1 v2 T m) wr ∧ wr.heap[Z]? = some (.cells szC 3 (0, 0))
/-- What stands behind the document's Num within a round: the reader's cells, the count's size; and then the copy. -/
structure R20 (w : World) (T0 : St) (H : Nat) (hx : Array Value) (Z : Nat) (w1 : World) : Prop where
  g2 : G2 w T0 H hx w1
  sz : w1.heap[Z]? = some (.cells szC 3 (0, 0))
abbrev S7 (w : World) (T0 : St) (Z m : Nat) (n : Int) (wx : World) : Prop := wx.cell? ⟨w.heap.size, 0, none⟩ = some (.string T0.s) ∧ wx.cell? ⟨w.heap.size, 1, none⟩ = some (.int .i64 T0.p) ∧ wx.cell? ⟨w.heap.size, 2, none⟩ = some (.int .i64 T0.sec) ∧ wx.cell? ⟨w.heap.size, 3, none⟩ = some (.int .i64 T0.k) ∧ wx.cell? ⟨w.heap.size, 4, none⟩ = some (.int .i64 T0.fs) ∧ wx.cell? ⟨w.heap.size, 5, none⟩ = some (.int .i64 T0.fa) ∧ wx.cell? ⟨Z, m, none⟩ = some (.int .i64 n)
theorem R20.s7 {w w1 : World} {T0 : St} {H Z : Nat} {hx : Array Value} (f : R20 w T0 H hx Z w1) (m : Nat) (n : Int) (h : szC[m]? = some (.int .i64 n)) : S7 w T0 Z m n w1 := by
  refine ⟨?_, ?_, ?_, ?_, ?_, ?_, ?_⟩
  iterate 6 (rw [cell_of_row w1 _ _ _ _ _ f.g2.gf.row]; rfl)
  rw [cell_of_row w1 _ _ _ _ _ f.sz]; exact h
theorem R20.keep {w W w1 : World} {T0 : St} {H Z : Nat} {hx : Array Value} (f : R20 w T0 H hx Z W) (b : Below W.heap.size W w1) : R20 w T0 H hx Z w1 := ⟨f.g2.keep b, (b.block _ (lt_of_block f.sz)).trans f.sz⟩
theorem R20.drewn {w W w1 : World} {T0 : St} {H Z : Nat} {hx : Array Value} (f : R20 w T0 H hx Z W) (b : Below W.drew.heap.size W.drew w1) : R20 w T0 H hx Z w1 := f.keep ⟨b.os, b.tape, b.output, b.size, b.block⟩
theorem R20.row {w W : World} {T0 : St} {H Z : Nat} {hx : Array Value} (f : R20 w T0 H hx Z W) (hz : H < Z) (T' : St) : R20 w T' H hx Z (W.setRow w.heap.size (rdC T')) := ⟨f.g2.setRow T', (setRow_other _ _ _ _ (by have := f.g2.lt; omega)).trans f.sz⟩
theorem R20.set {w W : World} {T0 : St} {H Z : Nat} {hx : Array Value} (f : R20 w T0 H hx Z W) (hz : H < Z) (o : Nat) (v : Value) : R20 w T0 H (hx.setIfInBounds o v) Z (W.setCell ⟨H, o, none⟩ v) := ⟨f.g2.set o v, (heap_setCell_other W _ _ v (by show Z ≠ H; omega)).trans f.sz⟩
/-- The copy's row, and the reader's behind it. -/
theorem R20.next {w w1 : World} {T0 T1 : St} {H Z : Nat} {hx : Array Value} (f : R20 w T0 H hx Z w1) :
    ((w1.alloc (.cells #[.string T1.s, .int .i64 T1.p, .int .i64 T1.sec, .int .i64 T1.k, .int .i64 T1.fs, .int .i64 T1.fa] 48)).drew).heap[w1.heap.size]? = some (.cells (rdC T1) 48 (0, 0)) ∧ R20 w T0 H hx Z (w1.alloc (.cells #[.string T1.s, .int .i64 T1.p, .int .i64 T1.sec, .int .i64 T1.k, .int .i64 T1.fs, .int .i64 T1.fa] 48)).drew ∧ R20 w T0 H hx Z (w1.alloc (.cells #[.string T1.s, .int .i64 T1.p, .int .i64 T1.sec, .int .i64 T1.k, .int .i64 T1.fs, .int .i64 T1.fa] 48)) := by
  have e : ∀ W : World, W.drew.heap = W.heap := fun _ => rfl
  have h1 := (Below.refl w1.heap.size w1).alloc (Nat.le_refl _) (.cells (rdC T1) 48)
  exact ⟨by rw [e]; exact heap_alloc_new _ _, f.keep ⟨h1.os, h1.tape, h1.output, h1.size, h1.block⟩, f.keep h1⟩
/-- The copy's block is laid ahead of the call. -/
theorem R20.before {w W w1 : World} {T0 : St} {H Z : Nat} {hx : Array Value} {o : Obj} (f : R20 w T0 H hx Z W) (b : Below (W.alloc o).drew.heap.size (W.alloc o).drew w1) : R20 w T0 H hx Z w1 ∧ w1.heap[W.heap.size]? = some o := by
  have h1 := (Below.refl W.heap.size W).alloc (Nat.le_refl _) o
  have h2 : Below (W.alloc o).heap.size (W.alloc o) w1 := ⟨b.os, b.tape, b.output, b.size, b.block⟩
  exact ⟨(f.keep h1).keep h2, (h2.block _ (by simp)).trans (heap_alloc_new _ _)⟩
theorem R20.poked {w W : World} {T0 : St} {H Z X : Nat} {hx : Array Value} (f : R20 w T0 H hx Z W) (h1 : w.heap.size + 2 < X) (h2 : H ≠ X) (h3 : Z ≠ X) (T1 : St) : R20 w T0 H hx Z (six W X T1) := by
  have hb := six_below W X T1
  refine ⟨⟨⟨(six_far (by omega)).trans f.g2.gf.row, (six_far (by omega)).trans f.g2.gf.res, (six_far (by omega)).trans f.g2.gf.hres, ?_⟩, (six_far h2).trans f.g2.hdr, f.g2.lt⟩, (six_far h3).trans f.sz⟩
  have h := f.g2.gf.below
  exact ⟨hb.os.trans h.os, hb.tape.trans h.tape, hb.output.trans h.output, Nat.le_trans h.size hb.size, fun k hk => (six_far (by omega)).trans (h.block k hk)⟩
theorem R20.drew {w W : World} {T0 : St} {H Z : Nat} {hx : Array Value} (f : R20 w T0 H hx Z W) : R20 w T0 H hx Z W.drew := f.keep ⟨rfl, rfl, rfl, Nat.le_refl _, fun _ _ => rfl⟩
theorem zero_cells {W : World} {X : Nat} (h : W.heap[X]? = some (.cells #[.string ⟨#[]⟩, .int .i64 0, .int .i64 0, .int .i64 0, .int .i64 0, .int .i64 0] 48 (0, 0))) :
    W.cell? ⟨X, 0, none⟩ = some (.string ⟨#[]⟩) ∧ W.cell? ⟨X, 1, none⟩ = some (.int .i64 0) ∧ W.cell? ⟨X, 2, none⟩ = some (.int .i64 0) ∧ W.cell? ⟨X, 3, none⟩ = some (.int .i64 0) ∧ W.cell? ⟨X, 4, none⟩ = some (.int .i64 0) ∧ W.cell? ⟨X, 5, none⟩ = some (.int .i64 0) ∧ ∀ o, W.frozen? ⟨X, o, none⟩ = false := by
  refine ⟨?_, ?_, ?_, ?_, ?_, ?_, fun o => frozen_of_row W _ _ _ _ h⟩
  all_goals (rw [cell_of_row W _ _ _ _ _ h]; rfl)
theorem six_row_drew {W : World} {X : Nat} (h : W.heap[X]? = some (.cells rd0 48 (0, 0))) (T1 : St) : (six W X T1).drew.heap[X]? = some (.cells (rdC T1) 48 (0, 0)) := by
  have e : ∀ W : World, W.drew.heap = W.heap := fun _ => rfl
  rw [e]; exact six_row h
theorem R20.copied {w w1 : World} {T0 T1 : St} {H Z : Nat} {hx : Array Value} (f : R20 w T0 H hx Z w1) :
    (w1.alloc (.cells #[.string T1.s, .int .i64 T1.p, .int .i64 T1.sec, .int .i64 T1.k, .int .i64 T1.fs, .int .i64 T1.fa] 48)).heap[w1.heap.size]? = some (.cells (rdC T1) 48 (0, 0)) ∧ R20 w T0 H hx Z (w1.alloc (.cells #[.string T1.s, .int .i64 T1.p, .int .i64 T1.sec, .int .i64 T1.k, .int .i64 T1.fs, .int .i64 T1.fa] 48)) :=
  ⟨heap_alloc_new _ _, f.next.2.2⟩
theorem R20.sixed {w W : World} {T0 : St} {H Z X : Nat} {hx : Array Value} (f : R20 w T0 H hx Z W) (h1 : w.heap.size + 2 < X) (h2 : H ≠ X) (h3 : Z ≠ X) (T1 : St) (h : W.heap[X]? = some (.cells rd0 48 (0, 0))) :
    (six W X T1).heap[X]? = some (.cells (rdC T1) 48 (0, 0)) ∧ R20 w T0 H hx Z (six W X T1) := ⟨six_row h, f.poked h1 h2 h3 T1⟩
end Go.Proofs.YteadednglodgpaaDoor.Hdr
