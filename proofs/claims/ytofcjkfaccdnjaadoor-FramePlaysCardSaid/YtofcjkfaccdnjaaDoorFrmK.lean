
/- Frames: the document's engine. Condition: slices have at most the greatest length. -/

import Derived.Test.YtofcjkfaccdnjaaDoorFrmI

namespace Go.Proofs.YtofcjkfaccdnjaaDoor.Frm

open Go.RowKit Go.PlainAid Go.Proofs.YtofcjkfaccdnjaaDoor.Oct Go.Proofs.YtofcjkfaccdnjaaDoor.Flt Go.Proofs.YtofcjkfaccdnjaaDoor.Rdr Go.Proofs.YtofcjkfaccdnjaaDoor.Args Go.Proofs.YtofcjkfaccdnjaaDoor.Win Go.Proofs.YtofcjkfaccdnjaaDoor.Tab Go.Proofs.YtofcjkfaccdnjaaDoor.Clk

open Go.Proofs.YtofcjkfaccdnjaaDoor.Act (A3 actL flatA ActsAt I64 Wide list_of)

open Go.Proofs.YtofcjkfaccdnjaaDoor.Scd (SC scC rgS rgS_in rowB sright09_any ScdAt WideS scheds_of)

set_option linter.unusedVariables false

set_option linter.unusedSimpArgs false

theorem num_of {x : A3} (h : rowB x = true) : Num x ∧ 0 ≤ x.s ∧ x.s ≤ 255 := by
  unfold rowB Go.Proofs.YtofcjkfaccdnjaaDoor.Scd.tkB Go.Proofs.YtofcjkfaccdnjaaDoor.Act.idB at h
  simp at h
  unfold Num
  omega
theorem num_all {x : SC} (h : rgS x = 0) : ∀ y ∈ x.ws, Num y := fun y hy => (num_of ((rgS_in h).2.2.2.1 y hy)).1
/-- The document's schedule of an id that has a table. -/
theorem get_ok (A : Option Addr) (cap n : Nat) (l : List SC) (Ts : List TR) (id : Int) (w : World) (h : ScdAt w A l) (hn : l.length = n) (hl : n ≤ maxLen) (ht : Ts.length = l.length) (hlk : ∀ (i : Nat) (x : SC) (X : TR), l[i]? = some x → Ts[i]? = some X → Like x X) (hp : pick Ts id ≠ none) :
    Calls Tryd.prog 10 #[.slice A n cap, .int .i64 id] w fun e w' => ∃ x X B cb C cc, pick Ts id = some X ∧ Like x X ∧ x ∈ l ∧ e = .returned (.tuple #[.agg (scC x B cb C cc), .bool true]) ∧ ActsAt w' B x.ws ∧ ActsAt w' C x.ns ∧ Below w.heap.size w w' := by
  refine (get18_any A cap n l id w h hn hl).mono ?_
  rintro e w' ⟨hb, ⟨h1, _⟩ | ⟨x, B, cb, C, cc, h1, h2, h3, h4⟩⟩
  · rcases pick_like id ht hlk with ⟨_, h⟩ | ⟨x, X, h, _⟩
    · exact absurd h hp
    · rw [h1] at h; cases h
  · rcases pick_like id ht hlk with ⟨_, h⟩ | ⟨x', X, h, h5, h6, h7⟩
    · exact absurd h hp
    · rw [h1] at h
      obtain rfl := Option.some.inj h
      exact ⟨x, X, B, cb, C, cc, h5, h6, h7, h2, h3, h4, hb⟩
/-- Schedules that may be asked about, and their tables. -/
structure LK (w : World) (A : Option Addr) (n : Nat) (l : List SC) (ids : List Int) (Ts : List TR) : Prop where
  at_ : ScdAt w A l
  len : l.length = n
  n8 : n ≤ 8
  tl : Ts.length = l.length
  like : ∀ (i : Nat) (x : SC) (X : TR), l[i]? = some x → Ts[i]? = some X → Like x X
  ok : ∀ x ∈ l, OkS ids x
theorem LK.kept {w w' : World} {A : Option Addr} {n : Nat} {l : List SC} {ids : List Int} {Ts : List TR} (h : LK w A n l ids Ts) (b : Below w.heap.size w w') : LK w' A n l ids Ts := ⟨h.at_.kept b, h.len, h.n8, h.tl, h.like, h.ok⟩
def engC (A : Option Addr) (n cap : Nat) (cur due t now frames : Int) : Array Value := #[.slice A n cap, .int .i64 cur, .int .i64 due, .int .i64 t, .int .u64 now, .int .u64 frames]
theorem size_en : (Tryd.prog.info? 41).map (·.size) = some 6 := by kernel_rfl
theorem one_en (A : Option Addr) (n cap : Nat) (cur due t now frames : Int) : (engC A n cap cur due t now frames).all (·.oneCell') = true := by simp [engC, Value.oneCell']
section

variable {w : World} {A : Option Addr} {n : Nat} {l : List SC} {ids : List Int} {Ts : List TR}

theorem LK.get (h : LK w A n l ids Ts) (cap : Nat) (id : Int) (hp : pick Ts id ≠ none) :
    Calls Tryd.prog 10 #[.slice A n cap, .int .i64 id] w fun e w' => ∃ x X B cb C cc, pick Ts id = some X ∧ Like x X ∧ x ∈ l ∧ e = .returned (.tuple #[.agg (scC x B cb C cc), .bool true]) ∧ ActsAt w' B x.ws ∧ ActsAt w' C x.ns ∧ Below w.heap.size w w' :=
  get_ok A cap n l Ts id w h.at_ h.len (by have := h.n8; unfold maxLen; omega) h.tl h.like hp
set_option maxRecDepth 4000 in
set_option maxHeartbeats 1600000 in
theorem rowner18_any (h : LK w A n l ids Ts) (cap : Nat) (cur due : Int) (t : Nat) (now frames : Int) (X : TR) (hp : pick Ts cur = some X) :
    Calls Tryd.prog 32 #[.agg (engC A n cap cur due t now frames)] w fun e w' => e = .returned (.int .i64 (X.f (t : Int))) ∧ Below w.heap.size w w' := by
  obtain ⟨fv, hfv⟩ : ∃ v, X.f (t : Int) = v := ⟨_, rfl⟩
  have HFV := Lib.hid hfv
  rw [hfv]
  clear hfv
  have hb0 : Below w.heap.size w (w.alloc (.cells (engC A n cap cur due t now frames) 41)) := (Below.refl _ _).alloc (Nat.le_refl _) _
  have hrow := heap_alloc_new w (.cells (engC A n cap cur due t now frames) 41)
  have HG := Lib.hid ((h.kept hb0).get cap cur (by rw [hp]; simp))
  have HOK := Lib.hid h.ok
  have HB0 := Lib.hid hb0
  have HR0 := Lib.hid hrow
  have HP := Lib.hid hp
  unfold engC at HG HB0 HR0 ⊢
  have e0 := cell_of_row _ _ 0 _ _ _ HR0.out
  have e1 := cell_of_row _ _ 1 _ _ _ HR0.out
  simp only [List.getElem?_toArray, List.getElem?_cons_zero, List.getElem?_cons_succ] at e0 e1
  clear h hb0 hrow hp
  go_enter Tryd.func32, Tryd.ntmps32
  go_wp2_with fail
  refine HG.out.mono ?_
  rintro e w9 ⟨x1, X1, B, cb, C, cc, hX, hlk, hmem, rfl, hB, hC, hb9⟩
  have HB9 := Lib.hid (HB0.out.trans (hb9.mono HB0.out.size))
  have HR9 := Lib.hid ((hb9.block _ (lt_of_block HR0.out)).trans HR0.out)
  have hok := HOK.out x1 hmem
  have hXX : X = X1 := by have h := HP.out; rw [hX] at h; exact (Option.some.inj h).symm
  have hfr := hlk.fr
  have hff := hlk.f
  rw [← hXX] at hfr hff
  rw [← hfr] at hff
  have hf60 : X.fr ≤ 60 := by have := hok.fr; omega
  have HOW : Hid (∀ W, Below w9.heap.size w9 W → _) := fun W b => rowner_any x1.id (X.fr : Int) (t : Int) B cb x1.ws C x1.ns.length cc W (hB.kept b) (num_all hok.rg) ⟨by omega, by omega⟩ (by have := hok.ws; omega)
  rw [← hff] at HOW
  obtain ⟨xfr, hxf⟩ : ∃ m, X.fr = m := ⟨_, rfl⟩
  rw [hxf] at HOW hfr
  rw [HFV.out] at HOW
  clear hX hlk hmem hB hC hb9 hok hxf hff hXX HG e0 e1 HR0 hf60 HP HFV
  obtain ⟨id1, fr1, ws1, ns1⟩ := x1
  dsimp only at hfr HOW
  subst hfr
  unfold scC
  dsimp only
  obtain ⟨nw1, hnw1⟩ : ∃ m, ws1.length = m := ⟨_, rfl⟩
  obtain ⟨nn1, hnn1⟩ : ∃ m, ns1.length = m := ⟨_, rfl⟩
  rw [hnw1] at HOW ⊢
  rw [hnn1] at HOW ⊢
  clear hnw1 hnn1
  have hbx : Below w9.heap.size w9 (w9.alloc (.cells #[.int .i64 id1, .int .i64 (xfr : Int), .slice B nw1 cb, .slice C nn1 cc] 37)) := (Below.refl _ _).alloc (Nat.le_refl _) _
  have hrx := heap_alloc_new w9 (.cells #[.int .i64 id1, .int .i64 (xfr : Int), .slice B nw1 cb, .slice C nn1 cc] 37)
  have y0 := cell_of_row _ _ 0 _ _ _ hrx
  have y1 := cell_of_row _ _ 1 _ _ _ hrx
  have y2 := cell_of_row _ _ 2 _ _ _ hrx
  have y3 := cell_of_row _ _ 3 _ _ _ hrx
  have e3 := cell_of_row _ _ 3 _ _ _ ((hbx.block _ (lt_of_block HR9.out)).trans HR9.out)
  simp only [List.getElem?_toArray, List.getElem?_cons_zero, List.getElem?_cons_succ] at y0 y1 y2 y3 e3
  have HBX := Lib.hid (HB9.out.trans (hbx.mono HB9.out.size))
  have HWX := Lib.hid (HOW.out _ hbx)
  clear hbx hrx HB9 HOW HR9
  go_wp2_with fail
  refine HWX.out.mono ?_
  rintro e w10 ⟨rfl, hb10⟩
  have HB10 := Lib.hid (HBX.out.trans (hb10.mono HBX.out.size))
  clear hb10
  go_wp2
  go_ret
  exact ⟨rfl, HB10.out⟩
set_option maxRecDepth 4000 in
set_option maxHeartbeats 1600000 in
theorem rleft18_any (h : LK w A n l ids Ts) (cap : Nat) (cur due : Int) (t : Nat) (now frames : Int) (X : TR) (hp : pick Ts cur = some X) (ht : t ≤ 60) :
    Calls Tryd.prog 33 #[.agg (engC A n cap cur due t now frames)] w fun e w' => e = .returned (.int .i64 ((X.fr : Int) - t)) ∧ Below w.heap.size w w' := by
  obtain ⟨rv, hrv⟩ : ∃ r, (X.fr : Int) - t = r := ⟨_, rfl⟩
  have HRV := Lib.hid hrv
  have HT := Lib.hid ht
  rw [hrv]
  clear hrv ht
  have hb0 : Below w.heap.size w (w.alloc (.cells (engC A n cap cur due t now frames) 41)) := (Below.refl _ _).alloc (Nat.le_refl _) _
  have hrow := heap_alloc_new w (.cells (engC A n cap cur due t now frames) 41)
  have HG := Lib.hid ((h.kept hb0).get cap cur (by rw [hp]; simp))
  have HOK := Lib.hid h.ok
  have HB0 := Lib.hid hb0
  have HR0 := Lib.hid hrow
  have HP := Lib.hid hp
  unfold engC at HG HB0 HR0 ⊢
  have e0 := cell_of_row _ _ 0 _ _ _ HR0.out
  have e1 := cell_of_row _ _ 1 _ _ _ HR0.out
  simp only [List.getElem?_toArray, List.getElem?_cons_zero, List.getElem?_cons_succ] at e0 e1
  clear h hb0 hrow hp
  go_enter Tryd.func33, Tryd.ntmps33
  go_wp2_with fail
  refine HG.out.mono ?_
  rintro e w9 ⟨x1, X1, B, cb, C, cc, hX, hlk, hmem, rfl, hB, hC, hb9⟩
  have HB9 := Lib.hid (HB0.out.trans (hb9.mono HB0.out.size))
  have HR9 := Lib.hid ((hb9.block _ (lt_of_block HR0.out)).trans HR0.out)
  have hok := HOK.out x1 hmem
  have hXX : X = X1 := by have h := HP.out; rw [hX] at h; exact (Option.some.inj h).symm
  have hfr := hlk.fr
  rw [← hXX] at hfr
  have hf60 : X.fr ≤ 60 := by have := hok.fr; omega
  have hsub : IntKind.i64.wrap ((X.fr : Int) - t) = rv := by rw [← HRV.out]; exact IntWalk.i64_in _ (by have := HT.out; omega)
  obtain ⟨xfr, hxf⟩ : ∃ m, X.fr = m := ⟨_, rfl⟩
  rw [hxf] at hfr hsub
  clear hX hlk hmem hB hC hb9 hok hxf hXX HG e0 e1 HR0 hf60 HP HT HRV
  obtain ⟨id1, fr1, ws1, ns1⟩ := x1
  dsimp only at hfr
  subst hfr
  unfold scC
  dsimp only
  obtain ⟨nw1, hnw1⟩ : ∃ m, ws1.length = m := ⟨_, rfl⟩
  obtain ⟨nn1, hnn1⟩ : ∃ m, ns1.length = m := ⟨_, rfl⟩
  rw [hnw1, hnn1]
  clear hnw1 hnn1
  have hbx : Below w9.heap.size w9 (w9.alloc (.cells #[.int .i64 id1, .int .i64 (xfr : Int), .slice B nw1 cb, .slice C nn1 cc] 37)) := (Below.refl _ _).alloc (Nat.le_refl _) _
  have hrx := heap_alloc_new w9 (.cells #[.int .i64 id1, .int .i64 (xfr : Int), .slice B nw1 cb, .slice C nn1 cc] 37)
  have y1 := cell_of_row _ _ 1 _ _ _ hrx
  have e3 := cell_of_row _ _ 3 _ _ _ ((hbx.block _ (lt_of_block HR9.out)).trans HR9.out)
  simp only [List.getElem?_toArray, List.getElem?_cons_zero, List.getElem?_cons_succ] at y1 e3
  have HBX := Lib.hid (HB9.out.trans (hbx.mono HB9.out.size))
  clear hbx hrx HB9 HR9
  go_wp2
  go_ret
  exact ⟨rfl, HBX.out⟩
theorem LK.get_no (h : LK w A n l ids Ts) (cap : Nat) (id : Int) (hp : pick Ts id = none) :
    Calls Tryd.prog 10 #[.slice A n cap, .int .i64 id] w fun e w' => e = .returned (.tuple #[.agg #[.int .i64 0, .int .i64 0, .slice none 0 0, .slice none 0 0], .bool false]) ∧ Below w.heap.size w w' := by
  refine (get18_any A cap n l id w h.at_ h.len (by have := h.n8; unfold maxLen; omega)).mono ?_
  rintro e w' ⟨hb, ⟨h1, h2⟩ | ⟨x, B, cb, C, cc, h1, h2, h3, h4⟩⟩
  · exact ⟨h2, hb⟩
  · rcases pick_like id h.tl h.like with ⟨h5, _⟩ | ⟨x', X, _, h5, _⟩
    · rw [h1] at h5; cases h5
    · rw [hp] at h5; cases h5
end

theorem results_row_tmp3 {P : Program} {fn : Func} {p u v x : Tmp} {ty : TypeId} (h : fn.results = #[.cell p ty, .tmp u, .tmp v, .tmp x]) (tmps : Array Value) (w : World) (g : Nat) (t : TypeId) (cs : Array Value) (fr : Nat × Nat) (d : TypeDesc)
    (hp : tmps.getD p undef = .pointer (some ⟨g, 0, none⟩)) (hg : w.heap[g]? = some (.cells cs t fr))
    (hu : P.underlying ty = some d) (hd : (match d with | .struct _ | .array _ _ => true | _ => false) = true) (hi : (P.info? ty).map (·.size) = some cs.size) :
    (results fn tmps).run P w = .ok (.tuple #[.agg cs, tmps.getD u undef, tmps.getD v undef, tmps.getD x undef]) w := by
  have hp' : tmps[p]?.getD undef = .pointer (some ⟨g, 0, none⟩) := by simpa using hp
  simp [results, h, hp', asAddr, run_loadVar_row w g t ty cs fr d hg hu hd hi]
def zE : Array Value := #[.slice none 0 0, .int .i64 0, .int .i64 0, .int .i64 0, .int .u64 0, .int .u64 0]
/-- The engine's box, and the result's beside it. -/
structure EB (w W : World) (cs : Array Value) : Prop where
  box : W.heap[w.heap.size]? = some (.cells cs 41 (0, 0))
  res : W.heap[w.heap.size + 1]? = some (.cells zE 41 (0, 0))
  below : Below w.heap.size w W
section

variable {w W W' : World} {cs : Array Value} {A : Option Addr} {n cap : Nat} {cur due t now frames : Int}

theorem EB.start (w : World) (cs : Array Value) : EB w ((w.alloc (.cells cs 41)).alloc (.cells zE 41)) cs := by
  have h1 : Below w.heap.size w (w.alloc (.cells cs 41)) := (Below.refl _ _).alloc (Nat.le_refl _) _
  have h2 : Below (w.alloc (.cells cs 41)).heap.size (w.alloc (.cells cs 41)) ((w.alloc (.cells cs 41)).alloc (.cells zE 41)) := (Below.refl _ _).alloc (Nat.le_refl _) _
  have h3 := heap_alloc_new w (.cells cs 41)
  have h4 := heap_alloc_new (w.alloc (.cells cs 41)) (.cells zE 41)
  rw [World.size_alloc] at h4
  exact ⟨(h2.block _ (lt_of_block h3)).trans h3, h4, h1.trans (h2.mono h1.size)⟩
theorem EB.keep (f : EB w W cs) (b : Below W.heap.size W W') : EB w W' cs :=
  ⟨(b.block _ (lt_of_block f.box)).trans f.box, (b.block _ (lt_of_block f.res)).trans f.res, f.below.trans (b.mono f.below.size)⟩
theorem EB.set (f : EB w W cs) (o : Nat) (v : Value) : EB w (W.setCell ⟨w.heap.size, o, none⟩ v) (cs.setIfInBounds o v) := by
  refine ⟨?_, (heap_setCell_other W ⟨w.heap.size, o, none⟩ _ v (by show w.heap.size + 1 ≠ w.heap.size; omega)).trans f.res, f.below.trans (below_set _ _ _ _)⟩
  rw [setCell_eq_setRow W w.heap.size o _ _ (0, 0) _ f.box]
  exact setRow_heap _ _ _ _ _ _ f.box
theorem EB.cells (f : EB w W (engC A n cap cur due t now frames)) :
    W.cell? ⟨w.heap.size, 0, none⟩ = some (.slice A n cap) ∧ W.cell? ⟨w.heap.size, 1, none⟩ = some (.int .i64 cur) ∧ W.cell? ⟨w.heap.size, 2, none⟩ = some (.int .i64 due) ∧ W.cell? ⟨w.heap.size, 3, none⟩ = some (.int .i64 t) ∧ W.cell? ⟨w.heap.size, 4, none⟩ = some (.int .u64 now) ∧ W.cell? ⟨w.heap.size, 5, none⟩ = some (.int .u64 frames) := by
  refine ⟨?_, ?_, ?_, ?_, ?_, ?_⟩
  all_goals (rw [cell_of_row W _ _ _ _ _ f.box]; rfl)
theorem EB.put (f : EB w W cs) (vs : Array Value) : (W.setRow (w.heap.size + 1) vs).heap[w.heap.size + 1]? = some (.cells vs 41 (0, 0)) ∧ Below w.heap.size w (W.setRow (w.heap.size + 1) vs) :=
  ⟨setRow_heap _ _ _ _ _ _ f.res, Go.Proofs.YtofcjkfaccdnjaaDoor.Rdr.below_setRow f.below (Nat.le_succ w.heap.size)⟩
theorem EB.free (f : EB w W cs) (o : Nat) : W.frozen? ⟨w.heap.size, o, none⟩ = false := by simp [World.frozen?, f.box]
end

section

variable {w : World} {A : Option Addr} {n : Nat} {l : List SC} {ids : List Int} {Ts : List TR}

def RTick (w : World) (A : Option Addr) (n cap : Nat) (cur due : Int) (t now frames : Nat) (X : TR) (e : Ending) (w' : World) : Prop :=
  Below w.heap.size w w' ∧
  ((now = 18446744073709551615 ∧ e = .returned (.tuple #[.agg (engC A n cap cur due t now frames), .int .i64 (-1), .bool false, .bool false])) ∨
   (now < 18446744073709551615 ∧ t + 1 < X.fr ∧ e = .returned (.tuple #[.agg (engC A n cap cur due ((t : Int) + 1) ((now : Int) + 1) frames), .int .i64 (X.f (t : Int)), .bool false, .bool true])) ∨
   (now < 18446744073709551615 ∧ t + 1 = X.fr ∧ e = .returned (.tuple #[.agg (engC A n cap due due 0 ((now : Int) + 1) ((frames : Int) + 1)), .int .i64 (X.f (t : Int)), .bool true, .bool true])))
set_option maxRecDepth 8000 in
set_option maxHeartbeats 6400000 in
theorem rtick18_any (h : LK w A n l ids Ts) (cap : Nat) (cur due : Int) (t now frames : Nat) (X : TR) (hp : pick Ts cur = some X) (ht : t < X.fr) (hx : X.fr ≤ 60) (hm : now ≤ 18446744073709551615) (hf : frames ≤ now) :
    Calls Tryd.prog 13 #[.agg (engC A n cap cur due t now frames)] w (RTick w A n cap cur due t now frames X) := by
  have HE1 := Lib.hid (EB.start w (engC A n cap cur due t now frames))
  have HLK := Lib.hid h
  have HP := Lib.hid hp
  have HT := Lib.hid (And.intro ht hx)
  have HF := Lib.hid hf
  obtain ⟨c0, c1, c2, c3, c4, c5⟩ := HE1.out.cells
  unfold zE at HE1 c0 c1 c2 c3 c4 c5
  have HSIZ := Lib.hid size_en
  by_cases hmm : now = 18446744073709551615
  · have HM := Lib.hid hmm
    have tm : ((now : Int) == 18446744073709551615) = true := by rw [hmm]; decide
    have HY := Lib.hid (HE1.out.put (engC A n cap cur due t now frames))
    have HONE := Lib.hid (one_en A n cap cur due t now frames)
    unfold engC at HE1 HY HONE
    obtain ⟨R, hR⟩ : ∃ R, RTick w A n cap cur due t now frames X = R := ⟨_, rfl⟩
    have HRR := Lib.hid hR
    rw [hR]
    unfold engC at c0 c1 c2 c3 c4 c5 ⊢
    clear h hp ht hx hm hf hmm hR
    go_enter Tryd.func13, Tryd.ntmps13
    go_wp2_with ((with_reducible show wpList _ _ _ _ _ _); refine wpList_store_row rfl 41 (.tmp 2) (.tmp 10) rfl (w.heap.size + 1) #[.slice A n cap, .int .i64 cur, .int .i64 due, .int .i64 (t : Int), .int .u64 (now : Int), .int .u64 (frames : Int)] rfl rfl 41 zE HE1.out.res (by rw [HSIZ.out]; rfl) rfl HONE.out ?_)
    refine bodyPost_ret (v := .tuple #[.agg #[.slice A n cap, .int .i64 cur, .int .i64 due, .int .i64 (t : Int), .int .u64 (now : Int), .int .u64 (frames : Int)], .int .i64 (-1), .bool false, .bool false]) (results_row_tmp3 Tryd.results13 _ _ (w.heap.size + 1) 41 _ (0, 0) _ rfl HY.out.1 Tryd.underlying41 rfl (by rw [size_en]; rfl)) rfl ?_
    rw [← HRR.out]
    exact ⟨HY.out.2, .inl ⟨HM.out, rfl⟩⟩
  · have hmm2 : now < 18446744073709551615 := by omega
    have HM := Lib.hid hmm2
    have tm : ((now : Int) == 18446744073709551615) = false := by simp; omega
    have HOW := Lib.hid (rowner18_any (HLK.out.kept HE1.out.below) cap cur due t now frames X hp)
    obtain ⟨fv, hfv⟩ : ∃ v, X.f (t : Int) = v := ⟨_, rfl⟩
    have HFV := Lib.hid hfv
    rw [hfv] at HOW
    obtain ⟨R, hR⟩ : ∃ R, RTick w A n cap cur due t now frames X = R := ⟨_, rfl⟩
    have HRR := Lib.hid hR
    rw [hR]
    have hw1 : IntKind.u64.wrap ((now : Int) + 1) = ((now : Int) + 1) := IntWalk.u64_in _ (by omega)
    unfold engC at HE1 HOW c0 c1 c2 c3 c4 c5 ⊢
    clear h hp ht hx hm hf hmm hmm2 hR hfv
    go_enter Tryd.func13, Tryd.ntmps13
    go_wp2_with fail
    refine HOW.out.mono ?_
    rintro e w2 ⟨rfl, hb2⟩
    have HE2 : Hid (EB w w2 (engC A n cap cur due t now frames)) := HE1.out.keep hb2
    clear hb2 c0 c1 c2 c3 c4 c5 HE1 HOW
    have f4 := HE2.out.free 4
    obtain ⟨c0, c1, c2, c3, c4, c5⟩ := HE2.out.cells
    have HE3 : Hid (EB w (w2.setCell ⟨w.heap.size, 4, none⟩ (.int .u64 ((now : Int) + 1))) (engC A n cap cur due t ((now : Int) + 1) frames)) := HE2.out.set 4 (.int .u64 ((now : Int) + 1))
    obtain ⟨W3, hW3⟩ : ∃ W, w2.setCell ⟨w.heap.size, 4, none⟩ (.int .u64 ((now : Int) + 1)) = W := ⟨_, rfl⟩
    rw [hW3] at HE3
    have HW3 := Lib.hid hW3
    clear hW3
    go_upto_region 5 with fail
    rw [HW3.out]
    clear c0 c1 c2 c3 c4 c5 f4 HW3 HE2 hw1
    have HLF := Lib.hid (rleft18_any (HLK.out.kept HE3.out.below) cap cur due t ((now : Int) + 1) frames X HP.out (by have := HT.out; omega))
    obtain ⟨c0, c1, c2, c3, c4, c5⟩ := HE3.out.cells
    obtain ⟨dv, hdv⟩ : ∃ d, (X.fr : Int) - t = d := ⟨_, rfl⟩
    rw [hdv] at HLF
    have HDV := Lib.hid hdv
    unfold engC at HLF
    clear hdv
    go_wp2_with fail
    refine HLF.out.mono ?_
    rintro e w4 ⟨rfl, hb4⟩
    have HE4 := Lib.hid (HE3.out.keep hb4)
    clear hb4 c0 c1 c2 c3 c4 c5 HE3 HLF
    have f3 := HE4.out.free 3
    obtain ⟨c0, c1, c2, c3, c4, c5⟩ := HE4.out.cells
    by_cases hl : t + 1 < X.fr
    · have td : decide ((1 : Int) < dv) = true := decide_eq_true (by have := HDV.out; omega)
      have HL := Lib.hid hl
      have hw2 : IntKind.i64.wrap ((t : Int) + 1) = ((t : Int) + 1) := IntWalk.i64_in _ (by have := HT.out; omega)
      have HE5 : Hid (EB w (w4.setCell ⟨w.heap.size, 3, none⟩ (.int .i64 ((t : Int) + 1))) (engC A n cap cur due ((t : Int) + 1) ((now : Int) + 1) frames)) := HE4.out.set 3 (.int .i64 ((t : Int) + 1))
      obtain ⟨W5, hW5⟩ : ∃ W, w4.setCell ⟨w.heap.size, 3, none⟩ (.int .i64 ((t : Int) + 1)) = W := ⟨_, rfl⟩
      rw [hW5] at HE5
      have HW5 := Lib.hid hW5
      clear hW5 hl
      go_upto_region 7 with fail
      rw [HW5.out]
      clear c0 c1 c2 c3 c4 c5 f3 HW5 HE4 hw2
      have HY := Lib.hid (HE5.out.put (engC A n cap cur due ((t : Int) + 1) ((now : Int) + 1) frames))
      have HONE := Lib.hid (one_en A n cap cur due ((t : Int) + 1) ((now : Int) + 1) frames)
      obtain ⟨c0, c1, c2, c3, c4, c5⟩ := HE5.out.cells
      unfold engC at HY HONE
      go_wp2_with ((with_reducible show wpList _ _ _ _ _ _); refine wpList_store_row rfl 41 (.tmp 2) (.tmp 24) rfl (w.heap.size + 1) #[.slice A n cap, .int .i64 cur, .int .i64 due, .int .i64 ((t : Int) + 1), .int .u64 ((now : Int) + 1), .int .u64 (frames : Int)] rfl rfl 41 zE HE5.out.res (by rw [HSIZ.out]; rfl) rfl HONE.out ?_)
      refine bodyPost_ret (v := .tuple #[.agg #[.slice A n cap, .int .i64 cur, .int .i64 due, .int .i64 ((t : Int) + 1), .int .u64 ((now : Int) + 1), .int .u64 (frames : Int)], .int .i64 fv, .bool false, .bool true]) (results_row_tmp3 Tryd.results13 _ _ (w.heap.size + 1) 41 _ (0, 0) _ rfl HY.out.1 Tryd.underlying41 rfl (by rw [size_en]; rfl)) rfl ?_
      rw [← HRR.out]
      exact ⟨HY.out.2, .inr (.inl ⟨HM.out, HL.out, by rw [HFV.out]; rfl⟩)⟩
    · have td : decide ((1 : Int) < dv) = false := decide_eq_false (by have := HDV.out; omega)
      have HL : Hid (t + 1 = X.fr) := by have := HT.out; show _ = _; omega
      have hw2 : IntKind.u64.wrap ((frames : Int) + 1) = ((frames : Int) + 1) := IntWalk.u64_in _ (by have := HF.out; have := HM.out; omega)
      have HE5 : Hid (EB w (w4.setCell ⟨w.heap.size, 3, none⟩ (.int .i64 0)) (engC A n cap cur due 0 ((now : Int) + 1) frames)) := HE4.out.set 3 (.int .i64 0)
      obtain ⟨W5, hW5⟩ : ∃ W, w4.setCell ⟨w.heap.size, 3, none⟩ (.int .i64 0) = W := ⟨_, rfl⟩
      rw [hW5] at HE5
      have HW5 := Lib.hid hW5
      clear hW5 hl
      go_upto_region 9 with fail
      rw [HW5.out]
      clear c0 c1 c2 c3 c4 c5 f3 HW5 HE4
      have f5 := HE5.out.free 5
      obtain ⟨c0, c1, c2, c3, c4, c5⟩ := HE5.out.cells
      have HE6 : Hid (EB w (W5.setCell ⟨w.heap.size, 5, none⟩ (.int .u64 ((frames : Int) + 1))) (engC A n cap cur due 0 ((now : Int) + 1) ((frames : Int) + 1))) := HE5.out.set 5 (.int .u64 ((frames : Int) + 1))
      obtain ⟨W6, hW6⟩ : ∃ W, W5.setCell ⟨w.heap.size, 5, none⟩ (.int .u64 ((frames : Int) + 1)) = W := ⟨_, rfl⟩
      rw [hW6] at HE6
      have HW6 := Lib.hid hW6
      clear hW6
      go_upto_region 10 with fail
      rw [HW6.out]
      clear c0 c1 c2 c3 c4 c5 f5 HW6 HE5 hw2
      have f1 := HE6.out.free 1
      obtain ⟨c0, c1, c2, c3, c4, c5⟩ := HE6.out.cells
      have HE7 : Hid (EB w (W6.setCell ⟨w.heap.size, 1, none⟩ (.int .i64 due)) (engC A n cap due due 0 ((now : Int) + 1) ((frames : Int) + 1))) := HE6.out.set 1 (.int .i64 due)
      obtain ⟨W7, hW7⟩ : ∃ W, W6.setCell ⟨w.heap.size, 1, none⟩ (.int .i64 due) = W := ⟨_, rfl⟩
      rw [hW7] at HE7
      have HW7 := Lib.hid hW7
      clear hW7
      go_upto_region 11 with fail
      rw [HW7.out]
      clear c0 c1 c2 c3 c4 c5 f1 HW7 HE6
      have HY := Lib.hid (HE7.out.put (engC A n cap due due 0 ((now : Int) + 1) ((frames : Int) + 1)))
      have HONE := Lib.hid (one_en A n cap due due 0 ((now : Int) + 1) ((frames : Int) + 1))
      obtain ⟨c0, c1, c2, c3, c4, c5⟩ := HE7.out.cells
      unfold engC at HY HONE
      go_wp2_with ((with_reducible show wpList _ _ _ _ _ _); refine wpList_store_row rfl 41 (.tmp 2) (.tmp 34) rfl (w.heap.size + 1) #[.slice A n cap, .int .i64 due, .int .i64 due, .int .i64 0, .int .u64 ((now : Int) + 1), .int .u64 ((frames : Int) + 1)] rfl rfl 41 zE HE7.out.res (by rw [HSIZ.out]; rfl) rfl HONE.out ?_)
      refine bodyPost_ret (v := .tuple #[.agg #[.slice A n cap, .int .i64 due, .int .i64 due, .int .i64 0, .int .u64 ((now : Int) + 1), .int .u64 ((frames : Int) + 1)], .int .i64 fv, .bool true, .bool true]) (results_row_tmp3 Tryd.results13 _ _ (w.heap.size + 1) 41 _ (0, 0) _ rfl HY.out.1 Tryd.underlying41 rfl (by rw [size_en]; rfl)) rfl ?_
      rw [← HRR.out]
      exact ⟨HY.out.2, .inr (.inr ⟨HM.out, HL.out, by rw [HFV.out]; rfl⟩)⟩
set_option maxRecDepth 8000 in
set_option maxHeartbeats 3200000 in
theorem rmake18_no (h : LK w A n l ids Ts) (cap : Nat) (cur due t now frames id : Int) (hp : pick Ts id = none) :
    Calls Tryd.prog 11 #[.agg (engC A n cap cur due t now frames), .int .i64 id] w fun e w' => e = .returned (.tuple #[.agg #[.slice A n cap, .int .i64 cur, .int .i64 due, .int .i64 t, .int .u64 now, .int .u64 frames], .bool false]) ∧ Below w.heap.size w w' := by
  have HE1 := Lib.hid (EB.start w (engC A n cap cur due t now frames))
  have HSIZ := Lib.hid size_en
  have HG := Lib.hid ((h.kept HE1.out.below).get_no cap id hp)
  obtain ⟨c0, c1, c2, c3, c4, c5⟩ := HE1.out.cells
  unfold zE engC at HE1 HG c0 c1 c2 c3 c4 c5
  unfold engC
  clear h hp
  go_enter Tryd.func11, Tryd.ntmps11
  go_wp2_with fail
  refine HG.out.mono ?_
  rintro e w2 ⟨rfl, hb2⟩
  have HE3 : Hid (EB w (w2.alloc (.cells #[.int .i64 0, .int .i64 0, .slice none 0 0, .slice none 0 0] 37)) (engC A n cap cur due t now frames)) := (HE1.out.keep hb2).keep ((Below.refl _ _).alloc (Nat.le_refl _) _)
  clear hb2 c0 c1 c2 c3 c4 c5 HE1 HG
  have HY := Lib.hid (HE3.out.put (engC A n cap cur due t now frames))
  have HONE := Lib.hid (one_en A n cap cur due t now frames)
  obtain ⟨c0, c1, c2, c3, c4, c5⟩ := HE3.out.cells
  unfold engC at HY HONE
  go_wp2_with ((with_reducible show wpList _ _ _ _ _ _); refine wpList_store_row rfl 41 (.tmp 4) (.tmp 18) rfl (w.heap.size + 1) #[.slice A n cap, .int .i64 cur, .int .i64 due, .int .i64 t, .int .u64 now, .int .u64 frames] rfl rfl 41 zE HE3.out.res (by rw [HSIZ.out]; rfl) rfl HONE.out ?_)
  refine bodyPost_ret (v := .tuple #[.agg #[.slice A n cap, .int .i64 cur, .int .i64 due, .int .i64 t, .int .u64 now, .int .u64 frames], .bool false]) (results_row_tmp Tryd.results11 _ _ (w.heap.size + 1) 41 _ (0, 0) _ rfl HY.out.1 Tryd.underlying41 rfl (by rw [size_en]; rfl)) rfl ?_
  exact ⟨rfl, HY.out.2⟩
set_option maxRecDepth 8000 in
set_option maxHeartbeats 3200000 in
theorem rmake18_yes (h : LK w A n l ids Ts) (cap : Nat) (cur due t now frames id : Int) (hp : pick Ts id ≠ none) :
    Calls Tryd.prog 11 #[.agg (engC A n cap cur due t now frames), .int .i64 id] w fun e w' => e = .returned (.tuple #[.agg #[.slice A n cap, .int .i64 cur, .int .i64 id, .int .i64 t, .int .u64 now, .int .u64 frames], .bool true]) ∧ Below w.heap.size w w' := by
  have HE1 := Lib.hid (EB.start w (engC A n cap cur due t now frames))
  have HSIZ := Lib.hid size_en
  have HG := Lib.hid ((h.kept HE1.out.below).get cap id hp)
  obtain ⟨c0, c1, c2, c3, c4, c5⟩ := HE1.out.cells
  unfold zE engC at HE1 HG c0 c1 c2 c3 c4 c5
  unfold engC
  clear h hp
  go_enter Tryd.func11, Tryd.ntmps11
  go_wp2_with fail
  refine HG.out.mono ?_
  rintro e w2 ⟨x1, X1, B, cb, C, cc, hX, hlk, hmem, rfl, hB, hC, hb2⟩
  obtain ⟨id1, fr1, ws1, ns1⟩ := x1
  clear hX hlk hmem hB hC
  unfold scC
  dsimp only
  obtain ⟨nw1, hnw1⟩ : ∃ m, ws1.length = m := ⟨_, rfl⟩
  obtain ⟨nn1, hnn1⟩ : ∃ m, ns1.length = m := ⟨_, rfl⟩
  rw [hnw1, hnn1]
  clear hnw1 hnn1
  have HE3 : Hid (EB w (w2.alloc (.cells #[.int .i64 id1, .int .i64 fr1, .slice B nw1 cb, .slice C nn1 cc] 37)) (engC A n cap cur due t now frames)) := (HE1.out.keep hb2).keep ((Below.refl _ _).alloc (Nat.le_refl _) _)
  clear hb2 c0 c1 c2 c3 c4 c5 HE1 HG
  have f2 := HE3.out.free 2
  obtain ⟨c0, c1, c2, c3, c4, c5⟩ := HE3.out.cells
  obtain ⟨W3, hW3⟩ : ∃ W, (w2.alloc (.cells #[.int .i64 id1, .int .i64 fr1, .slice B nw1 cb, .slice C nn1 cc] 37)) = W := ⟨_, rfl⟩
  rw [hW3] at HE3 f2 c0 c1 c2 c3 c4 c5
  have HE4 : Hid (EB w (W3.setCell ⟨w.heap.size, 2, none⟩ (.int .i64 id)) (engC A n cap cur id t now frames)) := HE3.out.set 2 (.int .i64 id)
  obtain ⟨W4, hW4⟩ : ∃ W, W3.setCell ⟨w.heap.size, 2, none⟩ (.int .i64 id) = W := ⟨_, rfl⟩
  rw [hW4] at HE4
  have HW3 := Lib.hid hW3
  have HW4 := Lib.hid hW4
  clear hW3 hW4
  go_upto_region 3 with fail
  rw [HW3.out]
  go_upto_region 4 with fail
  rw [HW4.out]
  clear HW3 HW4 HE3 f2 c0 c1 c2 c3 c4 c5
  have HY := Lib.hid (HE4.out.put (engC A n cap cur id t now frames))
  have HONE := Lib.hid (one_en A n cap cur id t now frames)
  obtain ⟨c0, c1, c2, c3, c4, c5⟩ := HE4.out.cells
  unfold engC at HY HONE
  go_wp2_with ((with_reducible show wpList _ _ _ _ _ _); refine wpList_store_row rfl 41 (.tmp 4) (.tmp 18) rfl (w.heap.size + 1) #[.slice A n cap, .int .i64 cur, .int .i64 id, .int .i64 t, .int .u64 now, .int .u64 frames] rfl rfl 41 zE HE4.out.res (by rw [HSIZ.out]; rfl) rfl HONE.out ?_)
  refine bodyPost_ret (v := .tuple #[.agg #[.slice A n cap, .int .i64 cur, .int .i64 id, .int .i64 t, .int .u64 now, .int .u64 frames], .bool true]) (results_row_tmp Tryd.results11 _ _ (w.heap.size + 1) 41 _ (0, 0) _ rfl HY.out.1 Tryd.underlying41 rfl (by rw [size_en]; rfl)) rfl ?_
  exact ⟨rfl, HY.out.2⟩
end

end Go.Proofs.YtofcjkfaccdnjaaDoor.Frm
