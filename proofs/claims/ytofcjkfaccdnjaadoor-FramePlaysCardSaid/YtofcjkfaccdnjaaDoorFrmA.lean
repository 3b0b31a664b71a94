
/- Frames: tables by their ids, and what an engine is. No condition. Frames: what an engine tells, a table that is made due, a tick. Condition: the engine is one of its tables. Frames: a tick, a copy. Condition: the engine is one of its tables. -/

import Derived.Test.YtofcjkfaccdnjaaDoorTabH

import Derived.Test.YtofcjkfaccdnjaaDoorClkA

import Derived.Maps.OwnOps

import Derived.Maps.Views

import Derived.Deep.RegionHeld3

namespace Go.Proofs.YtofcjkfaccdnjaaDoor.Frm

open Go.RowKit Go.PlainAid Go.Proofs.YtofcjkfaccdnjaaDoor.Oct Go.Proofs.YtofcjkfaccdnjaaDoor.Flt Go.Proofs.YtofcjkfaccdnjaaDoor.Rdr Go.Proofs.YtofcjkfaccdnjaaDoor.Args Go.Proofs.YtofcjkfaccdnjaaDoor.Win Go.Proofs.YtofcjkfaccdnjaaDoor.Tab Go.Proofs.YtofcjkfaccdnjaaDoor.Clk

open Go.Proofs.YtofcjkfaccdnjaaDoor.Act (A3 actL flatA ActsAt I64 Wide)

set_option linter.unusedVariables false

set_option linter.unusedSimpArgs false

/-- A table: its block, its id, its frame, its runs, whose each tick is. -/
structure TR where
  g : Nat
  id : Int
  fr : Nat
  A : Option Addr
  c : Nat
  L : List A3
  f : Int → Int
structure TabOk (B : Nat) (w : World) (T : TR) : Prop where
  it : IsT w T.g T.id (T.fr : Int) T.A T.c T.L
  ru : Runs T.f T.L T.fr
  lg : T.g < B
  lA : ∀ a, T.A = some a → a.block < B
  wd : I64 T.id
theorem TabOk.kept {B : Nat} {w w' : World} {T : TR} (h : TabOk B w T) (b : Below B w w') : TabOk B w' T := by
  refine ⟨⟨(b.block _ h.lg).trans h.it.box, fun i x hx => ?_⟩, h.ru, h.lg, h.lA, h.wd⟩
  obtain ⟨a, ha, c1, c2, c3⟩ := h.it.runs i x hx
  have hb := h.lA a ha
  have hbl : (a.add (i * 3)).block = a.block := add_block a (i * 3)
  have hj : w'.heap[(a.add (i * 3)).block]? = w.heap[(a.add (i * 3)).block]? := b.block _ (by rw [hbl]; exact hb)
  exact ⟨a, ha, (World.cell?_of_block hj).trans c1, (World.cell?_of_block (a := ⟨(a.add (i * 3)).block, _, none⟩) hj).trans c2, (World.cell?_of_block (a := ⟨(a.add (i * 3)).block, _, none⟩) hj).trans c3⟩
/-- The first table of an id. -/
def pick (Ts : List TR) (id : Int) : Option TR := Ts.find? fun T => T.id == id
theorem pick_mem {Ts : List TR} {id : Int} {T : TR} (h : pick Ts id = some T) : T ∈ Ts ∧ T.id = id :=
  ⟨List.mem_of_find?_eq_some h, by have := List.find?_some h; simpa using this⟩
/-- How a pointer to a table reads. -/
def eP (v : Value) : Option (DataW Unit × List MemPlace) := match v with
  | .pointer none => some (.lit (.bool false), [])
  | .pointer (some a) => if a = ⟨a.block, 0, none⟩ then some (.lit (.int .u64 (a.block : Int)), []) else none
  | _ => none
def encT : Option Nat → DataW Unit
  | none => .lit (.bool false)
  | some g => .lit (.int .u64 (g : Int))
def ptrT : Option Nat → Value
  | none => .pointer none
  | some g => .pointer (some ⟨g, 0, none⟩)
theorem eP_ptr (o : Option Nat) : eP (ptrT o) = some (encT o, []) := by cases o <;> simp [eP, ptrT, encT]
theorem eP_inv {v : Value} {o : Option Nat} {ps : List MemPlace} (h : eP v = some (encT o, ps)) : v = ptrT o := by
  unfold eP at h
  split at h
  · cases o with
    | none => rfl
    | some g => simp [encT] at h
  · rename_i a
    split at h
    · rename_i ha
      cases o with
      | none => simp [encT] at h
      | some g =>
        simp [encT] at h
        have hg : a.block = g := by have := h.1; omega
        rw [ha]
        show Value.pointer (some ⟨a.block, 0, none⟩) = _
        rw [hg]; rfl
    · cases h
  · cases h
/-- A map of tables by ids. -/
def MapT (w : World) (b n : Nat) (F : Int → Option Nat) : Prop :=
  ∃ D : DataW Unit, w.ownsMap Tryd.prog 3 eP b n D ∧ Maps.IsMap D ∧ ∀ v, I64 v → D.atKey (.int .i64 v) (.lit (.bool false)) = encT (F v)
theorem MapT.blk {w : World} {b n : Nat} {F : Int → Option Nat} (h : MapT w b n F) : b < w.heap.size := by
  obtain ⟨D, h, _⟩ := h
  exact h.lt
theorem MapT.kept {w w' : World} {b n : Nat} {F : Int → Option Nat} (h : MapT w b n F) (e : w'.heap[b]? = w.heap[b]?) : MapT w' b n F := by
  obtain ⟨D, ⟨es, clock, h1, h2⟩, h3⟩ := h
  exact ⟨D, ⟨es, clock, e.trans h1, h2⟩, h3⟩
theorem map_made (w : World) : MapT (w.alloc (.map #[] 0)) w.heap.size 0 (fun _ => none) :=
  ⟨.map [], World.ownsMap_made _ _ _ _, Maps.isMap_empty, fun _ _ => rfl⟩
theorem wf_i64 {v : Int} (h : I64 v) : (Lit.int .i64 v).wf = true := by
  have h1 : (-9223372036854775808 : Int) ≤ v := h.1
  have h2 : v ≤ 9223372036854775807 := h.2
  show (decide (IntKind.i64.min ≤ v) && decide (v ≤ IntKind.i64.max)) = true
  have e1 : IntKind.i64.min = -9223372036854775808 := by decide
  have e2 : IntKind.i64.max = 9223372036854775807 := by decide
  rw [e1, e2]
  simp [h1, h2]
theorem MapT.look {w : World} {b n : Nat} {F : Int → Option Nat} (h : MapT w b n F) (v : Int) (hv : I64 v) :
    (Instr.lookup 69 (.map (some b)) (.int .i64 v) false).run Tryd.prog w = .ok (ptrT (F v)) w := by
  obtain ⟨D, h1, _, h3⟩ := h
  obtain ⟨x, ps, hrun, hx⟩ := h1.lookup (z := ptrT none) (Maps.int_keyed Tryd.underlying3) Tryd.underlying69 (by unfold ptrT; go_simp) (eP_ptr none) (kl := .int .i64 v) (Maps.keyOf_int_mk Tryd.underlying3 (wf_i64 hv))
  have e : D.atKey (.int .i64 v) (.lit (.bool false)) = encT (F v) := h3 v hv
  have hx2 : eP x = some (D.atKey (.int .i64 v) (.lit (.bool false)), ps) := hx
  rw [e] at hx2
  rw [hrun, eP_inv hx2]
theorem MapT.put {w : World} {b n : Nat} {F : Int → Option Nat} (h : MapT w b n F) (v : Int) (hv : I64 v) (g : Nat) (hn : n < maxLen) :
    ∃ w', (Instr.mapUpdate 69 (.map (some b)) (.int .i64 v) (.pointer (some ⟨g, 0, none⟩))).run Tryd.prog w = .ok () w' ∧ MapT w' b (n + 1) (fun i => if i = v then some g else F i) ∧ w.grownBy w' (some b) := by
  obtain ⟨D, h1, h2, h3⟩ := h
  obtain ⟨w', hrun, ho, hg⟩ := h1.update (Maps.int_keyed Tryd.underlying3) Tryd.underlying69 hn (kl := .int .i64 v) (Maps.keyOf_int_mk Tryd.underlying3 (wf_i64 hv)) (eP_ptr (some g))
  refine ⟨w', hrun, ⟨_, ho, h2.put _ _, fun i hi => ?_⟩, hg⟩
  by_cases hiv : i = v
  · subst hiv
    dsimp only
    rw [if_pos rfl]
    exact Maps.atKey_put_same h2 (by simp [WideAt.IsKeyLit]) _ _
  · dsimp only
    rw [if_neg hiv, Maps.atKey_put_other (by simpa using hiv)]
    exact h3 i hi
theorem wpList_look {P : Program} (w : World) {ops : Array Oper} {rest : List Oper} {o : Oper} {a : Act} {Q : Exit → Act → World → Prop}
    (hg : o.guard = none) (m x : Operand) (t : TypeId) (hop : o.op = Op.lookup t m x false) (v key mv : Value) (hm : a.eval m = mv) (hx : a.eval x = key)
    (hrun : (Instr.lookup t mv key false).run P w = .ok v w) (hK : wpList P ops Q rest (a.put o.dst v) w) : wpList P ops Q (o :: rest) a w := by
  refine wpList_plain hg fun K' hK' => ?_
  unfold Oper.wp
  simp [execOp, hop, hm, hx, hrun, Result.andThen]
  exact hK' _ _ hK
theorem wpList_upd {P : Program} (w : World) {ops : Array Oper} {rest : List Oper} {o : Oper} {a : Act} {Q : Exit → Act → World → Prop}
    (hg : o.guard = none) (m x v : Operand) (t : TypeId) (hop : o.op = Op.mapUpdate t m x v) (mv key val : Value) (hm : a.eval m = mv) (hx : a.eval x = key) (hv : a.eval v = val) (w' : World)
    (hrun : (Instr.mapUpdate t mv key val).run P w = .ok () w') (hK : wpList P ops Q rest (a.put o.dst undef) w') : wpList P ops Q (o :: rest) a w := by
  refine wpList_plain hg fun K' hK' => ?_
  unfold Oper.wp
  simp [execOp, hop, hm, hx, hv, hrun, Result.andThen]
  exact hK' _ _ hK
theorem step_look {P : Program} {ops : Array Oper} {o : Oper} {a : Act} {w : World} {K : Act → World → Prop} {Q : Exit → Act → World → Prop} {E : Prop}
    (hg : o.guard = none) (m x : Operand) (t : TypeId) (hop : o.op = Op.lookup t m x false) (v key mv : Value) (hm : a.eval m = mv) (hx : a.eval x = key)
    (hrun : (Instr.lookup t mv key false).run P w = .ok v w) (hK : K (a.put o.dst v) w) : if Region.wanted o (yielded ops a.tmps) = true then Oper.wp P o a w K Q else E := by
  have hw : Region.wanted o (yielded ops a.tmps) = true := by simp [Region.wanted, hg]
  rw [if_pos hw]
  unfold Oper.wp
  simp [execOp, hop, hm, hx, hrun, Result.andThen]
  exact hK
/-- All blocks but an engine's three are as they were. -/
structure Oth (q ck cu : Nat) (w w' : World) : Prop where
  os : w'.os = w.os
  tape : w'.tape = w.tape
  output : w'.output = w.output
  size : w.heap.size ≤ w'.heap.size
  block : ∀ k, k < w.heap.size → k ≠ q → k ≠ ck → k ≠ cu → w'.heap[k]? = w.heap[k]?
theorem Oth.refl (q ck cu : Nat) (w : World) : Oth q ck cu w w := ⟨rfl, rfl, rfl, Nat.le_refl _, fun _ _ _ _ _ => rfl⟩
theorem Oth.of_below {q ck cu : Nat} {w w' : World} (b : Below w.heap.size w w') : Oth q ck cu w w' := ⟨b.os, b.tape, b.output, b.size, fun k hk _ _ _ => b.block k hk⟩
theorem Oth.trans {q ck cu : Nat} {a b c : World} (h : Oth q ck cu a b) (k : Oth q ck cu b c) : Oth q ck cu a c :=
  ⟨k.os.trans h.os, k.tape.trans h.tape, k.output.trans h.output, Nat.le_trans h.size k.size, fun i hi n1 n2 n3 => (k.block i (Nat.lt_of_lt_of_le hi h.size) n1 n2 n3).trans (h.block i hi n1 n2 n3)⟩
theorem Oth.below {q ck cu B : Nat} {w w' : World} (h : Oth q ck cu w w') (h1 : B ≤ q) (h2 : B ≤ ck) (h3 : B ≤ cu) (hB : B ≤ w.heap.size) : Below B w w' :=
  ⟨h.os, h.tape, h.output, h.size, fun k hk => h.block k (by omega) (by omega) (by omega) (by omega)⟩
theorem Oth.of_just {q ck cu : Nat} {w w' : World} (j : Just cu w w') : Oth q ck cu w w' := ⟨j.os, j.tape, j.output, j.size, fun k hk _ _ n => j.block k hk n⟩
theorem oth_cell (w : World) (q ck cu o : Nat) (v : Value) : Oth q ck cu w (w.setCell ⟨q, o, none⟩ v) :=
  ⟨rfl, rfl, rfl, by simp, fun k _ hne _ _ => heap_setCell_other w ⟨q, o, none⟩ k v hne⟩
theorem oth_drewN {q ck cu : Nat} {u w : World} (h : Oth q ck cu u w) (n : Nat) : Oth q ck cu u (w.drewN n) := ⟨h.os, h.tape, h.output, h.size, h.block⟩
/-- An engine in block q: its map, its clock, its cursor; the tables, the one that runs, the tick, what is due, the time, the boundaries. -/
structure IsE (w : World) (B q mb ck cu : Nat) (Ts : List TR) (T : TR) (t : Nat) (due : Int) (now frames : Nat) : Prop where
  box : w.heap[q]? = some (.cells #[.map (some mb), .pointer (some ⟨ck, 0, none⟩), .pointer (some ⟨cu, 0, none⟩), .int .i64 due, .int .u64 (frames : Int)] 75 (0, 0))
  clk : IsClk w ck now
  cur : ∃ r x, IsC w cu T.g (t : Int) r ∧ AtRun T.L (t : Int) r x
  map : ∃ n, MapT w mb n (fun i => (pick Ts i).map TR.g)
  tabs : ∀ X ∈ Ts, TabOk B w X
  mem : T ∈ Ts
  dues : ∃ X, pick Ts due = some X
  wd : I64 due
  hB : B ≤ q ∧ B ≤ mb ∧ B ≤ ck ∧ B ≤ cu
  ne : q ≠ mb ∧ q ≠ ck ∧ q ≠ cu ∧ mb ≠ ck ∧ mb ≠ cu ∧ ck ≠ cu
  tm : frames ≤ now ∧ now ≤ 18446744073709551615
theorem IsE.lt {w : World} {B q mb ck cu : Nat} {Ts : List TR} {T : TR} {t : Nat} {due : Int} {now frames : Nat} (h : IsE w B q mb ck cu Ts T t due now frames) : q < w.heap.size ∧ mb < w.heap.size ∧ ck < w.heap.size ∧ cu < w.heap.size := by
  obtain ⟨r, x, hc, _⟩ := h.cur
  obtain ⟨n, hm⟩ := h.map
  exact ⟨lt_of_block h.box, hm.blk, lt_of_block h.clk, lt_of_block hc.box⟩
theorem IsE.kept {w w' : World} {B q mb ck cu N : Nat} {Ts : List TR} {T : TR} {t : Nat} {due : Int} {now frames : Nat} (h : IsE w B q mb ck cu Ts T t due now frames) (b : Below N w w') (hq : q < N) (hm : mb < N) (hk : ck < N) (hc : cu < N) : IsE w' B q mb ck cu Ts T t due now frames := by
  obtain ⟨r, x, h1, h2⟩ := h.cur
  obtain ⟨n, h3⟩ := h.map
  exact ⟨(b.block _ hq).trans h.box, (b.block _ hk).trans h.clk, ⟨r, x, ⟨(b.block _ hc).trans h1.box⟩, h2⟩, ⟨n, h3.kept (b.block _ hm)⟩, fun X hX => (h.tabs X hX).kept (b.mono (by have := h.hB; omega)), h.mem, h.dues, h.wd, h.hB, h.ne, h.tm⟩
theorem IsE.keep {w w' : World} {B q mb ck cu : Nat} {Ts : List TR} {T : TR} {t : Nat} {due : Int} {now frames : Nat} (h : IsE w B q mb ck cu Ts T t due now frames) (b : Below w.heap.size w w') : IsE w' B q mb ck cu Ts T t due now frames := by
  obtain ⟨h1, h2, h3, h4⟩ := h.lt
  exact h.kept b h1 h2 h3 h4
theorem IsE.cells {w : World} {B q mb ck cu : Nat} {Ts : List TR} {T : TR} {t : Nat} {due : Int} {now frames : Nat} (h : IsE w B q mb ck cu Ts T t due now frames) :
    w.cell? ⟨q, 0, none⟩ = some (.map (some mb)) ∧ w.cell? ⟨q, 1, none⟩ = some (.pointer (some ⟨ck, 0, none⟩)) ∧ w.cell? ⟨q, 2, none⟩ = some (.pointer (some ⟨cu, 0, none⟩)) ∧ w.cell? ⟨q, 3, none⟩ = some (.int .i64 due) ∧ w.cell? ⟨q, 4, none⟩ = some (.int .u64 (frames : Int)) := by
  refine ⟨?_, ?_, ?_, ?_, ?_⟩
  all_goals (rw [cell_of_row w _ _ _ _ _ h.box]; rfl)
theorem IsE.free {w : World} {B q mb ck cu : Nat} {Ts : List TR} {T : TR} {t : Nat} {due : Int} {now frames : Nat} (h : IsE w B q mb ck cu Ts T t due now frames) (o : Nat) : w.frozen? ⟨q, o, none⟩ = false := by simp [World.frozen?, h.box]
theorem IsE.tick_lt {w : World} {B q mb ck cu : Nat} {Ts : List TR} {T : TR} {t : Nat} {due : Int} {now frames : Nat} (h : IsE w B q mb ck cu Ts T t due now frames) : t < T.fr ∧ T.fr ≤ 1048576 := by
  obtain ⟨r, x, h1, h2⟩ := h.cur
  have hT := h.tabs T h.mem
  have hin := hT.ru.in_ h2.get
  have := h2.hi
  have := hT.ru.fr2
  omega
end Go.Proofs.YtofcjkfaccdnjaaDoor.Frm

namespace Go.Proofs.YtofcjkfaccdnjaaDoor.Frm

open Go.RowKit Go.PlainAid Go.Proofs.YtofcjkfaccdnjaaDoor.Oct Go.Proofs.YtofcjkfaccdnjaaDoor.Flt Go.Proofs.YtofcjkfaccdnjaaDoor.Rdr Go.Proofs.YtofcjkfaccdnjaaDoor.Args Go.Proofs.YtofcjkfaccdnjaaDoor.Win Go.Proofs.YtofcjkfaccdnjaaDoor.Tab Go.Proofs.YtofcjkfaccdnjaaDoor.Clk

open Go.Proofs.YtofcjkfaccdnjaaDoor.Act (A3 actL flatA ActsAt I64 Wide)

set_option linter.unusedVariables false

set_option linter.unusedSimpArgs false

section

variable {w : World} {B q mb ck cu : Nat} {Ts : List TR} {T : TR} {t : Nat} {due : Int} {now frames : Nat}

theorem enow_any (h : IsE w B q mb ck cu Ts T t due now frames) :
    Calls Tryd.prog 24 #[.pointer (some ⟨q, 0, none⟩)] w fun e w' => e = .returned (.int .u64 (now : Int)) ∧ w = w' := by
  obtain ⟨c0, c1, c2, c3, c4⟩ := h.cells
  have HK := Lib.hid h.clk
  clear h
  go_enter Tryd.func24, Tryd.ntmps24
  go_wp2_with fail
  refine (cnow_any ck now _ HK.out).mono ?_
  rintro e w' ⟨rfl, rfl⟩
  go_wp2
  go_ret
  exact ⟨rfl, rfl⟩
theorem ehalt_any (h : IsE w B q mb ck cu Ts T t due now frames) :
    Calls Tryd.prog 23 #[.pointer (some ⟨q, 0, none⟩)] w fun e w' => e = .returned (.bool ((now : Int) == 18446744073709551615)) ∧ w = w' := by
  obtain ⟨c0, c1, c2, c3, c4⟩ := h.cells
  have HK := Lib.hid h.clk
  clear h
  obtain ⟨b, hb⟩ : ∃ b, ((now : Int) == 18446744073709551615) = b := ⟨_, rfl⟩
  have HC := Lib.hid (chalt_at ck now b w hb HK.out)
  rw [hb]
  clear hb
  go_enter Tryd.func23, Tryd.ntmps23
  go_wp2_with fail
  refine HC.out.mono ?_
  rintro e w' ⟨rfl, rfl⟩
  go_wp2
  go_ret
  exact ⟨rfl, rfl⟩
theorem edue_any (h : IsE w B q mb ck cu Ts T t due now frames) :
    Calls Tryd.prog 17 #[.pointer (some ⟨q, 0, none⟩)] w fun e w' => e = .returned (.int .i64 due) ∧ w = w' := by
  obtain ⟨c0, c1, c2, c3, c4⟩ := h.cells
  clear h
  go_enter Tryd.func17, Tryd.ntmps17
  go_wp2
  go_ret
  exact ⟨rfl, rfl⟩
theorem eframes_any (h : IsE w B q mb ck cu Ts T t due now frames) :
    Calls Tryd.prog 22 #[.pointer (some ⟨q, 0, none⟩)] w fun e w' => e = .returned (.int .u64 (frames : Int)) ∧ w = w' := by
  obtain ⟨c0, c1, c2, c3, c4⟩ := h.cells
  clear h
  go_enter Tryd.func22, Tryd.ntmps22
  go_wp2
  go_ret
  exact ⟨rfl, rfl⟩
theorem ctable_any (q g : Nat) (t : Int) (r : Nat) (w : World) (h : IsC w q g t r) :
    Calls Tryd.prog 43 #[.pointer (some ⟨q, 0, none⟩)] w fun e w' => e = .returned (.pointer (some ⟨g, 0, none⟩)) ∧ w = w' := by
  obtain ⟨c0, c1, c2⟩ := h.cells
  clear h
  go_enter Tryd.func43, Tryd.ntmps43
  go_wp2
  go_ret
  exact ⟨rfl, rfl⟩
theorem ccopy_t (q g : Nat) (t : Int) (r : Nat) (w : World) (h : IsC w q g t r) :
    Calls Tryd.prog 40 #[.pointer (some ⟨q, 0, none⟩)] w fun e w' => e = .returned (.pointer (some ⟨w.heap.size, 0, none⟩)) ∧ IsC w' w.heap.size g t r ∧ Below w.heap.size w w' := by
  obtain ⟨c0, c1, c2⟩ := h.cells
  clear h
  go_enter Tryd.func40, Tryd.ntmps40
  go_wp2
  go_ret
  exact ⟨rfl, ⟨heap_alloc_new _ _⟩, (Below.refl _ _).alloc (Nat.le_refl _) _⟩
theorem cleft_t (q g : Nat) (id : Int) (fr : Nat) (t : Int) (r : Nat) (A : Option Addr) (c : Nat) (L : List A3) (w : World) (h : IsC w q g t r) (hT : IsT w g id (fr : Int) A c L) (ht : 0 ≤ t ∧ t ≤ fr) (hf : fr ≤ 1048576) :
    Calls Tryd.prog 54 #[.pointer (some ⟨q, 0, none⟩)] w fun e w' => e = .returned (.int .i64 ((fr : Int) - t)) ∧ ∃ n, w' = w.drewN n := by
  obtain ⟨c0, c1, c2⟩ := h.cells
  obtain ⟨b0, b1, b2⟩ := hT.cells
  have hw : IntKind.i64.wrap ((fr : Int) - t) = (fr : Int) - t := IntWalk.i64_in _ (by omega)
  clear h hT ht hf
  go_enter Tryd.func54, Tryd.ntmps54
  go_wp2
  go_quiet (fail)
  go_wp2
  go_ret
  exact ⟨rfl, nq, rfl⟩
theorem ecurrent_any (h : IsE w B q mb ck cu Ts T t due now frames) :
    Calls Tryd.prog 21 #[.pointer (some ⟨q, 0, none⟩)] w fun e w' => e = .returned (.int .i64 T.id) ∧ w = w' := by
  obtain ⟨c0, c1, c2, c3, c4⟩ := h.cells
  obtain ⟨r, x, hc, hx⟩ := h.cur
  have hT := h.tabs T h.mem
  have HC := Lib.hid (ctable_any cu T.g (t : Int) r w hc)
  have HI := Lib.hid (id_any T.g T.id (T.fr : Int) T.A T.c T.L w hT.it)
  clear h hc hx hT
  go_enter Tryd.func21, Tryd.ntmps21
  go_wp2_with fail
  refine HC.out.mono ?_
  rintro e w' ⟨rfl, rfl⟩
  go_wp2_with fail
  refine HI.out.mono ?_
  rintro e w' ⟨rfl, rfl⟩
  go_wp2
  go_ret
  exact ⟨rfl, rfl⟩
theorem eowner_any (h : IsE w B q mb ck cu Ts T t due now frames) :
    Calls Tryd.prog 37 #[.pointer (some ⟨q, 0, none⟩)] w fun e w' => e = .returned (.int .i64 (T.f (t : Int))) ∧ ∃ n, w' = w.drewN n := by
  obtain ⟨c0, c1, c2, c3, c4⟩ := h.cells
  obtain ⟨r, x, hc, hx⟩ := h.cur
  have hT := h.tabs T h.mem
  have HC := Lib.hid (cowner_any cu T.g T.id (T.fr : Int) (t : Int) r T.A T.c T.L x w hc hT.it hx.get)
  rw [← (hT.ru.gr.at_ r x hx.get).2.2 (t : Int) hx.lo hx.hi] at HC
  clear h hc hx hT
  go_enter Tryd.func37, Tryd.ntmps37
  go_wp2_with fail
  refine HC.out.mono ?_
  rintro e w' ⟨rfl, n, rfl⟩
  go_wp2
  go_ret
  exact ⟨rfl, n, rfl⟩
theorem eoffset_any (h : IsE w B q mb ck cu Ts T t due now frames) :
    Calls Tryd.prog 20 #[.pointer (some ⟨q, 0, none⟩)] w fun e w' => e = .returned (.int .i64 (t : Int)) ∧ w = w' := by
  obtain ⟨c0, c1, c2, c3, c4⟩ := h.cells
  obtain ⟨r, x, hc, hx⟩ := h.cur
  have HC := Lib.hid (ctick_any cu T.g (t : Int) r w hc)
  clear h hc hx
  go_enter Tryd.func20, Tryd.ntmps20
  go_wp2_with fail
  refine HC.out.mono ?_
  rintro e w' ⟨rfl, rfl⟩
  go_wp2
  go_ret
  exact ⟨rfl, rfl⟩
theorem eleft_any (h : IsE w B q mb ck cu Ts T t due now frames) :
    Calls Tryd.prog 38 #[.pointer (some ⟨q, 0, none⟩)] w fun e w' => e = .returned (.int .i64 ((T.fr : Int) - t)) ∧ ∃ n, w' = w.drewN n := by
  obtain ⟨c0, c1, c2, c3, c4⟩ := h.cells
  obtain ⟨r, x, hc, hx⟩ := h.cur
  have hT := h.tabs T h.mem
  have htl := h.tick_lt
  have HC := Lib.hid (cleft_t cu T.g T.id T.fr (t : Int) r T.A T.c T.L w hc hT.it (by omega) (by omega))
  clear h hc hx hT htl
  go_enter Tryd.func38, Tryd.ntmps38
  go_wp2_with fail
  refine HC.out.mono ?_
  rintro e w' ⟨rfl, n, rfl⟩
  go_wp2
  go_ret
  exact ⟨rfl, n, rfl⟩
set_option maxRecDepth 4000 in
/-- A table is made due, if there is one of that id. -/
theorem emake_any (h : IsE w B q mb ck cu Ts T t due now frames) (id : Int) (hid : I64 id) :
    Calls Tryd.prog 12 #[.pointer (some ⟨q, 0, none⟩), .int .i64 id] w fun e w' => e = .returned (.bool (pick Ts id).isSome) ∧ IsE w' B q mb ck cu Ts T t (if (pick Ts id).isSome then id else due) now frames ∧ Oth q ck cu w w' := by
  obtain ⟨c0, c1, c2, c3, c4⟩ := h.cells
  have f3 := h.free 3
  obtain ⟨n, hm⟩ := h.map
  have hl := hm.look id hid
  have HH := Lib.hid h
  clear h hm
  cases hp : pick Ts id with
  | none =>
    rw [hp] at hl
    have HL : Hid ((Instr.lookup 69 (.map (some mb)) (.int .i64 id) false).run Tryd.prog w = .ok (.pointer none) w) := hl
    clear hl hp
    go_enter Tryd.func12, Tryd.ntmps12
    go_wp2_with (first | (at_lookup; refine wpList_look _ rfl _ _ 69 rfl (.pointer none) _ _ rfl rfl HL.out ?_))
    go_ret
    exact ⟨rfl, HH.out, Oth.refl _ _ _ _⟩
  | some X =>
    rw [hp] at hl
    have HL : Hid ((Instr.lookup 69 (.map (some mb)) (.int .i64 id) false).run Tryd.prog w = .ok (.pointer (some ⟨X.g, 0, none⟩)) w) := hl
    have HP := Lib.hid hp
    clear hl hp
    go_enter Tryd.func12, Tryd.ntmps12
    go_wp2_with (first | (at_lookup; refine wpList_look _ rfl _ _ 69 rfl (.pointer (some ⟨X.g, 0, none⟩)) _ _ rfl rfl HL.out ?_))
    go_ret
    have ho := oth_cell w q ck cu 3 (.int .i64 id)
    refine ⟨rfl, ?_, ho⟩
    obtain ⟨r, x, h1, h2⟩ := HH.out.cur
    obtain ⟨n, h3⟩ := HH.out.map
    have hlt := HH.out.lt
    have hne := HH.out.ne
    have hB := HH.out.hB
    have hk : ∀ k, k ≠ q → (w.setCell ⟨q, 3, none⟩ (.int .i64 id)).heap[k]? = w.heap[k]? := fun k hk => heap_setCell_other w ⟨q, 3, none⟩ k _ hk
    refine ⟨?_, (hk _ (by omega)).trans HH.out.clk, ⟨r, x, ⟨(hk _ (by omega)).trans h1.box⟩, h2⟩, ⟨n, h3.kept (hk _ (by omega))⟩, fun Y hY => (HH.out.tabs Y hY).kept (ho.below hB.1 hB.2.2.1 hB.2.2.2 (by omega)), HH.out.mem, ⟨X, by simp [HP.out]⟩, by simpa using hid, hB, hne, HH.out.tm⟩
    rw [setCell_eq_setRow w q 3 _ _ (0, 0) _ HH.out.box]
    exact setRow_heap _ _ _ _ _ _ HH.out.box
end

end Go.Proofs.YtofcjkfaccdnjaaDoor.Frm

namespace Go.Proofs.YtofcjkfaccdnjaaDoor.Frm

open Go.RowKit Go.PlainAid Go.Proofs.YtofcjkfaccdnjaaDoor.Oct Go.Proofs.YtofcjkfaccdnjaaDoor.Flt Go.Proofs.YtofcjkfaccdnjaaDoor.Rdr Go.Proofs.YtofcjkfaccdnjaaDoor.Args Go.Proofs.YtofcjkfaccdnjaaDoor.Win Go.Proofs.YtofcjkfaccdnjaaDoor.Tab Go.Proofs.YtofcjkfaccdnjaaDoor.Clk

open Go.Proofs.YtofcjkfaccdnjaaDoor.Act (A3 actL flatA ActsAt I64 Wide)

set_option linter.unusedVariables false

set_option linter.unusedSimpArgs false

theorem first_run {f : Int → Int} {L : List A3} {fr : Nat} (h : Runs f L fr) : ∃ x, AtRun L ((0 : Nat) : Int) 0 x := by
  obtain ⟨x', hx0⟩ : ∃ x', L[0]? = some x' := by
    obtain ⟨k, y, hy, _⟩ := run_at h.gr (t := 0) (by omega) (by have := h.fr1; omega)
    have := (List.getElem?_eq_some_iff.1 hy).1
    exact ⟨_, List.getElem?_eq_getElem (by omega)⟩
  have hx00 := h.gr.at_ 0 x' hx0
  have hp0 : x'.p = 0 := by have := hx00.1; simpa [sumA] using this
  exact ⟨x', at_run h.gr hx0 (by simp [hp0]) (by have := hx00.2.1; simp [hp0]; omega)⟩
section

variable {w : World} {B q mb ck cu : Nat} {Ts : List TR} {T : TR} {t : Nat} {due : Int} {now frames : Nat}

theorem IsE.oth {w' : World} (h : IsE w B q mb ck cu Ts T t due now frames) (o : Oth q ck cu w w') :
    (∃ n, MapT w' mb n (fun i => (pick Ts i).map TR.g)) ∧ ∀ X ∈ Ts, TabOk B w' X := by
  obtain ⟨n, hm⟩ := h.map
  have hB := h.hB
  have hne := h.ne
  have hlt := h.lt
  exact ⟨⟨n, hm.kept (o.block _ (by omega) (by omega) (by omega) (by omega))⟩, fun X hX => (h.tabs X hX).kept (o.below hB.1 hB.2.2.1 hB.2.2.2 (by omega))⟩
theorem IsE.clock {w' : World} (h : IsE w B q mb ck cu Ts T t due now frames) (now' : Nat) (hc : IsClk w' ck now') (b : Below ck w w') (o : Only ck w w') (hn : frames ≤ now' ∧ now' ≤ 18446744073709551615) :
    IsE w' B q mb ck cu Ts T t due now' frames ∧ Oth q ck cu w w' := by
  have ho : Oth q ck cu w w' := ⟨b.os, b.tape, b.output, b.size, fun k _ _ hk _ => o k hk⟩
  obtain ⟨h1, h2⟩ := h.oth ho
  obtain ⟨r, x, h3, h4⟩ := h.cur
  have hne := h.ne
  exact ⟨⟨(o q (by omega)).trans h.box, hc, ⟨r, x, ⟨(o cu (by omega)).trans h3.box⟩, h4⟩, h1, h2, h.mem, h.dues, h.wd, h.hB, hne, hn⟩, ho⟩
theorem IsE.step {w' : World} {t' : Nat} (h : IsE w B q mb ck cu Ts T t due now frames) (hc : ∃ r x, IsC w' cu T.g (t' : Int) r ∧ AtRun T.L (t' : Int) r x) (j : Just cu w w') :
    IsE w' B q mb ck cu Ts T t' due now frames ∧ Oth q ck cu w w' := by
  have ho : Oth q ck cu w w' := Oth.of_just j
  obtain ⟨h1, h2⟩ := h.oth ho
  have hne := h.ne
  have hlt := h.lt
  exact ⟨⟨(j.block q (by omega) (by omega)).trans h.box, (j.block ck (by omega) (by omega)).trans h.clk, hc, h1, h2, h.mem, h.dues, h.wd, h.hB, hne, h.tm⟩, ho⟩
theorem IsE.more (h : IsE w B q mb ck cu Ts T t due now frames) (hn : frames + 1 ≤ now) :
    IsE (w.setCell ⟨q, 4, none⟩ (.int .u64 ((frames : Int) + 1))) B q mb ck cu Ts T t due now (frames + 1) ∧ Oth q ck cu w (w.setCell ⟨q, 4, none⟩ (.int .u64 ((frames : Int) + 1))) := by
  have ho := oth_cell w q ck cu 4 (.int .u64 ((frames : Int) + 1))
  obtain ⟨h1, h2⟩ := h.oth ho
  obtain ⟨r, x, h3, h4⟩ := h.cur
  have hne := h.ne
  have hk : ∀ k, k ≠ q → (w.setCell ⟨q, 4, none⟩ (.int .u64 ((frames : Int) + 1))).heap[k]? = w.heap[k]? := fun k hk => heap_setCell_other w ⟨q, 4, none⟩ k _ hk
  refine ⟨⟨?_, (hk _ (by omega)).trans h.clk, ⟨r, x, ⟨(hk _ (by omega)).trans h3.box⟩, h4⟩, h1, h2, h.mem, h.dues, h.wd, h.hB, hne, ⟨hn, h.tm.2⟩⟩, ho⟩
  rw [setCell_eq_setRow w q 4 _ _ (0, 0) _ h.box]
  exact setRow_heap _ _ _ _ _ _ h.box
theorem IsE.next {cu' : Nat} {X : TR} (h : IsE w B q mb ck cu Ts T t due now frames) (hX : pick Ts due = some X) (hc : IsC w cu' X.g 0 0) (hn : cu' ≠ q ∧ cu' ≠ ck ∧ cu' ≠ mb ∧ B ≤ cu') :
    IsE (w.setCell ⟨q, 2, none⟩ (.pointer (some ⟨cu', 0, none⟩))) B q mb ck cu' Ts X 0 due now frames ∧ Oth q ck cu w (w.setCell ⟨q, 2, none⟩ (.pointer (some ⟨cu', 0, none⟩))) := by
  have ho := oth_cell w q ck cu 2 (.pointer (some ⟨cu', 0, none⟩))
  obtain ⟨h1, h2⟩ := h.oth ho
  have hne := h.ne
  have hB := h.hB
  have hk : ∀ k, k ≠ q → (w.setCell ⟨q, 2, none⟩ (.pointer (some ⟨cu', 0, none⟩))).heap[k]? = w.heap[k]? := fun k hk => heap_setCell_other w ⟨q, 2, none⟩ k _ hk
  obtain ⟨x, hx⟩ := first_run (h.tabs X (pick_mem hX).1).ru
  refine ⟨⟨?_, (hk _ (by omega)).trans h.clk, ⟨0, x, ⟨(hk _ hn.1).trans hc.box⟩, hx⟩, h1, h2, (pick_mem hX).1, h.dues, h.wd, ⟨hB.1, hB.2.1, hB.2.2.1, hn.2.2.2⟩, ⟨hne.1, hne.2.1, by omega, hne.2.2.2.1, by omega, by omega⟩, h.tm⟩, ho⟩
  rw [setCell_eq_setRow w q 2 _ _ (0, 0) _ h.box]
  exact setRow_heap _ _ _ _ _ _ h.box
/-- What a tick does. -/
def TickPost (w : World) (B q mb ck cu : Nat) (Ts : List TR) (T : TR) (t : Nat) (due : Int) (now frames : Nat) (e : Ending) (w' : World) : Prop :=
  (now = 18446744073709551615 ∧ e = .returned (.tuple #[.int .i64 (-1), .bool false, .bool false]) ∧ IsE w' B q mb ck cu Ts T t due now frames ∧ Oth q ck cu w w') ∨
  (now < 18446744073709551615 ∧ t + 1 < T.fr ∧ e = .returned (.tuple #[.int .i64 (T.f (t : Int)), .bool false, .bool true]) ∧ IsE w' B q mb ck cu Ts T (t + 1) due (now + 1) frames ∧ Oth q ck cu w w') ∨
  (now < 18446744073709551615 ∧ t + 1 = T.fr ∧ ∃ X cu', pick Ts due = some X ∧ e = .returned (.tuple #[.int .i64 (T.f (t : Int)), .bool true, .bool true]) ∧ w.heap.size ≤ cu' ∧ IsE w' B q mb ck cu' Ts X 0 due (now + 1) (frames + 1) ∧ Oth q ck cu w w')
set_option maxRecDepth 8000 in
set_option maxHeartbeats 3200000 in
theorem etick_any (h : IsE w B q mb ck cu Ts T t due now frames) :
    Calls Tryd.prog 14 #[.pointer (some ⟨q, 0, none⟩)] w (TickPost w B q mb ck cu Ts T t due now frames) := by
  obtain ⟨c0, c1, c2, c3, c4⟩ := h.cells
  obtain ⟨r, x, hc, hx⟩ := h.cur
  have hT := h.tabs T h.mem
  have HC := Lib.hid (cowner_any cu T.g T.id (T.fr : Int) (t : Int) r T.A T.c T.L x w hc hT.it hx.get)
  rw [← (hT.ru.gr.at_ r x hx.get).2.2 (t : Int) hx.lo hx.hi] at HC
  have HE := Lib.hid h
  obtain ⟨fv, hfv⟩ : ∃ v, T.f (t : Int) = v := ⟨_, rfl⟩
  have HFV := Lib.hid hfv
  rw [hfv] at HC
  clear h hc hx hT hfv
  go_enter Tryd.func14, Tryd.ntmps14
  go_wp2_with fail
  refine HC.out.mono ?_
  rintro e w1 ⟨rfl, n1, hn1⟩
  have hb1 : Below w.heap.size w w1 := by rw [hn1]; exact ⟨rfl, rfl, rfl, Nat.le_refl _, fun _ _ => rfl⟩
  have HE1 := Lib.hid (HE.out.keep hb1)
  have HO1 : Hid (Oth q ck cu w w1) := Oth.of_below hb1
  clear hb1 hn1 HE HC c0 c1 c2 c3 c4
  obtain ⟨c0, c1, c2, c3, c4⟩ := HE1.out.cells
  by_cases hm : now = 18446744073709551615
  · have HTK := Lib.hid (ctick_at ck now false now w1 (by omega) (by rw [hm]; decide +kernel) (by rw [hm]; decide +kernel) HE1.out.clk)
    have HM := Lib.hid hm
    clear hm
    go_wp2_with fail
    refine HTK.out.mono ?_
    rintro e w2 ⟨rfl, h2, hb2, ho2⟩
    have HE2 := Lib.hid (HE1.out.clock now h2 hb2 ho2 HE1.out.tm)
    clear h2 hb2 ho2 c0 c1 c2 c3 c4
    go_wp2
    go_ret3
    exact .inl ⟨HM.out, rfl, HE2.out.1, HO1.out.trans HE2.out.2⟩
  · have htm := HE1.out.tm
    have HM : Hid (now < 18446744073709551615) := by show _ < _; omega
    have hw1 : went now 1 = 1 := by unfold went; omega
    have HTK := Lib.hid (ctick_at ck now true (now + 1) w1 (by omega) (by rw [hw1]; rfl) (by rw [hw1]) HE1.out.clk)
    clear hm hw1 htm
    go_wp2_with fail
    refine HTK.out.mono ?_
    rintro e w2 ⟨rfl, h2, hb2, ho2⟩
    have HE2 := Lib.hid (HE1.out.clock (now + 1) h2 hb2 ho2 (by have := HE1.out.tm; have := HM.out; omega))
    have HO2 := Lib.hid (HO1.out.trans HE2.out.2)
    have HF1 : Hid (frames + 1 ≤ now + 1 ∧ now < 18446744073709551615) := by have := HE1.out.tm; have := HM.out; show _ ∧ _; omega
    clear h2 hb2 ho2 c0 c1 c2 c3 c4 HTK HE1 HO1
    obtain ⟨c0, c1, c2, c3, c4⟩ := HE2.out.1.cells
    obtain ⟨r2, x2, hc2, hx2⟩ := HE2.out.1.cur
    have hT2 := HE2.out.1.tabs T HE2.out.1.mem
    have hB2 := HE2.out.1.hB
    have HST := Lib.hid (cstep_any cu T.g T.id T.fr t r2 T.A T.c T.f T.L x2 w2 hc2 hT2.it hT2.ru hx2 (by have := hT2.lg; omega) (fun a ha => by have := hT2.lA a ha; omega))
    have HTL := Lib.hid HE2.out.1.tick_lt
    clear hc2 hx2 hT2 hB2
    by_cases hf : t + 1 = T.fr
    · have HF := Lib.hid hf
      have hd : decide (t + 1 ≠ T.fr) = false := by simp [hf]
      rw [hd, if_pos hf] at HST
      clear hd hf
      go_wp2_with fail
      refine HST.out.mono ?_
      rintro e w3 ⟨rfl, hc3, hj3⟩
      have HE3 := Lib.hid (HE2.out.1.step hc3 hj3)
      have HO3 := Lib.hid (HO2.out.trans HE3.out.2)
      clear hc3 hj3 c0 c1 c2 c3 c4 HST HE2 HO2
      obtain ⟨c0, c1, c2, c3, c4⟩ := HE3.out.1.cells
      have f4 := HE3.out.1.free 4
      have HE4 := Lib.hid (HE3.out.1.more HF1.out.1)
      have HO4 := Lib.hid (HO3.out.trans HE4.out.2)
      have hw1 : IntKind.u64.wrap ((frames : Int) + 1) = (frames : Int) + 1 := IntWalk.u64_in _ (by have := HF1.out; omega)
      obtain ⟨W4, hW4⟩ : ∃ W, w3.setCell ⟨q, 4, none⟩ (.int .u64 ((frames : Int) + 1)) = W := ⟨_, rfl⟩
      rw [hW4] at HE4 HO4
      have HW4 := Lib.hid hW4
      clear hW4 HE3 HO3
      go_upto_region 7 with fail
      rw [HW4.out]
      clear hw1 HW4 c0 c1 c2 c3 c4 f4
      obtain ⟨X, hX⟩ := HE4.out.1.dues
      have HX := Lib.hid hX
      have hdd := HE4.out.1.keep (w' := W4.drew) ⟨rfl, rfl, rfl, Nat.le_refl _, fun _ _ => rfl⟩
      have HE5 := Lib.hid hdd
      have HO5 : Hid (Oth q ck cu w W4.drew) := oth_drewN HO4.out 1
      obtain ⟨nm, hmp⟩ := hdd.map
      have hlk := hmp.look due hdd.wd
      rw [hX] at hlk
      have hlk2 : (Instr.lookup 69 (.map (some mb)) (.int .i64 due) false).run Tryd.prog W4.drew = .ok (.pointer (some ⟨X.g, 0, none⟩)) W4.drew := hlk
      obtain ⟨c0, c1, c2, c3, c4⟩ := hdd.cells
      have f2 := hdd.free 2
      have HSZ : Hid (W4.heap.size ≠ q ∧ W4.heap.size ≠ ck ∧ W4.heap.size ≠ mb ∧ B ≤ W4.heap.size) := by
        have h1 := HE4.out.1.lt
        have h2 := HE4.out.1.hB
        show _ ∧ _
        omega
      have HSW : Hid (w.heap.size ≤ W4.heap.size) := HO4.out.size
      clear hX hdd hmp hlk
      go_region_held3 (fun wx => wx.cell? ⟨q, 0, none⟩ = some (.map (some mb)) ∧ wx.cell? ⟨q, 3, none⟩ = some (.int .i64 due) ∧ wx.frozen? ⟨q, 2, none⟩ = false)
        (first | (refine ⟨?_, ?_, ?_⟩ <;> assumption) | (go_keep; done))
        (first
          | (go_at_call 31; refine (ccursor_any X.g _).mono ?_; rintro e w5 ⟨rfl, hc5, hb5⟩; have HE6 := Lib.hid (HE5.out.keep hb5); have HC6 := Lib.hid hc5; have HO6 : Hid (Oth q ck cu w w5) := (HO5.out.trans (Oth.of_below hb5)); have HE7 : Hid (IsE (w5.setCell ⟨q, 2, none⟩ (.pointer (some ⟨W4.heap.size, 0, none⟩))) B q mb ck W4.heap.size Ts X 0 due (now + 1) (frames + 1) ∧ Oth q ck cu w5 (w5.setCell ⟨q, 2, none⟩ (.pointer (some ⟨W4.heap.size, 0, none⟩)))) := HE6.out.next HX.out HC6.out HSZ.out; clear hb5 hc5; obtain ⟨d0, d1, d2, d3, d4⟩ := HE7.out.1.cells; have d5 := HE7.out.1.free 2; obtain ⟨c0, c1, c2, c3, c4⟩ := HE6.out.cells; have f2 := HE6.out.free 2))
      all_goals
        go_wp2
        go_ret3
        exact .inr (.inr ⟨HM.out, HF.out, X, _, HX.out, by rw [HFV.out]; rfl, HSW.out, HE7.out.1, HO6.out.trans HE7.out.2⟩)
    · have hlt : t + 1 < T.fr := by have := HTL.out; omega
      have HF := Lib.hid hlt
      have hd : decide (t + 1 ≠ T.fr) = true := by simp [hf]
      rw [hd, if_neg hf] at HST
      clear hd hf hlt
      go_wp2_with fail
      refine HST.out.mono ?_
      rintro e w3 ⟨rfl, hc3, hj3⟩
      have HE3 := Lib.hid (HE2.out.1.step hc3 hj3)
      have HO3 := Lib.hid (HO2.out.trans HE3.out.2)
      clear hc3 hj3 c0 c1 c2 c3 c4 HST HE2 HO2
      go_wp2
      go_ret3
      exact .inr (.inl ⟨HM.out, HF.out, by rw [HFV.out]; rfl, HE3.out.1, HO3.out⟩)
end

end Go.Proofs.YtofcjkfaccdnjaaDoor.Frm
