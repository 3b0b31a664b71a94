/- Worlds of which just a block and a row have changed; rows of the call's own. It says nothing of the program. No condition. Pairs: a row of the call's own, sorted, each once (slices.SortFunc, slices.Compact, package pairs' Sort). Condition: at most a million pairs. -/
import Derived.Test.YtnngldkpkhabeaaProg
import Derived.WalkKit
import Derived.PlainAid
import Derived.Lib.Hide
import Derived.Deep.CutRange
import Derived.BigQuiet
import Derived.BigRegion
import Derived.Deep.RegionHeld3
import Derived.OwnWalk
import Derived.IntWalk
import Derived.Laws.AppendOwn
import Derived.Laws.OwnMore
import Derived.Lib.SliceRun
import Derived.Deep.CutBlock
import Derived.Test.YtnngldkpkhabeaaMg14
import Derived.Test.YtnngldkpkhabeaaMg15
import Derived.Deep.WholeRow
import Derived.Laws.CopyOwn
import Derived.Sort.OwnSortedInts
namespace Go.Proofs.Ytnngldkpkhabeaa.Cel

open Go.RowKit Go.PlainAid

set_option linter.unusedVariables false

theorem own_slice {w : World} {B e s n : Nat} {v : Value} {xs : List Value} (h : w.ownsRow B e s v n xs) : ∃ A c, v = .slice A n c := by
  rcases h.2 with ⟨rfl, rfl⟩ | ⟨g, cap, cur, rfl, _⟩
  · exact ⟨none, 0, rfl⟩
  · exact ⟨_, _, rfl⟩
theorem own_keep {w w' : World} {B e s n : Nat} {v : Value} {xs : List Value} (h : w.ownsRow B e s v n xs) (b : Below w.heap.size w w') : w'.ownsRow B e s v n xs := by
  refine ⟨h.1, ?_⟩
  rcases h.2 with h | ⟨g, cap, cur, h1, h2, h3, h4⟩
  · exact .inl h
  · exact .inr ⟨g, cap, cur, h1, h2, (b.block g (lt_of_block h3)).trans h3, h4⟩
/-- Just block g and the row A have changed. -/
structure Two (g : Nat) (A : Option Addr) (w w' : World) : Prop where
  os : w'.os = w.os
  tape : w'.tape = w.tape
  output : w'.output = w.output
  size : w.heap.size ≤ w'.heap.size
  block : ∀ k, k < w.heap.size → k ≠ g → (∀ a, A = some a → a.block ≠ k) → w'.heap[k]? = w.heap[k]?
theorem Two.refl (g : Nat) (A : Option Addr) (w : World) : Two g A w w := ⟨rfl, rfl, rfl, Nat.le_refl _, fun _ _ _ _ => rfl⟩
theorem Two.trans {g : Nat} {A : Option Addr} {a b c : World} (h : Two g A a b) (k : Two g A b c) : Two g A a c :=
  ⟨k.os.trans h.os, k.tape.trans h.tape, k.output.trans h.output, Nat.le_trans h.size k.size, fun i hi h1 h2 => (k.block i (Nat.lt_of_lt_of_le hi h.size) h1 h2).trans (h.block i hi h1 h2)⟩
theorem two_below {g : Nat} {A : Option Addr} {w w' : World} (b : Below w.heap.size w w') : Two g A w w' := ⟨b.os, b.tape, b.output, b.size, fun k hk _ _ => b.block k hk⟩
theorem two_cell {g : Nat} {A : Option Addr} (w : World) (a : Addr) (v : Value) (h : a.block = g ∨ ∃ b, A = some b ∧ b.block = a.block) : Two g A w (w.setCell a v) :=
  ⟨rfl, rfl, rfl, by simp, fun k _ h1 h2 => heap_setCell_other w a k v (by
    rcases h with h | ⟨b, hb, h⟩
    · rw [h]; exact h1
    · intro e; exact h2 b hb (by rw [h]; exact e.symm))⟩
theorem Two.below {g : Nat} {A : Option Addr} {w0 w w' : World} {B : Nat} (h : Below B w0 w) (k : Two g A w w') (hB : B ≤ w.heap.size) (hg : B ≤ g) (hA : ∀ a, A = some a → B ≤ a.block) : Below B w0 w' :=
  ⟨k.os.trans h.os, k.tape.trans h.tape, k.output.trans h.output, Nat.le_trans h.size k.size, fun i hi => (k.block i (by omega) (by omega) (fun a ha => by have := hA a ha; omega)).trans (h.block i hi)⟩
theorem own_at {w : World} {B e s n c : Nat} {A : Option Addr} {xs : List Value} (h : w.ownsRow B e s (.slice A n c) n xs) : ∀ a, A = some a → a = ⟨a.block, 0, none⟩ ∧ B ≤ a.block ∧ a.block < w.heap.size := by
  intro a ha
  subst ha
  obtain ⟨h1, h2⟩ := h.lt a.block rfl
  rcases h.2 with ⟨h0, _⟩ | ⟨g, c', cur, h0, _⟩
  · injection h0 with h3; cases h3
  · injection h0 with h3
    obtain rfl := Option.some.inj h3
    exact ⟨rfl, h1, h2⟩
theorem own_base {w : World} {B B' e s n : Nat} {v : Value} {xs : List Value} (h : w.ownsRow B e s v n xs) (hB : B' ≤ B) : w.ownsRow B' e s v n xs := by
  refine ⟨h.1, ?_⟩
  rcases h.2 with h | ⟨g, cap, cur, h1, h2, h3⟩
  · exact .inl h
  · exact .inr ⟨g, cap, cur, h1, by omega, h3⟩
theorem own_apart {w w' : World} {g : Nat} {R : Option Addr} {B e s n c : Nat} {A : Option Addr} {xs : List Value} (h : w.ownsRow B e s (.slice A n c) n xs) (t : Two g R w w') (h1 : ∀ a, A = some a → a.block ≠ g) (h2 : ∀ a b, A = some a → R = some b → b.block ≠ a.block) : w'.ownsRow B e s (.slice A n c) n xs := by
  refine ⟨h.1, ?_⟩
  rcases h.2 with h | ⟨r, cap, cur, h3, h4, h5, h6⟩
  · exact .inl h
  · injection h3 with h7 h8 h9
    subst h7
    refine .inr ⟨r, cap, cur, by rw [h9], h4, (t.block r (lt_of_block h5) (h1 _ rfl) (fun b hb => h2 _ b rfl hb)).trans h5, h6⟩
end Go.Proofs.Ytnngldkpkhabeaa.Cel
namespace Go.Proofs.Ytnngldkpkhabeaa.Pai

open Go.RowKit Go.PlainAid Go.Proofs.Ytnngldkpkhabeaa.Oct Go.Proofs.Ytnngldkpkhabeaa.Flt Go.Proofs.Ytnngldkpkhabeaa.Rdr Go.Proofs.Ytnngldkpkhabeaa.Args

open Go.Proofs.Ytnngldkpkhabeaa.Cel (two_below own_slice)

open Go.Sort (grow putRow putCells Holds)

open Go.Shelf Go.Lib Go.Sort

set_option linter.unusedVariables false

set_option linter.unusedSimpArgs false

abbrev Tw := @Go.Proofs.Ytnngldkpkhabeaa.Cel.Two
theorem setRow_sameP (w : World) (g : Nat) (cur : Array Value) (t : TypeId) (hg : w.heap[g]? = some (.cells cur t (0, 0))) : w.setRow g cur = w := by
  have hlt : g < w.heap.size := (Array.getElem?_eq_some_iff.1 hg).1
  have hv : w.heap[g] = .cells cur t (0, 0) := (Array.getElem?_eq_some_iff.1 hg).2
  unfold World.setRow
  cases w with
  | mk heap tape drawn os output =>
    congr 1
    apply Array.ext
    · simp
    · intro k h1 h2
      simp only [Array.getElem_modify]
      split
      · rename_i hk; subst hk; simp at hv; simp [hv]
      · rfl
theorem setCells_rowP (g : Nat) (t : TypeId) : ∀ (vs : List Value) (o : Nat) (cur : Array Value) (w : World), w.heap[g]? = some (.cells cur t (0, 0)) → o + vs.length ≤ cur.size → w.setCells g o vs = w.setRow g (splice cur.toList o vs).toArray
  | [], o, cur, w, hg, h => by
    have e : (splice cur.toList o []).toArray = cur := by simp [splice]
    rw [e, setRow_sameP w g cur t hg]; rfl
  | v :: r, o, cur, w, hg, h => by
    have hl : o < cur.size := by simp at h; omega
    have ih := setCells_rowP g t r (o + 1) (cur.setIfInBounds o v) (w.setRow g (cur.setIfInBounds o v)) (setRow_heap w g cur _ t _ hg) (by simp at h ⊢; omega)
    rw [World.setCells, setCell_eq_setRow w g o cur t (0, 0) v hg, ih, setRow_setRow]
    congr 2
    unfold splice
    apply List.ext_getElem?
    intro k
    simp only [Array.toList_setIfInBounds, List.getElem?_append, List.length_take, List.length_set, Array.length_toList, List.length_cons, List.getElem?_drop, List.getElem?_take, List.getElem?_cons, List.getElem?_set]
    have m1 : min (o + 1) cur.size = o + 1 := by omega
    have m2 : min o cur.size = o := by omega
    rw [m1, m2]
    by_cases h1 : k < o
    · rw [if_pos (by omega), if_pos (by omega), if_neg (by omega), if_pos h1, if_pos h1]
    · by_cases h2 : k = o
      · subst h2
        rw [if_pos (by omega), if_pos (by omega), if_pos rfl, if_pos hl, if_neg h1, if_pos (by omega), if_pos (by omega)]
      · rw [if_neg (by omega), if_neg h1]
        by_cases h3 : k - (o + 1) < r.length
        · rw [if_pos h3, if_pos (by omega), if_neg (by omega)]
          first | rfl | (congr 1; omega) | (congr 1)
        · rw [if_neg h3, if_neg (by omega), if_neg (by omega)]
          first | rfl | (congr 1; omega) | (congr 1)
theorem run_storeVar_atP {P : Program} (w : World) (g o : Nat) (t ty : TypeId) (cur cells : Array Value) (hg : w.heap[g]? = some (.cells cur t (0, 0))) (hi : (P.info? ty).map (·.size) = some cells.size)
    (ho : o + cells.size ≤ cur.size) (h1 : cells.all (·.oneCell') = true) :
    (storeVar ty ⟨g, o, none⟩ (.agg cells)).run P w = .ok () (w.setRow g (splice cur.toList o cells.toList).toArray) := by
  have hc : ∀ j, j < cells.toList.length → (w.cell? ⟨g, o + 0 + j, none⟩).isSome = true := fun j hj => by
    rw [cell_of_row _ _ _ _ _ _ hg, Array.getElem?_eq_getElem (by simp at hj; omega)]; rfl
  have hf : ∀ j, j < cells.toList.length → w.frozen? ⟨g, o + 0 + j, none⟩ = false := fun j _ => by simp [World.frozen?, hg]
  have := run_storeCells_cells (P := P) g o cells.toList 0 w hc hf (fun v hv => (Array.all_eq_true_iff_forall_mem.1 h1) v (by simpa using hv))
  rw [Nat.add_zero, setCells_rowP g t _ o cur w hg (by simpa using ho)] at this
  cases hq : P.info? ty with
  | none => simp [hq] at hi
  | some i =>
    have hs : cells.size = i.size := by simp [hq] at hi; omega
    simp [storeVar, sizeOf, typeInfo, hq, Value.cells, hs, this]
/-- clear(s) of elements of two cells. -/
theorem run_clear2 {P : Program} (w : World) (t e : TypeId) (z : Value) (vs : List Value) (ht : P.underlying t = some (.slice e)) (hv : ∀ w, (zeroValue e).run P w = .ok z w) (hz : z.cells = vs.toArray) (h3 : vs.length = 2) (h1 : ∀ v ∈ vs, v.oneCell' = true) (g o n c : Nat) (hn : 0 < n)
    (cur : Array Value) (T : TypeId) (hg : w.heap[g]? = some (.cells cur T (0, 0))) (hfit : o + n * 2 ≤ cur.size) :
    ∃ zs : List Value, zs.length = n * 2 ∧ ∀ ty, (Builtin.clear_ #[t] ty #[.slice (some ⟨g, o, none⟩) n c]).run P w = .ok (.tuple #[]) (w.setRow g (splice cur.toList o zs).toArray) := by
  have hzl : (Builtin.zeroCells z.cells n).toList.length = n * 2 := by
    rw [hz]; simp [Builtin.zeroCells, h3]
  have hz1 : ∀ v ∈ (Builtin.zeroCells z.cells n).toList, v.oneCell' = true := fun v hv => by
    rw [hz] at hv
    unfold Builtin.zeroCells at hv
    rw [List.size_toArray, h3, Array.toList_map, List.mem_map] at hv
    obtain ⟨k, hk, rfl⟩ := hv
    have hk3 : k % 2 < vs.toArray.size := by rw [List.size_toArray]; omega
    rw [getElem!_pos vs.toArray (k % 2) hk3]
    exact h1 _ (by simp)
  refine ⟨(Builtin.zeroCells z.cells n).toList, hzl, fun ty => ?_⟩
  have hc : ∀ j, j < (Builtin.zeroCells z.cells n).toList.length → (w.cell? ⟨g, o + 0 + j, none⟩).isSome = true := fun j hj => by
    rw [cell_of_row _ _ _ _ _ _ hg, Array.getElem?_eq_getElem (by omega)]; rfl
  have hf : ∀ j, j < (Builtin.zeroCells z.cells n).toList.length → w.frozen? ⟨g, o + 0 + j, none⟩ = false := fun j _ => by simp [World.frozen?, hg]
  have hst := run_storeCells_cells (P := P) g o (Builtin.zeroCells z.cells n).toList 0 w hc hf hz1
  rw [Nat.add_zero, setCells_rowP g T _ o cur w hg (by omega)] at hst
  obtain ⟨m, rfl⟩ : ∃ m, n = m + 1 := ⟨n - 1, by omega⟩
  simp [Builtin.clear_, run_underlying ht, hv, hst]
theorem flatP_app (l m : List P2) : flatP (l ++ m) = flatP l ++ flatP m := by simp [flatP]
theorem flatP_getT (l : List P2) (i : Nat) (x : P2) (h : l[i]? = some x) (tl : List Value) (j : Nat) (hj : j < 2) : (flatP l ++ tl)[i * 2 + j]? = (pairL x)[j]? := by
  have hi := (List.getElem?_eq_some_iff.1 h).1
  rw [List.getElem?_append_left (by rw [flatP_len]; omega)]
  exact flatP_get l i x j h hj
theorem flatP_take (l : List P2) : ∀ i, (flatP l).take (i * 2) = flatP (l.take i) := by
  intro i
  rcases Nat.lt_or_ge i l.length with h | h
  · have e : flatP l = flatP (l.take i) ++ flatP (l.drop i) := by rw [← flatP_app, List.take_append_drop]
    rw [e, List.take_left' (by rw [flatP_len, List.length_take]; omega)]
  · rw [List.take_of_length_le (by rw [flatP_len]; omega), List.take_of_length_le h]
theorem flatP_drop (l : List P2) : ∀ i, (flatP l).drop (i * 2) = flatP (l.drop i) := by
  intro i
  rcases Nat.lt_or_ge i l.length with h | h
  · have e : flatP l = flatP (l.take i) ++ flatP (l.drop i) := by rw [← flatP_app, List.take_append_drop]
    rw [e, List.drop_left' (by rw [flatP_len, List.length_take]; omega)]
  · rw [List.drop_of_length_le (by rw [flatP_len]; omega), List.drop_of_length_le h]; rfl
theorem splice_flatP (l : List P2) (tl : List Value) (i : Nat) (x : P2) (h : i < l.length) : splice (flatP l ++ tl) (i * 2) (pairL x) = flatP (l.set i x) ++ tl := by
  unfold splice
  have h3 : (pairL x).length = 2 := rfl
  rw [List.take_append_of_le_length (by rw [flatP_len]; omega), flatP_take, List.drop_append_of_le_length (by rw [flatP_len, h3]; omega), h3, show i * 2 + 2 = (i + 1) * 2 by omega, flatP_drop]
  have e : l.set i x = l.take i ++ (x :: l.drop (i + 1)) := by
    rw [List.set_eq_take_append_cons_drop, if_pos h]
  have e2 : flatP (x :: l.drop (i + 1)) = pairL x ++ flatP (l.drop (i + 1)) := rfl
  rw [e, flatP_app, e2, List.append_assoc, List.append_assoc]
theorem size_pair : (Try.prog.info? 24).map (·.size) = some 2 := by kernel_rfl
/-- Block g holds pairs, and tl behind them. -/
def RowP (g : Nat) (tl : List Value) (L : List P2) (W : World) : Prop := W.heap[g]? = some (.cells (flatP L ++ tl).toArray 24 (0, 0))
theorem RowP.cells {g : Nat} {tl : List Value} {L : List P2} {W : World} (h : RowP g tl L W) {i : Nat} {x : P2} (hx : L[i]? = some x) :
    W.cell? ⟨g, i * 2, none⟩ = some (.int .i64 x.f) ∧ W.cell? ⟨g, i * 2 + 1, none⟩ = some (.int .i64 x.t) := by
  refine ⟨?_, ?_⟩
  · rw [cell_of_row _ _ _ _ _ _ h, List.getElem?_toArray]; exact flatP_getT L i x hx tl 0 (by omega)
  · rw [cell_of_row _ _ _ _ _ _ h, List.getElem?_toArray]; exact flatP_getT L i x hx tl 1 (by omega)
theorem RowP.load {g : Nat} {tl : List Value} {L : List P2} {W : World} (h : RowP g tl L W) {i : Nat} {x : P2} (hx : L[i]? = some x) :
    Sem.run Try.prog (loadVar 24 ⟨g, i * 2, none⟩) W = .ok (.agg #[.int .i64 x.f, .int .i64 x.t]) W := by
  obtain ⟨c0, c1⟩ := h.cells hx
  simp [go_sem, loadVar, c0, c1]
theorem RowP.store {g : Nat} {tl : List Value} {L : List P2} {W : World} (h : RowP g tl L W) {i : Nat} (hi : i < L.length) (x : P2) :
    Sem.run Try.prog (storeVar 24 ⟨g, i * 2, none⟩ (.agg #[.int .i64 x.f, .int .i64 x.t])) W = .ok () (W.setRow g (flatP (L.set i x) ++ tl).toArray) := by
  have hr := run_storeVar_atP (P := Try.prog) W g (i * 2) _ 24 _ #[.int .i64 x.f, .int .i64 x.t] h size_pair (by simp; rw [flatP_len]; omega) (by simp [Value.oneCell'])
  have e := splice_flatP L tl i x hi
  simp only [List.toList_toArray] at hr
  rw [show splice (flatP L ++ tl) (i * 2) [.int .i64 x.f, .int .i64 x.t] = flatP (L.set i x) ++ tl from e] at hr
  exact hr
theorem RowP.keep {g : Nat} {tl : List Value} {L : List P2} {W W' : World} (h : RowP g tl L W) (b : Below W.heap.size W W') : RowP g tl L W' := (b.block g (lt_of_block h)).trans h
theorem RowP.set {g : Nat} {tl : List Value} {L : List P2} {W : World} (h : RowP g tl L W) (M : List P2) : RowP g tl M (W.setRow g (flatP M ++ tl).toArray) := setRow_heap _ _ _ _ _ _ h
theorem tw_row (g : Nat) (w : World) (cs : Array Value) : Tw g none w (w.setRow g cs) := ⟨rfl, rfl, rfl, by simp [World.setRow], fun k _ h1 _ => setRow_other _ _ _ _ h1⟩
theorem tw_drewN (g n : Nat) (w : World) : Tw g none w (w.drewN n) := ⟨rfl, rfl, rfl, Nat.le_refl _, fun _ _ _ _ => rfl⟩
theorem eq_pair2 (x y : P2) (w : World) : (Op.equalIn 10000 24 (.agg #[.int .i64 x.f, .int .i64 x.t]) (.agg #[.int .i64 y.f, .int .i64 y.t])).run Try.prog w = .ok (eqB2 x y) w := by
  have hS : Try.prog.underlying 24 = some (.struct (Try.prog.fieldsOf 24)) := by kernel_rfl
  rw [show (10000 : Nat) = 9999 + 1 from rfl, run_equalIn_agg w 9999 24 _ _ hS (by kernel_rfl)]
  simp only [Program.fieldsOf, Try.underlying24]
  unfold eqB2
  cases h1 : (x.f == y.f) <;> cases h2 : (x.t == y.t) <;> simp [go_sem, h1, h2]
end Go.Proofs.Ytnngldkpkhabeaa.Pai

namespace Go.Proofs.Ytnngldkpkhabeaa.Pai

open Go.RowKit Go.PlainAid Go.Proofs.Ytnngldkpkhabeaa.Oct Go.Proofs.Ytnngldkpkhabeaa.Flt Go.Proofs.Ytnngldkpkhabeaa.Rdr Go.Proofs.Ytnngldkpkhabeaa.Args

open Go.Proofs.Ytnngldkpkhabeaa.Cel (two_below own_slice)

open Go.Sort (grow putRow putCells Holds)

open Go.Shelf Go.Lib Go.Sort

set_option linter.unusedVariables false

set_option linter.unusedSimpArgs false

set_option maxRecDepth 4000 in
theorem compareS_any (x y : P2) (w : World) :
    Calls Try.prog 32 #[.agg (pairC x), .agg (pairC y)] w fun e w' => e = .returned (.int .i64 (cmpP x y)) ∧ ∃ q os, w' = grow (w.drewN q) os := by
  unfold cmpP pairC
  have H1 := Lib.hid (fun w => Try.cmp_Compare_int x.f y.f w)
  have H2 := Lib.hid (fun w => Try.cmp_Compare_int x.t y.t w)
  obtain ⟨a, ha⟩ : ∃ a, Lib.compareInt x.f y.f = a := ⟨_, rfl⟩
  obtain ⟨b, hb⟩ : ∃ b, Lib.compareInt x.t y.t = b := ⟨_, rfl⟩
  rw [ha] at H1 ⊢
  rw [hb] at H2 ⊢
  clear ha hb
  have HO : Hid (∀ (W : World) (g : Nat), W.heap[g]? = some (.cells #[.int .i64 a, .int .i64 b] 3 (0, 0)) → Calls Try.prog 52 #[.slice (some ⟨g, 0, none⟩) 2 2] W fun e w' => e = .returned (.int .i64 (if a = 0 then b else a)) ∧ W = w') := fun W g h => or_any a b g W h
  obtain ⟨z, hz⟩ : ∃ z, (if a = 0 then b else a) = z := ⟨_, rfl⟩
  rw [hz] at HO ⊢
  obtain ⟨xf, xt⟩ := x
  obtain ⟨yf, yt⟩ := y
  dsimp only at H1 H2 ⊢
  clear hz
  go_enter Try.func32, Try.ntmps32
  go_wp2_with fail
  obtain ⟨W, hW⟩ : ∃ W, ((w.alloc (.cells #[.int .i64 xf, .int .i64 xt] 24)).alloc (.cells #[.int .i64 yf, .int .i64 yt] 24)) = W := ⟨_, rfl⟩
  have HWE := Lib.hid hW
  have hra : W.heap[w.heap.size]? = some (.cells #[.int .i64 xf, .int .i64 xt] 24 (0, 0)) := by rw [← hW]; exact (heap_alloc_old _ _ (by simp)).trans (heap_alloc_new _ _)
  have hrb : W.heap[w.heap.size + 1]? = some (.cells #[.int .i64 yf, .int .i64 yt] 24 (0, 0)) := by rw [← hW]; exact Hdr.second_new w _ _
  rw [hW]
  have HCE : Hid (W.cell? ⟨w.heap.size, 0, none⟩ = some (.int .i64 xf) ∧ W.cell? ⟨w.heap.size, 1, none⟩ = some (.int .i64 xt) ∧ W.cell? ⟨w.heap.size + 1, 0, none⟩ = some (.int .i64 yf) ∧ W.cell? ⟨w.heap.size + 1, 1, none⟩ = some (.int .i64 yt)) := by
    refine ⟨?_, ?_, ?_, ?_⟩
    all_goals first
      | (rw [cell_of_row W _ _ _ _ _ hra]; rfl)
      | (rw [cell_of_row W _ _ _ _ _ hrb]; rfl)
  obtain ⟨q0, q1, q2, q3⟩ := HCE.out
  clear hW hra hrb
  go_region_held3 (fun wx => wx.cell? ⟨w.heap.size, 0, none⟩ = some (.int .i64 xf) ∧ wx.cell? ⟨w.heap.size, 1, none⟩ = some (.int .i64 xt) ∧ wx.cell? ⟨w.heap.size + 1, 0, none⟩ = some (.int .i64 yf) ∧ wx.cell? ⟨w.heap.size + 1, 1, none⟩ = some (.int .i64 yt)) (first | (go_keep; done) | exact HCE.out | (refine ⟨?_, ?_, ?_, ?_⟩ <;> assumption))
    (first
      | (go_at_call 53; (with_reducible first | (refine (H1.out _).mono ?_) | (refine (H2.out _).mono ?_)); rintro e w' ⟨rfl, rfl⟩)
      | (go_at_call 52; refine (HO.out ((W.alloc (.cells #[.int .i64 a, .int .i64 b] 3)).drew) W.heap.size (by exact heap_alloc_new W _)).mono ?_; rintro e w' ⟨rfl, rfl⟩))
  go_wp2
  go_ret
  refine ⟨rfl, 1, #[.cells #[.int .i64 xf, .int .i64 xt] 24, .cells #[.int .i64 yf, .int .i64 yt] 24, .cells #[.int .i64 a, .int .i64 b] 3], ?_⟩
  rw [← HWE.out]
  rw [Go.Sort.alloc_eq_grow, Go.Sort.alloc_eq_grow, Go.Sort.alloc_eq_grow, Go.Sort.grow_grow, Go.Sort.grow_grow, Go.Sort.drew_grow]
  rfl
theorem holdsP_vals {w : World} {g : Nat} {cur : Array Value} {e : TypeId} {xs : List Value} (hb : w.heap[g]? = some (.cells cur e (0, 0))) (ht : cur.toList.take xs.length = xs) : Holds id w g 0 xs.toArray := by
  intro j hj
  have hj' : j < xs.length := by simpa using hj
  refine ⟨?_, by simp [World.frozen?, hb]⟩
  have h1 : (cur.toList.take xs.length)[j]? = xs[j]? := by rw [ht]
  rw [List.getElem?_take_of_lt hj'] at h1
  simp only [World.cell?, hb, Nat.zero_add]
  simp only [Option.isSome_none, Bool.false_eq_true, if_false]
  rw [← Array.getElem?_toList, h1]
  simp [hj']
theorem heapP_vals {w : World} {g n : Nat} {os : Array Obj} {cur : Array Value} {e : TypeId} {fr : Nat × Nat} (d : Array Value) (hb : w.heap[g]? = some (.cells cur e fr)) :
    (grow (putRow id (Sort.ahead w n) g 0 d) os).heap[g]? = some (.cells (putCells id 0 d cur) e fr) := by
  have hg : g < w.heap.size := (Array.getElem?_eq_some_iff.1 hb).1
  rw [Go.Sort.heap_grow_old _ _ (by simpa using hg)]
  simp [putRow, Go.Sort.mapBlock, Sort.ahead, Array.getElem?_modify, hb, Go.Sort.onCells]
theorem grownP_vals {w : World} {g n : Nat} {os : Array Obj} (d : Array Value) : w.grownBy (grow (putRow id (Sort.ahead w n) g 0 d) os) (some g) := by
  refine ⟨rfl, rfl, rfl, by simp, fun k hk hne => ?_⟩
  rw [Go.Sort.heap_grow_old _ _ (by simpa using hk)]
  have : g ≠ k := fun e => hne (by rw [e])
  simp [putRow, Go.Sort.mapBlock, Sort.ahead, Array.getElem?_modify, this]
theorem takeP_vals (cur : Array Value) (ts : List Value) (h : ts.length ≤ cur.size) : (putCells id 0 ts.toArray cur).toList.take ts.length = ts := by
  apply List.ext_getElem?
  intro j
  by_cases hj : j < ts.length
  · rw [List.getElem?_take_of_lt hj, Array.getElem?_toList]
    simp [putCells, hj, show j < cur.size by omega]
  · rw [List.getElem?_take_eq_none (by omega), List.getElem?_eq_none (by omega)]
theorem ownP_vals {w : World} {B g cap n m k : Nat} {e : TypeId} {os : Array Obj} {xs ys : List Value} (h : w.ownsRow B e k (.slice (some ⟨g, 0, none⟩) n cap) n xs) (hl : ys.length = xs.length) :
    (grow (putRow id (Sort.ahead w m) g 0 ys.toArray) os).ownsRow B e k (.slice (some ⟨g, 0, none⟩) n cap) n ys := by
  rcases h.2 with ⟨h0, _⟩ | ⟨g', cap', cur, e', hb, hg, h1, h2, h3, h4⟩
  · cases h0
  · cases e'
    have hn : n * k ≤ cap * k := Nat.mul_le_mul_right k h1
    refine ⟨by rw [hl, h.1], .inr ⟨g, cap, _, rfl, hb, heapP_vals _ hg, h1, h2, by simp [putCells, h3], ?_⟩⟩
    have := takeP_vals cur ys (by rw [hl, h.1, h3]; exact hn)
    rw [hl, h.1] at this
    exact this
end Go.Proofs.Ytnngldkpkhabeaa.Pai
