
/- A slice of structs of the call's own: a whole element is stored, the rest is cleared. It says nothing of the program. Windows: those that are somebody's are deleted out of a row of the call's own (slices.DeleteFunc at Gaps' closure). Condition: at most 2 to the power 40 windows. Windows: the gaps of a schedule. Conditions: its numbers may be; at most 400 windows. -/

import Derived.Test.YteefmdelacihfaaDoorActR

import Derived.Lib.SliceRun

import Derived.Laws.CopyOwn

import Derived.Laws.OwnMore

import Derived.OwnWalk

import Derived.Test.YteefmdelacihfaaDoorWinAB

import Derived.Test.YteefmdelacihfaaDoorWinAD

import Derived.Test.YteefmdelacihfaaDoorWinL

import Derived.Test.YteefmdelacihfaaDoorWinX

import Derived.Deep.Onto

namespace Go.Proofs.YteefmdelacihfaaDoor.Win

open Go.RowKit Go.PlainAid Go.Proofs.YteefmdelacihfaaDoor.Oct Go.Proofs.YteefmdelacihfaaDoor.Flt Go.Proofs.YteefmdelacihfaaDoor.Rdr Go.Proofs.YteefmdelacihfaaDoor.Args

set_option linter.unusedVariables false

set_option linter.unusedSimpArgs false

theorem setRow_same (w : World) (g : Nat) (cur : Array Value) (t : TypeId) (hg : w.heap[g]? = some (.cells cur t (0, 0))) : w.setRow g cur = w := by
  have hlt : g < w.heap.size := (Array.getElem?_eq_some_iff.1 hg).1
  have hv : w.heap[g] = .cells cur t (0, 0) := (Array.getElem?_eq_some_iff.1 hg).2
  unfold World.setRow
  cases w with
  | mk heap tape drawn os output =>
    congr 1
    apply Array.ext
    · simp
    · intro k h1 h2
      simp only [Array.getElem_modify]
      split
      · rename_i hk; subst hk; simp at hv; simp [hv]
      · rfl
theorem setCells_row (g : Nat) (t : TypeId) : ∀ (vs : List Value) (o : Nat) (cur : Array Value) (w : World), w.heap[g]? = some (.cells cur t (0, 0)) → o + vs.length ≤ cur.size → w.setCells g o vs = w.setRow g (splice cur.toList o vs).toArray
  | [], o, cur, w, hg, h => by
    have e : (splice cur.toList o []).toArray = cur := by simp [splice]
    rw [e, setRow_same w g cur t hg]; rfl
  | v :: r, o, cur, w, hg, h => by
    have hl : o < cur.size := by simp at h; omega
    have ih := setCells_row g t r (o + 1) (cur.setIfInBounds o v) (w.setRow g (cur.setIfInBounds o v)) (setRow_heap w g cur _ t _ hg) (by simp at h ⊢; omega)
    rw [World.setCells, setCell_eq_setRow w g o cur t (0, 0) v hg, ih, setRow_setRow]
    congr 2
    unfold splice
    apply List.ext_getElem?
    intro k
    simp only [Array.toList_setIfInBounds, List.getElem?_append, List.length_take, List.length_set, Array.length_toList, List.length_cons, List.getElem?_drop, List.getElem?_take, List.getElem?_cons, List.getElem?_set]
    have m1 : min (o + 1) cur.size = o + 1 := by omega
    have m2 : min o cur.size = o := by omega
    rw [m1, m2]
    by_cases h1 : k < o
    · rw [if_pos (by omega), if_pos (by omega), if_neg (by omega), if_pos h1, if_pos h1]
    · by_cases h2 : k = o
      · subst h2
        rw [if_pos (by omega), if_pos (by omega), if_pos rfl, if_pos hl, if_neg h1, if_pos (by omega), if_pos (by omega)]
      · rw [if_neg (by omega), if_neg h1]
        by_cases h3 : k - (o + 1) < r.length
        · rw [if_pos h3, if_pos (by omega), if_neg (by omega)]
          first | rfl | (congr 1; omega) | (congr 1)
        · rw [if_neg h3, if_neg (by omega), if_neg (by omega)]
          first | rfl | (congr 1; omega) | (congr 1)
theorem run_storeVar_at {P : Program} (w : World) (g o : Nat) (t ty : TypeId) (cur cells : Array Value) (hg : w.heap[g]? = some (.cells cur t (0, 0))) (hi : (P.info? ty).map (·.size) = some cells.size)
    (ho : o + cells.size ≤ cur.size) (h1 : cells.all (·.oneCell') = true) :
    (storeVar ty ⟨g, o, none⟩ (.agg cells)).run P w = .ok () (w.setRow g (splice cur.toList o cells.toList).toArray) := by
  have hc : ∀ j, j < cells.toList.length → (w.cell? ⟨g, o + 0 + j, none⟩).isSome = true := fun j hj => by
    rw [cell_of_row _ _ _ _ _ _ hg, Array.getElem?_eq_getElem (by simp at hj; omega)]; rfl
  have hf : ∀ j, j < cells.toList.length → w.frozen? ⟨g, o + 0 + j, none⟩ = false := fun j _ => by simp [World.frozen?, hg]
  have := run_storeCells_cells (P := P) g o cells.toList 0 w hc hf (fun v hv => (Array.all_eq_true_iff_forall_mem.1 h1) v (by simpa using hv))
  rw [Nat.add_zero, setCells_row g t _ o cur w hg (by simpa using ho)] at this
  cases hq : P.info? ty with
  | none => simp [hq] at hi
  | some i =>
    have hs : cells.size = i.size := by simp [hq] at hi; omega
    simp [storeVar, sizeOf, typeInfo, hq, Value.cells, hs, this]
theorem wp_store_at {P : Program} {o : Oper} {a : Act} {w : World} {K : Act → World → Prop} {Q : Exit → Act → World → Prop} (ty : TypeId) (x y : Operand) (ho : o.op = .store ty x y)
    (g f : Nat) (cells : Array Value) (hx : a.eval x = .pointer (some ⟨g, f, none⟩)) (hy : a.eval y = .agg cells)
    (t : TypeId) (cur : Array Value) (hg : w.heap[g]? = some (.cells cur t (0, 0))) (hi : (P.info? ty).map (·.size) = some cells.size)
    (hfit : f + cells.size ≤ cur.size) (h1 : cells.all (·.oneCell') = true)
    (h : K (a.put o.dst undef) (w.setRow g (splice cur.toList f cells.toList).toArray)) : o.wp P a w K Q := by
  unfold Oper.wp execOp
  simp only [ho, hx, hy, Instr.storeAt, Instr.sureAddr, Sem.run_bind, Sem.run_pure, Result.andThen_ok, run_storeVar_at w g f t ty cur cells hg hi hfit h1]
  exact h
theorem wpList_store_at {P : Program} {ops : Array Oper} {rest : List Oper} {o : Oper} {a : Act} {w : World} {Q : Exit → Act → World → Prop} (hgd : o.guard = none) (ty : TypeId) (x y : Operand) (ho : o.op = .store ty x y)
    (g f : Nat) (cells : Array Value) (hx : a.eval x = .pointer (some ⟨g, f, none⟩)) (hy : a.eval y = .agg cells)
    (t : TypeId) (cur : Array Value) (hg : w.heap[g]? = some (.cells cur t (0, 0))) (hi : (P.info? ty).map (·.size) = some cells.size)
    (hfit : f + cells.size ≤ cur.size) (h1 : cells.all (·.oneCell') = true)
    (h : wpList P ops Q rest (a.put o.dst undef) (w.setRow g (splice cur.toList f cells.toList).toArray)) : wpList P ops Q (o :: rest) a w :=
  wpList_plain hgd fun _ hK => wp_store_at ty x y ho g f cells hx hy t cur hg hi hfit h1 (hK _ _ h)
/-- clear(s) of elements of three cells. -/
theorem run_clear3 {P : Program} (w : World) (t e : TypeId) (z : Value) (vs : List Value) (ht : P.underlying t = some (.slice e)) (hv : ∀ w, (zeroValue e).run P w = .ok z w) (hz : z.cells = vs.toArray) (h3 : vs.length = 3) (h1 : ∀ v ∈ vs, v.oneCell' = true) (g o n c : Nat) (hn : 0 < n)
    (cur : Array Value) (T : TypeId) (hg : w.heap[g]? = some (.cells cur T (0, 0))) (hfit : o + n * 3 ≤ cur.size) :
    ∃ zs : List Value, zs.length = n * 3 ∧ ∀ ty, (Builtin.clear_ #[t] ty #[.slice (some ⟨g, o, none⟩) n c]).run P w = .ok (.tuple #[]) (w.setRow g (splice cur.toList o zs).toArray) := by
  have hzl : (Builtin.zeroCells z.cells n).toList.length = n * 3 := by
    rw [hz]; simp [Builtin.zeroCells, h3]
  have hz1 : ∀ v ∈ (Builtin.zeroCells z.cells n).toList, v.oneCell' = true := fun v hv => by
    rw [hz] at hv
    unfold Builtin.zeroCells at hv
    rw [List.size_toArray, h3, Array.toList_map, List.mem_map] at hv
    obtain ⟨k, hk, rfl⟩ := hv
    have hk3 : k % 3 < vs.toArray.size := by rw [List.size_toArray]; omega
    rw [getElem!_pos vs.toArray (k % 3) hk3]
    exact h1 _ (by simp)
  refine ⟨(Builtin.zeroCells z.cells n).toList, hzl, fun ty => ?_⟩
  have hc : ∀ j, j < (Builtin.zeroCells z.cells n).toList.length → (w.cell? ⟨g, o + 0 + j, none⟩).isSome = true := fun j hj => by
    rw [cell_of_row _ _ _ _ _ _ hg, Array.getElem?_eq_getElem (by omega)]; rfl
  have hf : ∀ j, j < (Builtin.zeroCells z.cells n).toList.length → w.frozen? ⟨g, o + 0 + j, none⟩ = false := fun j _ => by simp [World.frozen?, hg]
  have hst := run_storeCells_cells (P := P) g o (Builtin.zeroCells z.cells n).toList 0 w hc hf hz1
  rw [Nat.add_zero, setCells_row g T _ o cur w hg (by omega)] at hst
  obtain ⟨m, rfl⟩ : ∃ m, n = m + 1 := ⟨n - 1, by omega⟩
  simp [Builtin.clear_, run_underlying ht, hv, hst]
end Go.Proofs.YteefmdelacihfaaDoor.Win

namespace Go.Proofs.YteefmdelacihfaaDoor.Win

open Go.RowKit Go.PlainAid Go.Proofs.YteefmdelacihfaaDoor.Oct Go.Proofs.YteefmdelacihfaaDoor.Flt Go.Proofs.YteefmdelacihfaaDoor.Rdr Go.Proofs.YteefmdelacihfaaDoor.Args

open Go.Proofs.YteefmdelacihfaaDoor.Act (A3 actL flatA flatA_snoc flatA_get flatA_len ActsAt I64 Wide row_beside row_base)

set_option linter.unusedVariables false

set_option linter.unusedSimpArgs false

theorem flatA_app (l m : List A3) : flatA (l ++ m) = flatA l ++ flatA m := by simp [flatA]
theorem flatA_take (l : List A3) : ∀ i, (flatA l).take (i * 3) = flatA (l.take i) := by
  intro i
  rcases Nat.lt_or_ge i l.length with h | h
  · have e : flatA l = flatA (l.take i) ++ flatA (l.drop i) := by rw [← flatA_app, List.take_append_drop]
    rw [e, List.take_left' (by rw [flatA_len, List.length_take]; omega)]
  · rw [List.take_of_length_le (by rw [flatA_len]; omega), List.take_of_length_le h]
theorem flatA_drop (l : List A3) : ∀ i, (flatA l).drop (i * 3) = flatA (l.drop i) := by
  intro i
  rcases Nat.lt_or_ge i l.length with h | h
  · have e : flatA l = flatA (l.take i) ++ flatA (l.drop i) := by rw [← flatA_app, List.take_append_drop]
    rw [e, List.drop_left' (by rw [flatA_len, List.length_take]; omega)]
  · rw [List.drop_of_length_le (by rw [flatA_len]; omega), List.drop_of_length_le h]; rfl
/-- A window is stored in a row. -/
theorem splice_flat (l : List A3) (tl : List Value) (i : Nat) (x : A3) (h : i < l.length) : splice (flatA l ++ tl) (i * 3) (actL x) = flatA (l.set i x) ++ tl := by
  unfold splice
  have h3 : (actL x).length = 3 := rfl
  rw [List.take_append_of_le_length (by rw [flatA_len]; omega), flatA_take, List.drop_append_of_le_length (by rw [flatA_len, h3]; omega), h3, show i * 3 + 3 = (i + 1) * 3 by omega, flatA_drop]
  have e : l.set i x = l.take i ++ (x :: l.drop (i + 1)) := by
    rw [List.set_eq_take_append_cons_drop, if_pos h]
  have e2 : flatA (x :: l.drop (i + 1)) = actL x ++ flatA (l.drop (i + 1)) := rfl
  rw [e, flatA_app, e2, List.append_assoc, List.append_assoc]
/-- Of the windows up to a place the first are those that stay; behind the place all are as they were. -/
structure Del (L xs : List A3) (i j : Nat) : Prop where
  len : xs.length = L.length
  pre : xs.take i = (L.take j).filter (fun x => nobody x.s)
  num : i = ((L.take j).filter (fun x => nobody x.s)).length
  post : xs.drop j = L.drop j
  lt : i < j
  le : j ≤ L.length
theorem Del.skip {L xs : List A3} {i j : Nat} {x : A3} (h : Del L xs i j) (hx : L[j]? = some x) (hs : nobody x.s = false) : Del L xs i (j + 1) := by
  have hj : j < L.length := (List.getElem?_eq_some_iff.1 hx).1
  have e : (L.take (j + 1)).filter (fun x => nobody x.s) = (L.take j).filter (fun x => nobody x.s) := by
    rw [List.take_add_one, hx, List.filter_append]; simp [hs]
  refine ⟨h.len, by rw [e]; exact h.pre, by rw [e]; exact h.num, ?_, by have := h.lt; omega, hj⟩
  rw [← List.drop_drop, ← List.drop_drop, h.post]
theorem Del.keep {L xs : List A3} {i j : Nat} {x : A3} (h : Del L xs i j) (hx : L[j]? = some x) (hs : nobody x.s = true) : Del L (xs.set i x) (i + 1) (j + 1) := by
  have hj : j < L.length := (List.getElem?_eq_some_iff.1 hx).1
  have hlt := h.lt
  have hlen := h.len
  have e : (L.take (j + 1)).filter (fun x => nobody x.s) = (L.take j).filter (fun x => nobody x.s) ++ [x] := by
    rw [List.take_add_one, hx, List.filter_append]; simp [hs]
  refine ⟨by simp [hlen], ?_, by rw [e, List.length_append, ← h.num]; rfl, ?_, by omega, hj⟩
  · rw [e, ← h.pre, List.take_add_one, List.getElem?_set_self (by omega), List.take_set_of_le (Nat.le_refl _)]; rfl
  · rw [List.drop_set_of_lt (by omega), ← List.drop_drop, ← List.drop_drop, h.post]
theorem Del.at {L xs : List A3} {i j : Nat} (h : Del L xs i j) : xs[j]? = L[j]? := by
  have := congrArg (fun l => l[0]?) h.post
  simpa using this
theorem Del.start {L : List A3} {k : Nat} {x : A3} (hx : L[k]? = some x) (hs : nobody x.s = false) (hb : ∀ j y, j < k → L[j]? = some y → nobody y.s = true) : Del L L k (k + 1) := by
  have hk : k < L.length := (List.getElem?_eq_some_iff.1 hx).1
  have e0 : (L.take k).filter (fun x => nobody x.s) = L.take k := by
    rw [List.filter_eq_self]
    intro y hy
    obtain ⟨j, hj, rfl⟩ := List.mem_iff_getElem.1 hy
    have hj' : j < k := by simp at hj; omega
    rw [List.getElem_take]
    exact hb j _ hj' (List.getElem?_eq_getElem (by omega))
  have e : (L.take (k + 1)).filter (fun x => nobody x.s) = L.take k := by
    rw [List.take_add_one, hx, List.filter_append, e0]; simp [hs]
  refine ⟨rfl, by rw [e], by rw [e]; simp; omega, rfl, by omega, hk⟩
theorem some_cases (L : List A3) : (someI L = -1 ∧ L.filter (fun x => nobody x.s) = L) ∨ ∃ (k : Nat) (x : A3), someI L = (k : Int) ∧ L[k]? = some x ∧ nobody x.s = false ∧ ∀ j y, j < k → L[j]? = some y → nobody y.s = true := by
  unfold someI
  cases h : L.findIdx? (fun x => !nobody x.s) with
  | none =>
    left
    refine ⟨rfl, ?_⟩
    rw [List.findIdx?_eq_none_iff] at h
    rw [List.filter_eq_self]
    intro y hy
    have := h y hy
    simpa using this
  | some k =>
    right
    rw [List.findIdx?_eq_some_iff_getElem] at h
    obtain ⟨hk, h1, h2⟩ := h
    refine ⟨k, L[k], rfl, List.getElem?_eq_getElem hk, by simpa using h1, fun j y hj hy => ?_⟩
    have := h2 j hj
    obtain ⟨hl, e⟩ := List.getElem?_eq_some_iff.1 hy
    rw [e] at this
    simpa using this
theorem infoWin9 : (Tryd.prog.info? 50).map (·.size) = some 3 := by kernel_rfl
theorem zeroWin9 (w : World) : (zeroValue 50).run Tryd.prog w = .ok (.agg #[.int .i64 0, .int .i64 0, .int .i64 0]) w := by kernel_rfl
theorem row_set (w : World) (g o : Nat) (cur : Array Value) (t : TypeId) (v : Value) (hg : w.heap[g]? = some (.cells cur t (0, 0))) : (w.setCell ⟨g, o, none⟩ v).heap[g]? = some (.cells (cur.setIfInBounds o v) t (0, 0)) := by
  rw [setCell_eq_setRow w g o cur t (0, 0) v hg]; exact setRow_heap _ _ _ _ _ _ hg
theorem row_some (w : World) (g o : Nat) (cur : Array Value) (t : TypeId) (hg : w.heap[g]? = some (.cells cur t (0, 0))) (ho : o < cur.size) : ∃ v, w.cell? ⟨g, o, none⟩ = some v := by
  rw [cell_of_row _ _ _ _ _ _ hg]; exact ⟨_, Array.getElem?_eq_getElem ho⟩
theorem row_free (w : World) (g o : Nat) (cur : Array Value) (t : TypeId) (hg : w.heap[g]? = some (.cells cur t (0, 0))) : w.frozen? ⟨g, o, none⟩ = false := by
  simp [World.frozen?, hg]
def DlRel (L : List A3) (g B : Nat) (tl : List Value) (w : World) (j i : Value) (wr : World) : Prop :=
  ∃ (jn ki : Nat) (xs : List A3), j = .int .i64 (jn : Int) ∧ i = .int .i64 (ki : Int) ∧ Del L xs ki jn ∧ wr.heap[g]? = some (.cells (flatA xs ++ tl).toArray 50 (0, 0)) ∧ Below B w wr
set_option maxRecDepth 8000 in
set_option maxHeartbeats 6400000 in
theorem delete_any (B : Nat) (V : Value) (L : List A3) (w : World) (ho : w.ownsRow B 50 3 V L.length (flatA L)) (hB : B ≤ w.heap.size) (hl : L.length ≤ 1099511627776) :
    Calls Tryd.prog 30 #[V, .func (.func 31) #[] #[]] w fun e w' => ∃ V', e = .returned V' ∧ w'.ownsRow B 50 3 V' (L.filter (fun x => nobody x.s)).length (flatA (L.filter (fun x => nobody x.s))) ∧ Below B w w' := by
  obtain ⟨A, c, rfl, hat⟩ := own_atW ho rfl
  have HIX := Lib.hid (indexf_any A c L w hat hl)
  rcases some_cases L with ⟨hs, hf⟩ | ⟨k, x, hs, hx, hn, hb⟩
  · rw [hf]
    rw [hs] at HIX
    have HO := Lib.hid ho
    have HBS := Lib.hid hB
    obtain ⟨a, ha⟩ : ∃ a, L.length = a := ⟨_, rfl⟩
    rw [ha] at HIX HO
    rw [ha]
    clear ho hB hl hat hs hf ha
    go_enter Tryd.func30, Tryd.ntmps30
    go_wp2_with fail
    refine HIX.out.mono ?_
    rintro e w2 ⟨rfl, hb2⟩
    have HO2 := Lib.hid (owns_kept HO.out hb2)
    have HB2 := Lib.hid (hb2.mono HBS.out)
    clear hb2 HIX HO
    go_wp2
    go_ret
    exact ⟨_, rfl, HO2.out, HB2.out⟩
  · rw [hs] at HIX
    have hk : k < L.length := (List.getElem?_eq_some_iff.1 hx).1
    have hDL := Del.start hx hn hb
    rcases ho.2 with ⟨e, h0⟩ | ⟨g, cap, cur, e, hgB, hg, r1, r2, r3, r4⟩
    · omega
    cases e
    obtain ⟨tl, htl⟩ : ∃ tl, cur.toList = flatA L ++ tl := ⟨cur.toList.drop (L.length * 3), by rw [← r4, List.take_append_drop]⟩
    have hcur : cur = (flatA L ++ tl).toArray := by rw [← htl]
    subst hcur
    have HD0 := Lib.hid hDL
    have HG0 := Lib.hid hg
    have HBS := Lib.hid hB
    have HGB := Lib.hid hgB
    have HC : Hid (L.length ≤ c ∧ c ≤ maxLen ∧ (flatA L ++ tl).length = c * 3) := ⟨r1, r2, by simpa using r3⟩
    have HTL : Hid (L.length * 3 + tl.length = c * 3) := by
      have h := HC.out.2.2
      rw [List.length_append, flatA_len] at h
      exact h
    obtain ⟨m, hm⟩ : ∃ m, L.length = m := ⟨_, rfl⟩
    have HM := Lib.hid hm
    rw [hm] at HIX HC hl HTL
    rw [hm]
    have HL : Hid (m ≤ 1099511627776) := hl
    have hkm : k < m := by omega
    clear ho hB hl hat hs hx hn hb hDL hg hgB r1 r2 r3 r4 htl hm hk
    have hk1 : IntKind.i64.wrap ((k : Int) + 1) = (k : Int) + 1 := IntWalk.i64_in _ (by have := HL.out; omega)
    have hkn : ((k : Int) == -1) = false := by first | (simp; done) | (simp; omega)
    go_enter Tryd.func30, Tryd.ntmps30
    go_wp2_with fail
    refine HIX.out.mono ?_
    rintro e w2 ⟨rfl, hb2⟩
    have HB2 := Lib.hid (hb2.mono HBS.out)
    have HG2 := Lib.hid ((hb2.block _ (lt_of_block HG0.out)).trans HG0.out)
    clear hb2 HIX HG0
    go_wp2_with fail
    go_loopw [6, 5] (fun j i wr => DlRel L g B tl w j i wr) (fun j _ _ => m - (intOf j).toNat)
    case atStart => exact ⟨k + 1, k, L, by simp, rfl, HD0.out, HG2.out, HB2.out⟩
    case round =>
      obtain ⟨j, i, xs, rfl, rfl, hD, hg, hb⟩ := hrel
      have HD := Lib.hid hD
      have HG := Lib.hid hg
      have HB := Lib.hid hb
      have hji : i < j := hD.lt
      have hjm : j ≤ m := by rw [← HM.out]; exact hD.le
      clear hD hg hb hk1 hkn hkm HG2 HB2 HD0
      by_cases hlt : j < m
      · obtain ⟨x, hx⟩ : ∃ x, L[j]? = some x := ⟨_, List.getElem?_eq_getElem (by rw [HM.out]; exact hlt)⟩
        have hxx := HD.out.at.trans hx
        have hcell : ∀ r : Nat, r < 3 → wr.cell? ⟨g, j * 3 + r, none⟩ = (actL x)[r]? := fun r hr => by
          rw [cell_of_row _ _ _ _ _ _ HG.out, List.getElem?_toArray, List.getElem?_append_left (by rw [flatA_len, HD.out.len, HM.out]; omega)]
          exact flatA_get xs j x r hxx hr
        have c1 : wr.cell? ⟨g, j * 3, none⟩ = some (.int .i64 x.s) := hcell 0 (by omega)
        have c2 : wr.cell? ⟨g, j * 3 + 1, none⟩ = some (.int .i64 x.p) := hcell 1 (by omega)
        have c3 : wr.cell? ⟨g, j * 3 + 2, none⟩ = some (.int .i64 x.a) := hcell 2 (by omega)
        have HXK := Lib.hid hx
        have HGC := Lib.hid (fun w => gap1_any x w)
        have hb5 : Below wr.heap.size wr (wr.alloc (.cells (winC x) 50)) := (Below.refl _ _).alloc (Nat.le_refl _) _
        have HB5 := Lib.hid hb5
        have HX5 := Lib.hid (heap_alloc_new wr (.cells (winC x) 50))
        have HXL := Lib.hid (show actL x = (winC x).toList from rfl)
        obtain ⟨s1, p1, a1⟩ := x
        unfold winC at HGC HB5 HX5 HXL
        dsimp only at c1 c2 c3 HGC HB5 HX5 HXL
        have hki : (0 : Int) ≤ j := by omega
        have hkb : (j : Int) < m := by omega
        have hl := HL.out
        have hj1 : IntKind.i64.wrap ((j : Int) + 1) = (j : Int) + 1 := IntWalk.i64_in _ (by omega)
        have hi1 : IntKind.i64.wrap ((i : Int) + 1) = (i : Int) + 1 := IntWalk.i64_in _ (by omega)
        obtain ⟨b, hb⟩ : ∃ b, nobody s1 = b := ⟨_, rfl⟩
        have HNB := Lib.hid hb
        rw [hb] at HGC
        clear hx hb hxx hcell hb5
        go_wp2_with fail
        refine (HGC.out _).mono ?_
        rintro e w6 ⟨rfl, hb6⟩
        have HB6 := Lib.hid (HB.out.trans ((HB5.out.trans (hb6.mono HB5.out.size)).mono (Nat.le_trans HBS.out HB.out.size)))
        have HG6 := Lib.hid (((HB5.out.trans (hb6.mono HB5.out.size)).block _ (lt_of_block HG.out)).trans HG.out)
        have HX6 := Lib.hid ((hb6.block _ (lt_of_block HX5.out)).trans HX5.out)
        clear hb6 c1 c2 c3 HB HG HX5 HB5
        cases b with
        | false =>
          go_wp2
          go_roundw
          case rel => exact ⟨j + 1, i, xs, by first | rfl | go_num, rfl, HD.out.skip HXK.out HNB.out, HG6.out, HB6.out⟩
          case measure => simp [intOf]; omega
        | true =>
          have y0 := cell_of_row _ _ 0 _ _ _ HX6.out
          have y1 := cell_of_row _ _ 1 _ _ _ HX6.out
          have y2 := cell_of_row _ _ 2 _ _ _ HX6.out
          simp only [List.getElem?_toArray, List.getElem?_cons_zero, List.getElem?_cons_succ] at y0 y1 y2
          have hii : (0 : Int) ≤ i := by omega
          have hib : (i : Int) < m := by omega
          have HFIT : Hid (i * 3 + 3 ≤ (flatA xs ++ tl).toArray.size) := by
            show _ ≤ _
            have := HTL.out
            have := HC.out.1
            rw [List.size_toArray, List.length_append, flatA_len, HD.out.len, HM.out]
            omega
          have HNEW : Hid ((splice (flatA xs ++ tl).toArray.toList (i * 3) [.int .i64 s1, .int .i64 p1, .int .i64 a1]) = flatA (xs.set i ⟨s1, p1, a1⟩) ++ tl) := splice_flat xs tl i ⟨s1, p1, a1⟩ (by rw [HD.out.len, HM.out]; omega)
          have hset : ((w6.setCell ⟨g, i * 3, none⟩ (.int .i64 s1)).setCell ⟨g, i * 3 + 1, none⟩ (.int .i64 p1)).setCell ⟨g, i * 3 + 2, none⟩ (.int .i64 a1) = w6.setRow g (flatA (xs.set i ⟨s1, p1, a1⟩) ++ tl).toArray := by
            have h := setCells_row g _ [.int .i64 s1, .int .i64 p1, .int .i64 a1] (i * 3) _ w6 HG6.out HFIT.out
            rw [HNEW.out] at h
            exact h
          have HSET := Lib.hid hset
          have k1 := row_set w6 g (i * 3) _ _ (.int .i64 s1) HG6.out
          have k2 := row_set _ g (i * 3 + 1) _ _ (.int .i64 p1) k1
          have hfit := HFIT.out
          obtain ⟨v0, z0⟩ := row_some w6 g (i * 3) _ _ HG6.out (by omega)
          obtain ⟨v1, z1⟩ := row_some _ g (i * 3 + 1) _ _ k1 (by rw [Array.size_setIfInBounds]; omega)
          obtain ⟨v2, z2⟩ := row_some _ g (i * 3 + 2) _ _ k2 (by rw [Array.size_setIfInBounds, Array.size_setIfInBounds]; omega)
          have f0 := row_free w6 g (i * 3) _ _ HG6.out
          have f1 := row_free _ g (i * 3 + 1) _ _ k1
          have f2 := row_free _ g (i * 3 + 2) _ _ k2
          clear hset k1 k2 hfit HFIT HNEW
          go_wp2
          go_roundw
          case rel =>
            refine ⟨j + 1, i + 1, xs.set i ⟨s1, p1, a1⟩, by first | rfl | go_num, by first | rfl | go_num, HD.out.keep HXK.out HNB.out, ?_, ?_⟩
            · rw [HSET.out]; exact setRow_heap _ _ _ _ _ _ HG6.out
            · rw [HSET.out]; exact below_setRow HB6.out HGB.out _
          case measure => simp [intOf]; omega
      · obtain rfl : j = m := by omega
        have hDi := HD.out.pre
        have hDn := HD.out.num
        have eL : L.take j = L := List.take_of_length_le (by rw [HM.out]; exact Nat.le_refl _)
        rw [eL] at hDi hDn
        clear eL
        obtain ⟨zs, hz, hcl⟩ := run_clear3 (P := Tryd.prog) wr 22 50 (.agg #[.int .i64 0, .int .i64 0, .int .i64 0]) [.int .i64 0, .int .i64 0, .int .i64 0] Tryd.underlying22 zeroWin9 rfl rfl (by intro v hv; simp at hv; rw [hv]; rfl) g (i * 3) (j - i) (c - i) (by omega) _ _ HG.out (by
          have := HTL.out
          have := HC.out.1
          rw [List.size_toArray, List.length_append, flatA_len, HD.out.len, HM.out]
          omega)
        have HIC := HC.out.1
        have hii : (0 : Int) ≤ i := by omega
        have hij : (i : Int) ≤ j := by omega
        have hic : (i : Int) ≤ c := by omega
        have t3 : ¬ c = i := by omega
        have t4 : ¬ c - i = 0 := by omega
        have hG9 := setRow_heap wr g _ (splice (flatA xs ++ tl).toArray.toList (i * 3) zs).toArray 50 (0, 0) HG.out
        have hB9 := below_setRow HB.out HGB.out (splice (flatA xs ++ tl).toArray.toList (i * 3) zs).toArray
        have HFIN : Hid (((splice (flatA xs ++ tl).toArray.toList (i * 3) zs).toArray.toList.take (i * 3)) = flatA (L.filter (fun x => nobody x.s))) := by
          show _ = _
          rw [← hDi]
          unfold splice
          rw [List.take_left' (by
            rw [List.length_take]
            have := HTL.out
            simp only [List.length_append, flatA_len, HD.out.len, HM.out]
            omega)]
          show List.take (i * 3) (flatA xs ++ tl) = _
          rw [List.take_append_of_le_length (by rw [flatA_len, HD.out.len, HM.out]; omega), flatA_take]
        have HSZ : Hid ((splice (flatA xs ++ tl).toArray.toList (i * 3) zs).toArray.size = c * 3) := by
          show _ = _
          rw [List.size_toArray, length_splice _ _ _ (by
            have := HTL.out
            simp only [List.length_append, flatA_len, HD.out.len, HM.out, hz]
            omega)]
          simp only [List.length_append, flatA_len, HD.out.len, HM.out]
          exact HTL.out
        obtain ⟨cu, hcu⟩ : ∃ cu, (splice (flatA xs ++ tl).toArray.toList (i * 3) zs).toArray = cu := ⟨_, rfl⟩
        rw [hcu] at hcl hG9 hB9 HFIN HSZ
        have HG9 := Lib.hid hG9
        have HB9 := Lib.hid hB9
        have HNUM := Lib.hid hDn
        clear hDi hDn hcu hG9 hB9 HG HB
        go_wp2
        go_ret
        refine ⟨_, rfl, ?_, HB9.out⟩
        rw [← HNUM.out]
        exact ⟨by rw [flatA_len, ← HNUM.out], .inr ⟨g, c, cu, rfl, HGB.out, HG9.out, by omega, HC.out.2.1, HSZ.out, HFIN.out⟩⟩
end Go.Proofs.YteefmdelacihfaaDoor.Win

namespace Go.Proofs.YteefmdelacihfaaDoor.Win

open Go.RowKit Go.PlainAid Go.Proofs.YteefmdelacihfaaDoor.Oct Go.Proofs.YteefmdelacihfaaDoor.Flt Go.Proofs.YteefmdelacihfaaDoor.Rdr Go.Proofs.YteefmdelacihfaaDoor.Args

open Go.Proofs.YteefmdelacihfaaDoor.Act (A3 actL flatA ActsAt I64 Wide)

set_option linter.unusedVariables false

set_option linter.unusedSimpArgs false

theorem rowsL_small {cs : List Int} {fr : Int} {l L : List A3} {m : Nat} (h : Cuts cs fr) (hm : cs.length = m + 1) (hL : rowsL fr l cs m = L) : ∀ x ∈ L, x.a ≤ fr := by
  intro x hx
  rw [← hL] at hx
  unfold rowsL at hx
  obtain ⟨q, hq, rfl⟩ := List.mem_map.1 hx
  have hqm : q < m := List.mem_range.1 hq
  have h1 := cut_in h hm (show q ≤ m by omega)
  have h2 := cut_in h hm (show q + 1 ≤ m by omega)
  show cut cs (q + 1) - cut cs q ≤ fr
  omega
theorem word_take_len (L : List A3) (k : Nat) : (wordL (L.take k)).length ≤ (wordL L).length := by
  have e : wordL L = wordL (L.take k) ++ wordL (L.drop k) := by
    unfold wordL
    rw [← List.flatMap_append, List.take_append_drop]
  rw [e, List.length_append]
  omega
set_option maxRecDepth 4000 in
set_option maxHeartbeats 1600000 in
theorem gaps_any (id : Int) (fr : Nat) (P : Option Addr) (pc : Nat) (l : List A3) (C : Option Addr) (nn cc : Nat) (w : World) (h1 : ActsAt w P l) (hnum : ∀ x ∈ l, Num x) (hf : 1 ≤ fr ∧ fr ≤ 1048576) (hl : l.length ≤ 400) (m : Nat) (hm : (cutsOf fr l).length = m + 1) (G : List A3) (hG : (rowsL fr l (cutsOf fr l) m).filter (fun x => nobody x.s) = G) :
    Calls Tryd.prog 16 #[.agg #[.int .i64 id, .int .i64 (fr : Int), .slice P l.length pc, .slice C nn cc]] w fun e w' => ∃ V, e = .returned V ∧ w'.ownsRow w.heap.size 50 3 V G.length (flatA G) ∧ Below w.heap.size w w' := by
  have hb0 : Below w.heap.size w (w.alloc (.cells #[.int .i64 id, .int .i64 (fr : Int), .slice P l.length pc, .slice C nn cc] 25)) := (Below.refl _ _).alloc (Nat.le_refl _) _
  have HR := Lib.hid (rows_any id fr P pc l C nn cc (w.alloc (.cells #[.int .i64 id, .int .i64 (fr : Int), .slice P l.length pc, .slice C nn cc] 25)) (h1.kept hb0) hnum hf hl m hm)
  have HB0 := Lib.hid hb0
  have hmm : m ≤ 1000 := by have := cutsOf_le (fr : Int) l; omega
  have HLEN : Hid ((rowsL (fr : Int) l (cutsOf fr l) m).length = m) := rowsL_len _ _ _ _
  obtain ⟨L, hL⟩ : ∃ L, rowsL (fr : Int) l (cutsOf fr l) m = L := ⟨_, rfl⟩
  rw [hL] at HR HLEN hG
  have HD : Hid (∀ (V : Value) (W : World), W.ownsRow w.heap.size 50 3 V m (flatA L) → w.heap.size ≤ W.heap.size → Calls Tryd.prog 30 #[V, .func (.func 31) #[] #[]] W fun e w' => ∃ V', e = .returned V' ∧ w'.ownsRow w.heap.size 50 3 V' G.length (flatA G) ∧ Below w.heap.size W w') := fun V W ho hb => by
    have h := delete_any w.heap.size V L W (by rw [HLEN.out]; exact ho) hb (by rw [HLEN.out]; omega)
    rw [hG] at h
    exact h
  obtain ⟨a, ha⟩ : ∃ a, l.length = a := ⟨_, rfl⟩
  rw [ha] at HR HB0
  rw [ha]
  clear h1 hnum hf hl hm ha hb0 hL hG hmm HLEN
  go_enter Tryd.func16, Tryd.ntmps16
  go_wp2_with fail
  refine HR.out.mono ?_
  rintro e w2 ⟨V2, rfl, ho2, hb2⟩
  have HB2 := Lib.hid (HB0.out.trans (hb2.mono HB0.out.size))
  have HO2 := Lib.hid (ho2.mono HB0.out.size)
  clear hb2 ho2 HR HB0
  go_wp2_with fail
  refine (HD.out _ _ HO2.out HB2.out.size).mono ?_
  rintro e w3 ⟨V3, rfl, ho3, hb3⟩
  have HO3 := Lib.hid ho3
  have HB3 := Lib.hid (HB2.out.trans hb3)
  clear ho3 hb3 HD HO2 HB2
  go_wp2
  go_ret
  exact ⟨_, rfl, HO3.out, HB3.out⟩
end Go.Proofs.YteefmdelacihfaaDoor.Win
