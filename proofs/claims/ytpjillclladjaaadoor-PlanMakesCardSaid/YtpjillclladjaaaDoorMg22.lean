/- Rows whose elements are blocks of cells, for plans; what is open of needs, as it lies in memory. No condition. -/
import Derived.Test.YtpjillclladjaaaDoorMg20
import Derived.Test.YtpjillclladjaaaDoorMg21
namespace Go.Proofs.YtpjillclladjaaaDoor.Pln

open Go.RowKit Go.PlainAid Go.Proofs.YtpjillclladjaaaDoor.Rdr Go.Proofs.YtpjillclladjaaaDoor.Args

open Go.Proofs.YtpjillclladjaaaDoor.Act (A3 I64)

open Go.Proofs.YtpjillclladjaaaDoor.Srt (run_storeVar_at)

set_option linter.unusedVariables false

set_option linter.unusedSimpArgs false

/-- Block g is a row of blocks of cells. -/
def BR (g : Nat) (T : TypeId) (D : List (List Value)) (W : World) : Prop := W.heap[g]? = some (.cells D.flatten.toArray T (0, 0))
theorem BR.keep {g : Nat} {T : TypeId} {D : List (List Value)} {W W' : World} (h : BR g T D W) (b : Below W.heap.size W W') : BR g T D W' := (b.block _ (lt_of_block h)).trans h
theorem BR.lt {g : Nat} {T : TypeId} {D : List (List Value)} {W : World} (h : BR g T D W) : g < W.heap.size := lt_of_block h
theorem flat_get (c : Nat) : ∀ (D : List (List Value)) (i : Nat) (b : List Value), (∀ x ∈ D, x.length = c) → D[i]? = some b → ∀ j, j < c → D.flatten[i * c + j]? = b[j]?
  | [], i, b, _, h, _, _ => by simp at h
  | x :: D, 0, b, hc, h, j, hj => by
    obtain rfl : x = b := by simpa using h
    have := hc x (by simp)
    rw [List.flatten_cons, Nat.zero_mul, Nat.zero_add, List.getElem?_append_left (by omega)]
  | x :: D, i + 1, b, hc, h, j, hj => by
    have hx := hc x (by simp)
    have e : (i + 1) * c + j = x.length + (i * c + j) := by rw [hx, Nat.succ_mul]; omega
    rw [List.flatten_cons, e, List.getElem?_append_right (by omega), Nat.add_sub_cancel_left]
    exact flat_get c D i b (fun y hy => hc y (by simp [hy])) (by simpa using h) j hj
theorem splice_blk (c : Nat) : ∀ (D : List (List Value)) (i : Nat) (b : List Value), (∀ x ∈ D, x.length = c) → b.length = c → i < D.length → splice D.flatten (i * c) b = (D.set i b).flatten
  | [], i, b, _, _, h => by simp at h
  | x :: D, 0, b, hc, hb, h => by
    have hx := hc x (by simp)
    unfold splice
    rw [List.flatten_cons, Nat.zero_mul, List.take_zero, List.nil_append, Nat.zero_add, hb, ← hx, List.drop_left]
    simp
  | x :: D, i + 1, b, hc, hb, h => by
    have hx := hc x (by simp)
    have ih := splice_blk c D i b (fun y hy => hc y (by simp [hy])) hb (by simpa using h)
    unfold splice at ih ⊢
    have e : (i + 1) * c = x.length + i * c := by rw [hx, Nat.succ_mul]; omega
    have e2 : (i + 1) * c + b.length = x.length + (i * c + b.length) := by omega
    rw [List.flatten_cons, e2, e, List.take_length_add_append, List.drop_length_add_append, List.append_assoc, ih]
    simp
theorem flat_set (c : Nat) (v : Value) (j : Nat) (hj : j < c) : ∀ (D : List (List Value)) (i : Nat) (b : List Value), (∀ x ∈ D, x.length = c) → D[i]? = some b → D.flatten.set (i * c + j) v = (D.set i (b.set j v)).flatten
  | [], i, b, _, h => by simp at h
  | x :: D, 0, b, hc, h => by
    obtain rfl : x = b := by simpa using h
    have hx := hc x (by simp)
    rw [List.flatten_cons, Nat.zero_mul, Nat.zero_add, List.set_append_left _ _ (by omega)]
    simp
  | x :: D, i + 1, b, hc, h => by
    have hx := hc x (by simp)
    have e : (i + 1) * c + j = x.length + (i * c + j) := by rw [hx, Nat.succ_mul]; omega
    rw [List.flatten_cons, e, List.set_append_right _ _ (by omega), Nat.add_sub_cancel_left, flat_set c v j hj D i b (fun y hy => hc y (by simp [hy])) (by simpa using h)]
    simp
theorem flat_len (c : Nat) : ∀ (D : List (List Value)), (∀ x ∈ D, x.length = c) → D.flatten.length = D.length * c
  | [], _ => by simp
  | x :: D, h => by rw [List.flatten_cons, List.length_append, h x (by simp), flat_len c D (fun y hy => h y (by simp [hy])), List.length_cons, Nat.succ_mul]; omega
theorem BR.cell {g : Nat} {T : TypeId} {D : List (List Value)} {W : World} (c : Nat) (h : BR g T D W) (hc : ∀ x ∈ D, x.length = c) {i : Nat} {b : List Value} (hi : D[i]? = some b) {j : Nat} {v : Value} (hj : b[j]? = some v) : W.cell? ⟨g, i * c + j, none⟩ = some v := by
  have hb : b.length = c := hc b (List.mem_of_getElem? hi)
  have hl := (List.getElem?_eq_some_iff.1 hj).1
  rw [cell_of_row _ _ _ _ _ _ h, List.getElem?_toArray, flat_get c D i b hc hi j (by omega)]
  exact hj
/-- A block is stored. -/
theorem BR.store {g : Nat} {T ty : TypeId} {D : List (List Value)} {W : World} (c : Nat) (h : BR g T D W) (hc : ∀ x ∈ D, x.length = c) (b : Array Value) (hb : b.size = c) (hs : (Tryd.prog.info? ty).map (·.size) = some c) (h1 : b.all (·.oneCell') = true) {i : Nat} (hi : i < D.length) :
    Sem.run Tryd.prog (storeVar ty ⟨g, i * c, none⟩ (.agg b)) W = .ok () (W.setRow g (D.set i b.toList).flatten.toArray) := by
  have hle : i * c + c ≤ D.length * c := by
    have : (i + 1) * c ≤ D.length * c := Nat.mul_le_mul_right c hi
    rw [Nat.succ_mul] at this; exact this
  have hr := run_storeVar_at (P := Tryd.prog) W g (i * c) _ ty _ b h (by rw [hb]; exact hs) (by rw [hb]; simp only [List.size_toArray]; rw [flat_len c D hc]; exact hle) h1
  simp only [List.toList_toArray] at hr
  rw [splice_blk c D i b.toList hc (by simpa using hb) hi] at hr
  exact hr
theorem BR.set {g : Nat} {T : TypeId} {D : List (List Value)} {W : World} (h : BR g T D W) (E : List (List Value)) : BR g T E (W.setRow g E.flatten.toArray) := setRow_heap _ _ _ _ _ _ h
/-- A cell of a block is stored. -/
theorem BR.poke {g : Nat} {T : TypeId} {D : List (List Value)} {W : World} (c : Nat) (h : BR g T D W) (hc : ∀ x ∈ D, x.length = c) {i : Nat} {b : List Value} (hi : D[i]? = some b) (j : Nat) (hj : j < c) (v : Value) :
    BR g T (D.set i (b.set j v)) (W.setCell ⟨g, i * c + j, none⟩ v) ∧ Just g W (W.setCell ⟨g, i * c + j, none⟩ v) := by
  refine ⟨?_, (Just.refl g W).setCell _ v⟩
  unfold BR
  rw [heap_setCell_same W _ _ _ _ _ h]
  have e2 : D.flatten.toArray.setIfInBounds (i * c + j) v = (D.set i (b.set j v)).flatten.toArray := by
    apply Array.toList_inj.1
    rw [Array.toList_setIfInBounds, List.toList_toArray, List.toList_toArray, flat_set c v j hj D i b hc hi]
  rw [← e2]
theorem BR.thaw {g : Nat} {T : TypeId} {D : List (List Value)} {W : World} (h : BR g T D W) (o : Nat) : W.frozen? ⟨g, o, none⟩ = false := by
  have h1 : W.heap[g]? = some (.cells D.flatten.toArray T (0, 0)) := h
  simp [World.frozen?, h1]
theorem just_setRow (w : World) (g : Nat) (cs : Array Value) : Just g w (w.setRow g cs) := ⟨rfl, rfl, rfl, by simp [World.setRow], fun k _ h1 => setRow_other _ _ _ _ h1⟩
theorem made_blk (z : Array Value) (c n : Nat) (hz : z.size = c) (hc : 0 < c) : (madeCells z (n * c)).toList = (List.replicate n z.toList).flatten := by
  apply List.ext_getElem?
  intro k
  have hlen : (madeCells z (n * c)).toList.length = n * c := by rw [Array.length_toList, size_madeCells]
  have hall : ∀ x ∈ List.replicate n z.toList, x.length = c := fun x hx => by rw [(List.mem_replicate.1 hx).2, Array.length_toList, hz]
  by_cases hk : k < n * c
  · have hd : k / c < n := (Nat.div_lt_iff_lt_mul hc).2 hk
    have hm : k % c < c := Nat.mod_lt _ hc
    have e : k = k / c * c + k % c := by have := Nat.div_add_mod k c; rw [Nat.mul_comm] at this; omega
    have h1 := flat_get c (List.replicate n z.toList) (k / c) z.toList hall (by rw [List.getElem?_replicate, if_pos hd]) (k % c) hm
    rw [← e] at h1
    rw [h1]
    simp only [madeCells, Array.toList_map, Array.toList_range, List.getElem?_map, List.getElem?_range hk, Option.map_some]
    rw [hz, Array.getElem?_toList, Array.getElem!_eq_getD, Array.getD_eq_getD_getElem?, Array.getElem?_eq_getElem (by omega)]
    rfl
  · rw [List.getElem?_eq_none (by omega), List.getElem?_eq_none (by rw [flat_len c _ hall, List.length_replicate]; omega)]
/-- 'make([]T, n)': n blocks of c cells. -/
theorem wpList_make_blk {P : Program} (w : World) {ops : Array Oper} {rest : List Oper} {o : Oper} {a : Act} {Q : Exit → Act → World → Prop}
    (hg : o.guard = none) (l c : Operand) (t : TypeId) (hop : o.op = Op.makeSlice t l c)
    (e : TypeId) (i : TypeInfo) (z : Value) (s : Nat) (h1 : P.underlying t = some (.slice e)) (h2 : P.info? e = some i) (h3 : i.zero = some z) (h4 : i.size = s) (hs : 0 < s) (hz : z.cells.size = s)
    (kl kc : IntKind) (L C : Int) (n : Nat) (hl : a.eval l = .int kl L) (hc : a.eval c = .int kc C) (hL : L = (n : Int)) (hC : C = (n : Int)) (b2 : i.bytes * n ≤ 281474976710656) (b3 : n ≤ 9223372036854775807)
    (hK : ∀ w', Hid (BR w.heap.size e (List.replicate n z.cells.toList) w') → Below w.heap.size w w' → wpList P ops Q rest (a.put o.dst (.slice (some ⟨w.heap.size, 0, none⟩) n n)) w') :
    wpList P ops Q (o :: rest) a w := by
  refine wpList_plain hg fun K hK' => ?_
  have hb' : (i.bytes : Int) * (n : Int) ≤ 281474976710656 := by
    have h : ((i.bytes * n : Nat) : Int) ≤ 281474976710656 := by omega
    rwa [Int.natCast_mul] at h
  have hrun := run_make (P := P) w t e i z h1 h2 h3 kl kc n n (by omega) (by omega) hb' (by omega)
  simp only [Int.toNat_natCast, h4] at hrun
  subst hL
  subst hC
  unfold Oper.wp
  simp [execOp, hop, hl, hc, hrun, Result.andThen]
  refine hK' _ _ (hK _ ?_ ((Below.refl _ _).alloc (Nat.le_refl _) _))
  show BR _ _ _ _
  unfold BR
  have e1 : madeCells z.cells (n * s) = (List.replicate n z.cells.toList).flatten.toArray := by
    apply Array.toList_inj.1; rw [made_blk z.cells s n hz hs]
  rw [e1]
  exact heap_alloc_new _ _
/-- Needs, each with what is open of it. -/
def jD (l : List A3) (r : Nat → Int) (n : Nat) : List (List Value) := (List.range n).map fun k => [.int .i64 (nd l k).s, .int .i64 (nd l k).p, .int .i64 (nd l k).a, .int .i64 (r k)]
theorem jD_all (l : List A3) (r : Nat → Int) (n : Nat) : ∀ x ∈ jD l r n, x.length = 4 := fun x hx => by
  unfold jD at hx
  obtain ⟨k, _, rfl⟩ := List.mem_map.1 hx
  rfl
theorem jD_len (l : List A3) (r : Nat → Int) (n : Nat) : (jD l r n).length = n := by simp [jD]
theorem jD_get (l : List A3) (r : Nat → Int) {n k : Nat} (h : k < n) : (jD l r n)[k]? = some [.int .i64 (nd l k).s, .int .i64 (nd l k).p, .int .i64 (nd l k).a, .int .i64 (r k)] := by
  unfold jD
  rw [List.getElem?_map, List.getElem?_range h]; rfl
theorem jD_congr (l : List A3) {r r' : Nat → Int} (n : Nat) (h : ∀ k, k < n → r k = r' k) : jD l r n = jD l r' n := by
  unfold jD
  refine List.map_congr_left fun k hk => ?_
  rw [h k (List.mem_range.1 hk)]
theorem jD_set (l : List A3) (r : Nat → Int) {n k : Nat} (v : Int) : (jD l r n).set k [.int .i64 (nd l k).s, .int .i64 (nd l k).p, .int .i64 (nd l k).a, .int .i64 v] = jD l (fun i => if i = k then v else r i) n := by
  apply List.ext_getElem?
  intro i
  by_cases hi : i < n
  · rw [jD_get l _ hi, List.getElem?_set]
    by_cases hk : k = i
    · subst hk
      rw [if_pos rfl, if_pos (by rw [jD_len]; exact hi), if_pos rfl]
    · rw [if_neg hk, jD_get l r hi, if_neg (fun e => hk e.symm)]
  · rw [List.getElem?_eq_none (by rw [List.length_set, jD_len]; omega), List.getElem?_eq_none (by rw [jD_len]; omega)]
/-- The cells of one of them. -/
theorem jcells {g : Nat} {T : TypeId} {l : List A3} {r : Nat → Int} {n k : Nat} {W : World} (h : BR g T (jD l r n) W) (hk : k < n) :
    W.cell? ⟨g, k * 4, none⟩ = some (.int .i64 (nd l k).s) ∧ W.cell? ⟨g, k * 4 + 1, none⟩ = some (.int .i64 (nd l k).p) ∧ W.cell? ⟨g, k * 4 + 2, none⟩ = some (.int .i64 (nd l k).a) ∧ W.cell? ⟨g, k * 4 + 3, none⟩ = some (.int .i64 (r k)) :=
  ⟨h.cell 4 (jD_all l r n) (jD_get l r hk) (j := 0) rfl, h.cell 4 (jD_all l r n) (jD_get l r hk) (j := 1) rfl, h.cell 4 (jD_all l r n) (jD_get l r hk) (j := 2) rfl, h.cell 4 (jD_all l r n) (jD_get l r hk) (j := 3) rfl⟩
theorem jpoke {g : Nat} {T : TypeId} {l : List A3} {r : Nat → Int} {n k : Nat} {W : World} (h : BR g T (jD l r n) W) (hk : k < n) (v : Int) :
    BR g T (jD l (fun i => if i = k then v else r i) n) (W.setCell ⟨g, k * 4 + 3, none⟩ (.int .i64 v)) ∧ Just g W (W.setCell ⟨g, k * 4 + 3, none⟩ (.int .i64 v)) := by
  have := h.poke 4 (jD_all l r n) (jD_get l r hk) 3 (by omega) (.int .i64 v)
  rw [← jD_set l r v]
  exact this
end Go.Proofs.YtpjillclladjaaaDoor.Pln
