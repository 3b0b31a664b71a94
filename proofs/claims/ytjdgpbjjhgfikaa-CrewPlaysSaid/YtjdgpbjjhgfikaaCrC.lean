
/- Rows whose elements are blocks of cells; a crew's look-ups. Condition: at most a thousand partitions. -/

import Derived.Test.YtjdgpbjjhgfikaaCrB

import Derived.Test.YtjdgpbjjhgfikaaSrtO

namespace Go.Proofs.Ytjdgpbjjhgfikaa.Crw

open Go.RowKit Go.PlainAid Go.Proofs.Ytjdgpbjjhgfikaa.Args Go.Proofs.Ytjdgpbjjhgfikaa.Cel Go.Proofs.Ytjdgpbjjhgfikaa.Pt Go.Proofs.Ytjdgpbjjhgfikaa.Mpv

open Go.Proofs.Ytjdgpbjjhgfikaa.Srt (IA IA.kept run_storeVar_at)

set_option linter.unusedVariables false

set_option linter.unusedSimpArgs false

/-- Block g is a row of blocks of cells. -/
def BR (g : Nat) (T : TypeId) (D : List (List Value)) (W : World) : Prop := W.heap[g]? = some (.cells D.flatten.toArray T (0, 0))
theorem BR.keep {g : Nat} {T : TypeId} {D : List (List Value)} {W W' : World} (h : BR g T D W) (b : Below W.heap.size W W') : BR g T D W' := (b.block _ (lt_of_block h)).trans h
theorem BR.apart {g : Nat} {T : TypeId} {D : List (List Value)} {W W' : World} {lo hi : Nat} (h : BR g T D W) (r : Rng lo hi W W') (o : g < lo ∨ hi ≤ g) : BR g T D W' := (r.block g (lt_of_block h) o).trans h
theorem flat_get (c : Nat) : ∀ (D : List (List Value)) (i : Nat) (b : List Value), (∀ x ∈ D, x.length = c) → D[i]? = some b → ∀ j, j < c → D.flatten[i * c + j]? = b[j]?
  | [], i, b, _, h, _, _ => by simp at h
  | x :: D, 0, b, hc, h, j, hj => by
    obtain rfl : x = b := by simpa using h
    have := hc x (by simp)
    rw [List.flatten_cons, Nat.zero_mul, Nat.zero_add, List.getElem?_append_left (by omega)]
  | x :: D, i + 1, b, hc, h, j, hj => by
    have hx := hc x (by simp)
    have e : (i + 1) * c + j = x.length + (i * c + j) := by rw [hx, Nat.succ_mul]; omega
    rw [List.flatten_cons, e, List.getElem?_append_right (by omega), Nat.add_sub_cancel_left]
    exact flat_get c D i b (fun y hy => hc y (by simp [hy])) (by simpa using h) j hj
theorem splice_blk (c : Nat) : ∀ (D : List (List Value)) (i : Nat) (b : List Value), (∀ x ∈ D, x.length = c) → b.length = c → i < D.length → splice D.flatten (i * c) b = (D.set i b).flatten
  | [], i, b, _, _, h => by simp at h
  | x :: D, 0, b, hc, hb, h => by
    have hx := hc x (by simp)
    unfold splice
    rw [List.flatten_cons, Nat.zero_mul, List.take_zero, List.nil_append, Nat.zero_add, hb, ← hx, List.drop_left]
    simp
  | x :: D, i + 1, b, hc, hb, h => by
    have hx := hc x (by simp)
    have ih := splice_blk c D i b (fun y hy => hc y (by simp [hy])) hb (by simpa using h)
    unfold splice at ih ⊢
    have e : (i + 1) * c = x.length + i * c := by rw [hx, Nat.succ_mul]; omega
    have e2 : (i + 1) * c + b.length = x.length + (i * c + b.length) := by omega
    rw [List.flatten_cons, e2, e, List.take_length_add_append, List.drop_length_add_append, List.append_assoc, ih]
    simp
theorem BR.cell {g : Nat} {T : TypeId} {D : List (List Value)} {W : World} (c : Nat) (h : BR g T D W) (hc : ∀ x ∈ D, x.length = c) {i : Nat} {b : List Value} (hi : D[i]? = some b) {j : Nat} {v : Value} (hj : b[j]? = some v) : W.cell? ⟨g, i * c + j, none⟩ = some v := by
  have hb : b.length = c := hc b (List.mem_of_getElem? hi)
  have hl := (List.getElem?_eq_some_iff.1 hj).1
  rw [cell_of_row _ _ _ _ _ _ h, List.getElem?_toArray, flat_get c D i b hc hi j (by omega)]
  exact hj
theorem flat_len (c : Nat) : ∀ (D : List (List Value)), (∀ x ∈ D, x.length = c) → D.flatten.length = D.length * c
  | [], _ => by simp
  | x :: D, h => by rw [List.flatten_cons, List.length_append, h x (by simp), flat_len c D (fun y hy => h y (by simp [hy])), List.length_cons, Nat.succ_mul]; omega
/-- A block is stored. -/
theorem BR.store {g : Nat} {T ty : TypeId} {D : List (List Value)} {W : World} (c : Nat) (h : BR g T D W) (hc : ∀ x ∈ D, x.length = c) (b : Array Value) (hb : b.size = c) (hs : (Try.prog.info? ty).map (·.size) = some c) (h1 : b.all (·.oneCell') = true) {i : Nat} (hi : i < D.length) :
    Sem.run Try.prog (storeVar ty ⟨g, i * c, none⟩ (.agg b)) W = .ok () (W.setRow g (D.set i b.toList).flatten.toArray) := by
  have hle : i * c + c ≤ D.length * c := by
    have : (i + 1) * c ≤ D.length * c := Nat.mul_le_mul_right c hi
    rw [Nat.succ_mul] at this; exact this
  have hr := run_storeVar_at (P := Try.prog) W g (i * c) _ ty _ b h (by rw [hb]; exact hs) (by rw [hb]; simp only [List.size_toArray]; rw [flat_len c D hc]; exact hle) h1
  simp only [List.toList_toArray] at hr
  rw [splice_blk c D i b.toList hc (by simpa using hb) hi] at hr
  exact hr
theorem BR.set {g : Nat} {T : TypeId} {D : List (List Value)} {W : World} (h : BR g T D W) (E : List (List Value)) : BR g T E (W.setRow g E.flatten.toArray) := setRow_heap _ _ _ _ _ _ h
theorem rng_setRow (w : World) (g : Nat) (cs : Array Value) : Rng g (g + 1) w (w.setRow g cs) := ⟨rfl, rfl, rfl, by simp [World.setRow], fun k _ h1 => setRow_other _ _ _ _ (by omega)⟩
theorem made_blk (z : Array Value) (c n : Nat) (hz : z.size = c) (hc : 0 < c) : (madeCells z (n * c)).toList = (List.replicate n z.toList).flatten := by
  apply List.ext_getElem?
  intro k
  have hlen : (madeCells z (n * c)).toList.length = n * c := by rw [Array.length_toList, size_madeCells]
  have hall : ∀ x ∈ List.replicate n z.toList, x.length = c := fun x hx => by rw [(List.mem_replicate.1 hx).2, Array.length_toList, hz]
  by_cases hk : k < n * c
  · have hd : k / c < n := (Nat.div_lt_iff_lt_mul hc).2 hk
    have hm : k % c < c := Nat.mod_lt _ hc
    have e : k = k / c * c + k % c := by have := Nat.div_add_mod k c; rw [Nat.mul_comm] at this; omega
    have h1 := flat_get c (List.replicate n z.toList) (k / c) z.toList hall (by rw [List.getElem?_replicate, if_pos hd]) (k % c) hm
    rw [← e] at h1
    rw [h1]
    simp only [madeCells, Array.toList_map, Array.toList_range, List.getElem?_map, List.getElem?_range hk, Option.map_some]
    rw [hz, Array.getElem?_toList, Array.getElem!_eq_getD, Array.getD_eq_getD_getElem?, Array.getElem?_eq_getElem (by omega)]
    rfl
  · rw [List.getElem?_eq_none (by omega), List.getElem?_eq_none (by rw [flat_len c _ hall, List.length_replicate]; omega)]
/-- 'make([]T, n)': n blocks of c cells. -/
theorem wpList_make_blk {P : Program} (w : World) {ops : Array Oper} {rest : List Oper} {o : Oper} {a : Act} {Q : Exit → Act → World → Prop}
    (hg : o.guard = none) (l c : Operand) (t : TypeId) (hop : o.op = Op.makeSlice t l c)
    (e : TypeId) (i : TypeInfo) (z : Value) (s : Nat) (h1 : P.underlying t = some (.slice e)) (h2 : P.info? e = some i) (h3 : i.zero = some z) (h4 : i.size = s) (hs : 0 < s) (hz : z.cells.size = s)
    (kl kc : IntKind) (L C : Int) (n : Nat) (hl : a.eval l = .int kl L) (hc : a.eval c = .int kc C) (hL : L = (n : Int)) (hC : C = (n : Int)) (b2 : i.bytes * n ≤ 281474976710656) (b3 : n ≤ 9223372036854775807)
    (hK : ∀ w', Hid (BR w.heap.size e (List.replicate n z.cells.toList) w') → Below w.heap.size w w' → wpList P ops Q rest (a.put o.dst (.slice (some ⟨w.heap.size, 0, none⟩) n n)) w') :
    wpList P ops Q (o :: rest) a w := by
  refine wpList_plain hg fun K hK' => ?_
  have hb' : (i.bytes : Int) * (n : Int) ≤ 281474976710656 := by
    have h : ((i.bytes * n : Nat) : Int) ≤ 281474976710656 := by omega
    rwa [Int.natCast_mul] at h
  have hrun := run_make (P := P) w t e i z h1 h2 h3 kl kc n n (by omega) (by omega) hb' (by omega)
  simp only [Int.toNat_natCast, h4] at hrun
  subst hL
  subst hC
  unfold Oper.wp
  simp [execOp, hop, hl, hc, hrun, Result.andThen]
  refine hK' _ _ (hK _ ?_ ((Below.refl _ _).alloc (Nat.le_refl _) _))
  show BR _ _ _ _
  unfold BR
  have e1 : madeCells z.cells (n * s) = (List.replicate n z.cells.toList).flatten.toArray := by
    apply Array.toList_inj.1; rw [made_blk z.cells s n hz hs]
  rw [e1]
  exact heap_alloc_new _ _
/-- The k first elements are set, the others are as they were made. -/
def fillB (D : List (List Value)) (n : Nat) (z : List Value) : List (List Value) := D ++ List.replicate (n - D.length) z
theorem fill_set (D : List (List Value)) (n : Nat) (z b : List Value) (h : D.length < n) : (fillB D n z).set D.length b = fillB (D ++ [b]) n z := by
  unfold fillB
  have e : n - D.length = (n - (D.length + 1)) + 1 := by omega
  rw [List.length_append, List.length_singleton, e, List.replicate_succ, List.set_append_right _ _ (Nat.le_refl _), Nat.sub_self]
  simp
theorem fill_all {D : List (List Value)} {n c : Nat} {z : List Value} (h : ∀ x ∈ D, x.length = c) (hz : z.length = c) : ∀ x ∈ fillB D n z, x.length = c := by
  intro x hx
  rcases List.mem_append.1 hx with hx | hx
  · exact h x hx
  · rw [(List.mem_replicate.1 hx).2]; exact hz
theorem fill_len (D : List (List Value)) (n : Nat) (z : List Value) (h : D.length ≤ n) : (fillB D n z).length = n := by unfold fillB; rw [List.length_append, List.length_replicate]; omega
/-! ### What calls on a crew's partitions leave as it was -/

/-- All but the partitions' own is as it was. -/
structure PR (L : List CP) (w w' : World) : Prop where
  os : w'.os = w.os
  tape : w'.tape = w.tape
  output : w'.output = w.output
  size : w.heap.size ≤ w'.heap.size
  block : ∀ k, k < w.heap.size → (∀ p ∈ L, p.off k) → w'.heap[k]? = w.heap[k]?
theorem PR.refl (L : List CP) (w : World) : PR L w w := ⟨rfl, rfl, rfl, Nat.le_refl _, fun _ _ _ => rfl⟩
theorem PR.trans {L : List CP} {a b c : World} (h : PR L a b) (k : PR L b c) : PR L a c :=
  ⟨k.os.trans h.os, k.tape.trans h.tape, k.output.trans h.output, Nat.le_trans h.size k.size, fun i hi h1 => (k.block i (Nat.lt_of_lt_of_le hi h.size) h1).trans (h.block i hi h1)⟩
theorem PR.of_below {L : List CP} {w w' : World} (b : Below w.heap.size w w') : PR L w w' := ⟨b.os, b.tape, b.output, b.size, fun k hk _ => b.block k hk⟩
theorem PR.of_rng {L : List CP} {w w' : World} {p : CP} (hp : p ∈ L) (r : Rng p.lo p.hi w w') : PR L w w' := ⟨r.os, r.tape, r.output, r.size, fun k hk h => r.block k hk (h p hp)⟩
theorem PR.of_new {L : List CP} {w0 w w' : World} {lo hi : Nat} (h : PR L w0 w) (r : Rng lo hi w w') (hl : w0.heap.size ≤ lo) : PR L w0 w' :=
  ⟨r.os.trans h.os, r.tape.trans h.tape, r.output.trans h.output, Nat.le_trans h.size r.size, fun k hk h1 => (r.block k (Nat.lt_of_lt_of_le hk h.size) (.inl (by omega))).trans (h.block k hk h1)⟩
theorem PR.below {L : List CP} {B : Nat} {w0 w w' : World} (h : Below B w0 w) (k : PR L w w') (hB : B ≤ w.heap.size) (hL : ∀ p ∈ L, B ≤ p.lo) : Below B w0 w' :=
  ⟨k.os.trans h.os, k.tape.trans h.tape, k.output.trans h.output, Nat.le_trans h.size k.size, fun i hi => (k.block i (by omega) (fun p hp => .inl (by have := hL p hp; omega))).trans (h.block i hi)⟩
theorem PR.same {L M : List CP} {w w' : World} (h : PR L w w') (e : M.map (fun p => (p.lo, p.hi)) = L.map fun p => (p.lo, p.hi)) : PR M w w' := by
  refine ⟨h.os, h.tape, h.output, h.size, fun k hk h1 => h.block k hk fun p hp => ?_⟩
  have : (p.lo, p.hi) ∈ M.map fun p => (p.lo, p.hi) := by rw [e]; exact List.mem_map.2 ⟨p, hp, rfl⟩
  obtain ⟨q, hq, hqe⟩ := List.mem_map.1 this
  have h2 := h1 q hq
  unfold CP.off at h2 ⊢
  injection hqe with e1 e2
  rw [← e1, ← e2]
  exact h2
theorem cell_same {w w' : World} {a : Addr} (h : w'.heap[a.block]? = w.heap[a.block]?) : w'.cell? a = w.cell? a := by
  unfold World.cell?
  rw [h]
theorem PR.cell {L : List CP} {w w' : World} (h : PR L w w') {a : Addr} {v : Value} (hc : w.cell? a = some v) (ho : ∀ p ∈ L, p.off a.block) : w'.cell? a = some v := by
  rw [cell_same (h.block a.block (Go.block_lt_of_cell hc) ho)]; exact hc
theorem acs_pr {L : List CP} {w w' : World} {A : Option Addr} {l : List Srt.A3} (h : Srt.AcS w A l) (r : PR L w w') (ho : ∀ a, A = some a → ∀ p ∈ L, p.off a.block) : Srt.AcS w' A l := by
  intro i x hx
  obtain ⟨y, e, h1, h2, h3⟩ := h i x hx
  have hb : (y.add (i * 3)).block = y.block := by cases i * 3 <;> simp [Addr.add]
  refine ⟨y, e, r.cell h1 ?_, r.cell h2 ?_, r.cell h3 ?_⟩
  all_goals (intro p hp; (try simp only []); rw [hb]; exact ho y e p hp)
/-! ### A crew's own -/

theorem own_ids {w : World} {B n c : Nat} {A : Option Addr} {l : List Int} (h : w.ownsRow B 3 1 (.slice A n c) n (l.map (Value.int .i64))) : IA w A l := by
  intro i x hx
  rcases h.2 with ⟨e, h0⟩ | ⟨g, cap, cur, e, _⟩
  · have := h.1
    have := (List.getElem?_eq_some_iff.1 hx).1
    simp at *; omega
  · injection e with e1
    subst e1
    exact ⟨_, rfl, h.cells rfl i _ (by rw [List.getElem?_map, hx]; rfl)⟩
theorem zero_ptr (w : World) : (zeroValue 43).run Try.prog w = .ok (.pointer none) w := by go_simp
theorem fnd_at {L : List CP} (hu : L.Pairwise fun p q => p.s.id < q.s.id) {k : Nat} {p : CP} (hp : L[k]? = some p) : fndP L p.s.id = some p := by
  induction L generalizing k with
  | nil => simp at hp
  | cons q L ih =>
    unfold fndP
    rw [List.find?_cons]
    rw [List.pairwise_cons] at hu
    cases k with
    | zero =>
      obtain rfl : q = p := by simpa using hp
      simp
    | succ k =>
      have hp' : L[k]? = some p := by simpa using hp
      have := hu.1 p (List.mem_of_getElem? hp')
      have hne : (q.s.id == p.s.id) = false := by simp; omega
      rw [hne]
      exact ih hu.2 hp'
section

variable {w w' : World} {B g mb : Nat} {V : Value} {L : List CP} {p : CP}

theorem IsW.look (h : IsW w B g mb V L) {k : Nat} (hp : L[k]? = some p) : (Instr.lookup 86 (.map (some mb)) (.int .i64 p.s.id) false).run Try.prog w = .ok (.pointer (some ⟨p.d.g, 0, none⟩)) w := by
  have hi := (h.pt p (List.mem_of_getElem? hp)).2.2.2.2.2.1
  have := h.mp.look Try.underlying86 (zero_ptr w) p.s.id hi
  rw [fnd_at h.up hp] at this
  exact this
theorem IsW.ids (h : IsW w B g mb V L) : ∃ A c, V = .slice A L.length c ∧ IA w A (L.map fun p => p.s.id) := by
  obtain ⟨A, c, hv⟩ := own_slice h.row
  have hr := h.row
  rw [hv] at hr
  refine ⟨A, c, hv, own_ids (n := L.length) (c := c) (B := B) ?_⟩
  rw [List.map_map]
  exact hr
theorem IsW.id (h : IsW w B g mb V L) {k : Nat} (hp : L[k]? = some p) : ∃ y c, V = .slice (some y) L.length c ∧ w.cell? (y.add k) = some (.int .i64 p.s.id) := by
  obtain ⟨A, c, hv, hi⟩ := h.ids
  obtain ⟨y, rfl, hc⟩ := hi k p.s.id (by rw [List.getElem?_map, hp]; rfl)
  exact ⟨y, c, hv, hc⟩
/-- All else changes. -/
theorem IsW.apart (h : IsW w B g mb V L) {lo hi : Nat} (r : Rng lo hi w w') (hg : g < lo) (hm : mb < lo) (hv : ∀ j, V.ownBlock = some j → j < lo) (hp : ∀ p ∈ L, p.hi ≤ lo) : IsW w' B g mb V L := by
  refine ⟨(r.block g (lt_of_block h.box) (.inl hg)).trans h.box, h.mp.kept (r.block mb h.mp.blk (.inl hm)), ⟨h.row.1, ?_⟩, h.gB, h.mB, h.gm, h.vg, fun p hm => ⟨IsP.apart (h.pt p hm).1 r (.inl (hp p hm)), (h.pt p hm).2⟩, h.ap, h.up⟩
  rcases h.row.2 with e | ⟨b, cap, cur, e, hb1, hb2, hb3⟩
  · exact .inl e
  · exact .inr ⟨b, cap, cur, e, hb1, (r.block b (lt_of_block hb2) (.inl (hv b (by rw [e]; rfl)))).trans hb2, hb3⟩
/-- One partition goes on by itself. -/
theorem IsW.moved (h : IsW w B g mb V L) {i : Nat} (hi : L[i]? = some p) {p' : CP} (hp : p'.On w') (r : Rng p.lo p.hi w w') (e1 : p'.lo = p.lo) (e2 : p'.hi = p.hi) (e3 : p'.d = p.d) (e4 : p'.s = p.s) :
    IsW w' B g mb V (L.set i p') ∧ Below B w w' := by
  have hm := List.mem_of_getElem? hi
  obtain ⟨h1, h2, h3, h4, h5, h6⟩ := h.pt p hm
  have hil := (List.getElem?_eq_some_iff.1 hi).1
  have hids : (L.set i p').map (fun p => Value.int .i64 p.s.id) = L.map fun p => Value.int .i64 p.s.id := by
    rw [List.map_set]
    apply List.ext_getElem?
    intro j
    rw [List.getElem?_set]
    split
    · rename_i e
      subst e
      rw [List.length_map, if_pos hil, List.getElem?_map, hi, e4]
      rfl
    · rfl
  have hfnd : ∀ v, (fndP (L.set i p') v).map CP.ptr = (fndP L v).map CP.ptr := by
    intro v
    have : ∀ (L : List CP) (i : Nat), L[i]? = some p → (fndP (L.set i p') v).map CP.ptr = (fndP L v).map CP.ptr := by
      intro L
      induction L with
      | nil => intro i h; simp at h
      | cons q L ih =>
        intro i h
        cases i with
        | zero =>
          obtain rfl : q = p := by simpa using h
          unfold fndP
          rw [List.set_cons_zero, List.find?_cons, List.find?_cons, e4]
          split
          · simp [CP.ptr, e3]
          · rfl
        | succ i =>
          unfold fndP
          rw [List.set_cons_succ, List.find?_cons, List.find?_cons]
          split
          · rfl
          · exact ih i (by simpa using h)
    exact this L i hi
  have hg := lt_of_block h.box
  have hoth : ∀ q : CP, q.On w → (p.hi ≤ q.lo ∨ q.hi ≤ p.lo) → q.On w' := fun q hq ho => IsP.apart hq r (by omega)
  have hap := List.pairwise_iff_getElem.1 h.ap
  refine ⟨⟨(r.block g hg h3).trans h.box, ?_, ?_, h.gB, h.mB, h.gm, h.vg, ?_, ?_, ?_⟩, ?_⟩
  · rw [List.length_set, funext hfnd]
    exact h.mp.kept (r.block mb h.mp.blk h4)
  · rw [List.length_set, hids]
    refine ⟨h.row.1, ?_⟩
    rcases h.row.2 with e | ⟨b, cap, cur, e, hb1, hb2, hb3⟩
    · exact .inl e
    · exact .inr ⟨b, cap, cur, e, hb1, (r.block b (lt_of_block hb2) (h5 b (by rw [e]; rfl))).trans hb2, hb3⟩
  · intro q hq
    obtain ⟨j, hj, rfl⟩ := List.mem_iff_getElem.1 hq
    rw [List.length_set] at hj
    rw [List.getElem_set]
    split
    · rename_i e
      refine ⟨hp, by rw [e1]; exact h2, by unfold CP.off; rw [e1, e2]; exact h3, by unfold CP.off; rw [e1, e2]; exact h4, fun j hj => by unfold CP.off; rw [e1, e2]; exact h5 j hj, by rw [e4]; exact h6⟩
    · rename_i e
      obtain ⟨k1, k2⟩ := h.pt L[j] (List.getElem_mem hj)
      refine ⟨hoth _ k1 ?_, k2⟩
      have hpe : L[i] = p := (List.getElem?_eq_some_iff.1 hi).2
      rcases Nat.lt_or_ge i j with hlt | hge
      · left; have := hap i j hil hj hlt; rw [hpe] at this; exact this
      · right; have := hap j i hj hil (by omega); rw [hpe] at this; exact this
  · have hlos : (L.set i p').map (fun p => (p.lo, p.hi)) = L.map fun p => (p.lo, p.hi) := by
      rw [List.map_set]
      apply List.ext_getElem?
      intro j
      rw [List.getElem?_set]
      split
      · rename_i e
        subst e
        rw [List.length_map, if_pos hil, List.getElem?_map, hi, e1, e2]
        rfl
      · rfl
    have a1 : (L.map fun p => (p.lo, p.hi)).Pairwise fun a b => a.2 ≤ b.1 := List.pairwise_map.2 h.ap
    rw [← hlos] at a1
    exact List.pairwise_map.1 a1
  · have hlos : (L.set i p').map (fun p => p.s.id) = L.map fun p => p.s.id := by
      rw [List.map_set]
      apply List.ext_getElem?
      intro j
      rw [List.getElem?_set]
      split
      · rename_i e
        subst e
        rw [List.length_map, if_pos hil, List.getElem?_map, hi, e4]
        rfl
      · rfl
    have a1 : (L.map fun p => p.s.id).Pairwise fun a b => a < b := List.pairwise_map.2 h.up
    rw [← hlos] at a1
    exact List.pairwise_map.1 a1
  · exact Rng.below (Below.refl _ _) r (Nat.le_of_lt (Nat.lt_of_le_of_lt h.gB hg)) h2
end

end Go.Proofs.Ytjdgpbjjhgfikaa.Crw
