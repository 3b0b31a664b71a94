
/- What package parts reads of a partition's cells. Condition: the variables hold what the program lays there; the reader stands within a text of at most 2 to the power 40 bytes. What package parts reads of a partition. Condition: the variables hold what the program lays there; the reader stands within a text of at most 2 to the power 40 bytes. What package parts' Read reads. Condition: the variables hold what the program lays there; the reader stands within a text of at most 2 to the power 40 bytes; at most 1,000 partitions. -/

import Derived.Test.YtpdoihndpnpifaaDoorPrtF

import Derived.Test.YtpdoihndpnpifaaDoorActR

namespace Go.Proofs.YtpdoihndpnpifaaDoor.Prt

open Go.RowKit Go.PlainAid Go.Proofs.YtpdoihndpnpifaaDoor.Oct Go.Proofs.YtpdoihndpnpifaaDoor.Flt Go.Proofs.YtpdoihndpnpifaaDoor.Rdr Go.Proofs.YtpdoihndpnpifaaDoor.Nam

open Go.Proofs.YtpdoihndpnpifaaDoor.Act (row_beside row_base)

set_option linter.unusedVariables false

set_option linter.unusedSimpArgs false

def flS (t : St) : St := needS (decide ((numV t 1 : Int) ≤ 1)) (numS t 1) 6 t.p
def flV (t : St) : Bool := (numV t 1 : Int) == 1
theorem ok_fl {t : St} (h : Ok t) : Ok (flS t) := ok_need (ok_num h _) _ _ _
def BPost (g : Nat) (t : St) (b : Bool) (w : World) (e : Ending) (w' : World) : Prop := e = .returned (.bool b) ∧ IsRdr w' g t ∧ Just g w w'
def flatC (l : List C2) : List Value := l.flatMap celL
theorem flatC_snoc (l : List C2) (x : C2) : flatC (l ++ [x]) = flatC l ++ celL x := by simp [flatC]
theorem flatC_len (l : List C2) : (flatC l).length = l.length * 2 := by
  induction l with
  | nil => rfl
  | cons x l ih => simp [flatC, celL] at ih ⊢; omega
def ceS (t : St) : St := numS (flS t) 4
def ceV (t : St) : C2 := ⟨numV (flS t) 4, flV t⟩
def ceN (t : St) : Nat → St × List C2
  | 0 => (t, [])
  | i + 1 => (ceS (ceN t i).1, (ceN t i).2 ++ [ceV (ceN t i).1])
theorem ceN_len (t : St) : ∀ i, (ceN t i).2.length = i
  | 0 => rfl
  | i + 1 => by rw [ceN]; simp [ceN_len t i]
theorem ok_ce {t : St} (h : Ok t) : ∀ i, Ok (ceN t i).1
  | 0 => h
  | i + 1 => ok_num (ok_fl (ok_ce h i)) _
def hdS (t : St) : St := needS (decide ((numV t 1 : Int) ≤ 16)) (numS t 1) 8 t.p
def clS (t : St) : St := if (hdS t).k = 0 then (ceN (hdS t) (numV t 1)).1 else hdS t
def clV (t : St) : List C2 := if (hdS t).k = 0 then (ceN (hdS t) (numV t 1)).2 else []
theorem ok_hd {t : St} (h : Ok t) : Ok (hdS t) := ok_need (ok_num h _) _ _ _
theorem ok_cl {t : St} (h : Ok t) : Ok (clS t) := by
  unfold clS; split
  · exact ok_ce (ok_hd h) _
  · exact ok_hd h
theorem just_cell (w : World) (c o : Nat) (v : Value) : Just c w (w.setCell ⟨c, o, none⟩ v) := by
  have x := (Below.refl 0 w).setCell (p := ⟨c, o, none⟩) (Nat.zero_le _) v
  exact ⟨x.os, x.tape, x.output, x.size, fun k hk hne => heap_setCell_other w _ k v hne⟩
/-- Within cells: the reader, the row so far. -/
structure CA (g : Nat) (t : St) (l : List C2) (V : Value) (w wr : World) : Prop where
  rd : IsRdr wr g t
  own : wr.ownsRow w.heap.size 38 2 V l.length (flatC l)
  just : Just g w wr
  gl : g < w.heap.size
/-- .. and a cell of the call's own. -/
structure CB (g C : Nat) (t : St) (l : List C2) (V : Value) (cs : Array Value) (w wr : World) : Prop where
  ca : CA g t l V w wr
  row : wr.heap[C]? = some (.cells cs 38 (0, 0))
  cl : w.heap.size ≤ C
  vc : ∀ k, V.ownBlock = some k → k ≠ C
theorem CA.rdr {g : Nat} {t t' : St} {l : List C2} {V : Value} {w wr w' : World} (f : CA g t l V w wr) (hr : IsRdr w' g t') (j : Just g wr w') : CA g t' l V w w' := by
  have h1 := f.gl
  exact ⟨hr, row_beside f.own j fun k hk => (by have := (f.own.lt k hk).1; omega), f.just.trans j, h1⟩
theorem CA.keep {g : Nat} {t : St} {l : List C2} {V : Value} {w wr w' : World} (f : CA g t l V w wr) (b : Below wr.heap.size wr w') : CA g t l V w w' := f.rdr (f.rd.kept b) (Just.of_below b)
theorem CA.cell {g : Nat} {t : St} {l : List C2} {V : Value} {w wr : World} (f : CA g t l V w wr) (cs : Array Value) : CB g wr.heap.size t l V cs w (wr.alloc (.cells cs 38)) :=
  ⟨f.keep ((Below.refl _ _).alloc (Nat.le_refl _) _), heap_alloc_new _ _, f.just.size, fun k hk => (by have := (f.own.lt k hk).2; omega)⟩
theorem CB.rdr {g C : Nat} {t t' : St} {l : List C2} {V : Value} {cs : Array Value} {w wr w' : World} (f : CB g C t l V cs w wr) (hr : IsRdr w' g t') (j : Just g wr w') : CB g C t' l V cs w w' := by
  have h1 := f.ca.gl
  have h2 := f.cl
  exact ⟨f.ca.rdr hr j, (j.block _ (lt_of_block f.row) (by omega)).trans f.row, h2, f.vc⟩
theorem CB.set {g C : Nat} {t : St} {l : List C2} {V : Value} {cs : Array Value} {w wr : World} (f : CB g C t l V cs w wr) (o : Nat) (v : Value) : CB g C t l V (cs.setIfInBounds o v) w (wr.setCell ⟨C, o, none⟩ v) :=
  ⟨⟨IsRdr.poke f.ca.rd f.row (by decide) (by decide) o v, row_beside f.ca.own (just_cell wr C o v) f.vc, Just.poke f.ca.just C o v f.cl, f.ca.gl⟩, heap_setCell_same wr _ _ _ _ _ f.row, f.cl, f.vc⟩
theorem CA.grown {g : Nat} {t : St} {l : List C2} {x : C2} {V V' : Value} {w wr w' : World} {n : Nat} (f : CA g t l V w wr) (hg : wr.grownBy w' V.ownBlock) (hn : n = (l ++ [x]).length) (ho : w'.ownsRow w.heap.size 38 2 V' n (flatC l ++ celL x)) : CA g t (l ++ [x]) V' w w' := by
  have h1 := f.gl
  have hne : ∀ k, k < w.heap.size → some k ≠ V.ownBlock := fun k hk e => by have := (f.own.lt k e.symm).1; omega
  refine ⟨?_, by rw [← hn, flatC_snoc]; exact ho, ?_, h1⟩
  · obtain ⟨y, hy, hw⟩ := f.rd
    refine ⟨y, (hg.block g (lt_of_block hy) (hne g h1)).trans hy, hw.kept fun k cs hk => hg.block k (lt_of_block hk) fun e => ?_⟩
    rcases f.own.2 with ⟨h, _⟩ | ⟨g', c', cur, h, _, h3, _⟩
    · rw [h] at e; cases e
    · rw [h] at e
      obtain rfl : k = g' := by simpa [Value.ownBlock] using e
      rw [hk] at h3
      simp only [Option.some.injEq, Obj.cells.injEq] at h3
      exact absurd h3.2.1 (by decide)
  · exact ⟨hg.os.trans f.just.os, hg.tape.trans f.just.tape, hg.output.trans f.just.output, Nat.le_trans f.just.size hg.size, fun k hk hkg => (hg.block k (Nat.lt_of_lt_of_le hk f.just.size) (hne k hk)).trans (f.just.block k hk hkg)⟩
def LPost (g : Nat) (t : St) (l : List C2) (w : World) (e : Ending) (w' : World) : Prop := ∃ V, e = .returned V ∧ w'.ownsRow w.heap.size 38 2 V l.length (flatC l) ∧ IsRdr w' g t ∧ Just g w w'
theorem infoCell : (Tryd.prog.info? 38).map (fun i => (i.zero, i.size, i.bytes)) = some (some (.agg #[.int .u32 0, .bool false]), 2, 8) := by kernel_rfl
def CRel (g : Nat) (t0 : St) (n : Nat) (w : World) (v i : Value) (wr : World) : Prop := ∃ k : Nat, k ≤ n ∧ i = .int .i64 k ∧ CA g (ceN t0 k).1 (ceN t0 k).2 v w wr
end Go.Proofs.YtpdoihndpnpifaaDoor.Prt

namespace Go.Proofs.YtpdoihndpnpifaaDoor.Prt

open Go.RowKit Go.PlainAid Go.Proofs.YtpdoihndpnpifaaDoor.Oct Go.Proofs.YtpdoihndpnpifaaDoor.Flt Go.Proofs.YtpdoihndpnpifaaDoor.Rdr Go.Proofs.YtpdoihndpnpifaaDoor.Nam

open Go.Proofs.YtpdoihndpnpifaaDoor.Act (row_beside row_base)

set_option linter.unusedVariables false

set_option linter.unusedSimpArgs false

def o2S (t : St) (last : Int) : St := needS (decide (last < (numV t 1 : Int))) (numS t 1) 9 t.p
def o3S (t : St) (last : Int) : St := flS (o2S t last)
def o4S (t : St) (last : Int) : St := nmS (o3S t last)
def onS (t : St) (last : Int) : St := clS (o4S t last)
def onV (t : St) (last : Int) : PT := ⟨numV t 1, nmV (o3S t last), flV (o2S t last), clV (o4S t last)⟩
theorem ok_nm {t : St} (h : Ok t) : Ok (nmS t) := by
  have h1 := ok_num h 1
  have h2 := ok_txt h1 (numV t 1 : Nat)
  unfold nmS
  repeat' split
  all_goals first | exact h | exact h1 | exact h2 | exact ok_fail h _ _ | exact ok_fail h1 _ _ | exact ok_fail h2 _ _
theorem ok_o2 {t : St} (h : Ok t) (last : Int) : Ok (o2S t last) := ok_need (ok_num h _) _ _ _
theorem ok_o3 {t : St} (h : Ok t) (last : Int) : Ok (o3S t last) := ok_fl (ok_o2 h last)
theorem ok_o4 {t : St} (h : Ok t) (last : Int) : Ok (o4S t last) := ok_nm (ok_o3 h last)
theorem ok_on {t : St} (h : Ok t) (last : Int) : Ok (onS t last) := ok_cl (ok_o4 h last)
def ptZ : Array Value := #[.int .i64 0, .string ⟨#[]⟩, .bool false, .slice none 0 0]
/-- Within one: the reader, the result's block, the partition's block. -/
structure PB (g : Nat) (t : St) (cs : Array Value) (w wr : World) : Prop where
  rd : IsRdr wr g t
  res : wr.heap[w.heap.size]? = some (.cells ptZ 25 (0, 0))
  row : wr.heap[w.heap.size + 1]? = some (.cells cs 25 (0, 0))
  just : Just g w wr
  gl : g < w.heap.size
theorem PB.rdr {g : Nat} {t t' : St} {cs : Array Value} {w wr w' : World} (f : PB g t cs w wr) (hr : IsRdr w' g t') (j : Just g wr w') : PB g t' cs w w' := by
  have h1 := f.gl
  exact ⟨hr, (j.block _ (lt_of_block f.res) (by omega)).trans f.res, (j.block _ (lt_of_block f.row) (by omega)).trans f.row, f.just.trans j, h1⟩
theorem PB.set {g : Nat} {t : St} {cs : Array Value} {w wr : World} (f : PB g t cs w wr) (o : Nat) (v : Value) : PB g t (cs.setIfInBounds o v) w (wr.setCell ⟨w.heap.size + 1, o, none⟩ v) :=
  ⟨IsRdr.poke f.rd f.row (by decide) (by decide) o v, (heap_setCell_other wr _ _ v (by show w.heap.size ≠ w.heap.size + 1; omega)).trans f.res, heap_setCell_same wr _ _ _ _ _ f.row, Just.poke f.just _ o v (by omega), f.gl⟩
theorem PB.facts {g : Nat} {t : St} {cs : Array Value} {w wr : World} (f : PB g t cs w wr) (o : Nat) : wr.cell? ⟨w.heap.size + 1, o, none⟩ = cs[o]? ∧ wr.frozen? ⟨w.heap.size + 1, o, none⟩ = false := ⟨cell_of_row wr _ _ _ _ _ f.row, frozen_of_row wr _ o _ _ f.row⟩
def OPost1 (g : Nat) (t : St) (x : PT) (w : World) (e : Ending) (w' : World) : Prop := ∃ V, e = .returned (.agg #[.int .i64 x.id, .string x.nm, .bool x.may, V]) ∧ w'.ownsRow w.heap.size 38 2 V x.cs.length (flatC x.cs) ∧ IsRdr w' g t ∧ Just g w w'
theorem size_pt : (Tryd.prog.info? 25).map (·.size) = some 4 := by kernel_rfl
theorem just_row (w : World) (c : Nat) (cs : Array Value) : Just c w (w.setRow c cs) := ⟨rfl, rfl, rfl, by simp, fun k hk hne => setRow_other _ _ _ _ hne⟩
end Go.Proofs.YtpdoihndpnpifaaDoor.Prt

namespace Go.Proofs.YtpdoihndpnpifaaDoor.Prt

open Go.RowKit Go.PlainAid Go.Proofs.YtpdoihndpnpifaaDoor.Oct Go.Proofs.YtpdoihndpnpifaaDoor.Flt Go.Proofs.YtpdoihndpnpifaaDoor.Rdr Go.Proofs.YtpdoihndpnpifaaDoor.Nam

open Go.Proofs.YtpdoihndpnpifaaDoor.Act (row_beside row_base)

open Go.Proofs.YtpdoihndpnpifaaDoor.Hdr (iface_of_wrong)

set_option linter.unusedVariables false

set_option linter.unusedSimpArgs false

/-- The reader, and what is read, behind so many rounds. -/
def itP (t : St) : Nat → St × List PT
  | 0 => (t, [])
  | i + 1 => if (itP t i).1.k = 0 then (onS (itP t i).1 (lastP (itP t i).2), (itP t i).2 ++ [onV (itP t i).1 (lastP (itP t i).2)]) else itP t i
theorem itP_stay (t : St) (i : Nat) (h : (itP t i).1.k ≠ 0) : ∀ j, itP t (i + j) = itP t i
  | 0 => rfl
  | j + 1 => by
    have := itP_stay t i h j
    rw [show i + (j + 1) = (i + j) + 1 by omega, itP, this, if_neg h]
theorem itP_len (t : St) : ∀ i, (itP t i).2.length ≤ i
  | 0 => Nat.le_refl _
  | i + 1 => by
    have := itP_len t i
    rw [itP]; split <;> (simp; try omega)
theorem ok_itP {t : St} (h : Ok t) : ∀ i, Ok (itP t i).1
  | 0 => h
  | i + 1 => by
    rw [itP]; split
    · exact ok_on (ok_itP h i) _
    · exact ok_itP h i
def flatQ (L : List (PT × Value)) : List Value := L.flatMap fun q => [.int .i64 q.1.id, .string q.1.nm, .bool q.1.may, q.2]
theorem flatQ_snoc (L : List (PT × Value)) (q : PT × Value) : flatQ (L ++ [q]) = flatQ L ++ [.int .i64 q.1.id, .string q.1.nm, .bool q.1.may, q.2] := by simp [flatQ]
theorem flatQ_get (L : List (PT × Value)) : ∀ (i : Nat) (q : PT × Value) (j : Nat), L[i]? = some q → j < 4 → (flatQ L)[i * 4 + j]? = ([.int .i64 q.1.id, .string q.1.nm, .bool q.1.may, q.2] : List Value)[j]? := by
  induction L with
  | nil => intro i x j h; simp at h
  | cons y l ih =>
    intro i x j h hj
    have e : flatQ (y :: l) = [.int .i64 y.1.id, .string y.1.nm, .bool y.1.may, y.2] ++ flatQ l := rfl
    cases i with
    | zero =>
      obtain rfl : y = x := by simpa using h
      rw [e, Nat.zero_mul, Nat.zero_add, List.getElem?_append_left (by simp; omega)]
    | succ i =>
      have hx : l[i]? = some x := by simpa using h
      rw [e, List.getElem?_append_right (by simp; omega), ← ih i x j hx hj]
      congr 1
      simp; omega
/-- Within Read: the reader, the row so far and the rows of its cells. -/
structure RP (g : Nat) (t : St) (L : List (PT × Value)) (V : Value) (w wr : World) : Prop where
  rd : IsRdr wr g t
  own : wr.ownsRow w.heap.size 25 4 V L.length (flatQ L)
  sub : ∀ q ∈ L, wr.ownsRow w.heap.size 38 2 q.2 q.1.cs.length (flatC q.1.cs)
  just : Just g w wr
  gl : g < w.heap.size
theorem RP.rdr {g : Nat} {t t' : St} {L : List (PT × Value)} {V : Value} {w wr w' : World} (f : RP g t L V w wr) (hr : IsRdr w' g t') (j : Just g wr w') : RP g t' L V w w' := by
  have h1 := f.gl
  exact ⟨hr, row_beside f.own j fun k hk => (by have := (f.own.lt k hk).1; omega), fun q hq => row_beside (f.sub q hq) j fun k hk => (by have := ((f.sub q hq).lt k hk).1; omega), f.just.trans j, h1⟩
theorem RP.keep {g : Nat} {t : St} {L : List (PT × Value)} {V : Value} {w wr w' : World} (f : RP g t L V w wr) (b : Below wr.heap.size wr w') : RP g t L V w w' := f.rdr (f.rd.kept b) (Just.of_below b)
theorem own_block {w : World} {B n : Nat} {T : TypeId} {s : Nat} {v : Value} {xs : List Value} (h : w.ownsRow B T s v n xs) {k : Nat} (hk : v.ownBlock = some k) : ∃ cur, w.heap[k]? = some (.cells cur T (0, 0)) := by
  rcases h.2 with ⟨rfl, _⟩ | ⟨g, c, cur, rfl, _, h3, _⟩
  · cases hk
  · obtain rfl : g = k := by simpa [Value.ownBlock] using hk
    exact ⟨cur, h3⟩
theorem RP.grown {g : Nat} {t : St} {L : List (PT × Value)} {q : PT × Value} {V V' : Value} {w wr w' : World} {n : Nat} (f : RP g t L V w wr) (hq : wr.ownsRow w.heap.size 38 2 q.2 q.1.cs.length (flatC q.1.cs)) (hg : wr.grownBy w' V.ownBlock) (hn : n = (L ++ [q]).length)
    (ho : w'.ownsRow w.heap.size 25 4 V' n (flatQ L ++ [.int .i64 q.1.id, .string q.1.nm, .bool q.1.may, q.2])) : RP g t (L ++ [q]) V' w w' := by
  have h1 := f.gl
  have hne : ∀ k, k < w.heap.size → some k ≠ V.ownBlock := fun k hk e => by have := (f.own.lt k e.symm).1; omega
  have hcell : ∀ {u : Value} {m : Nat} {ys : List Value}, wr.ownsRow w.heap.size 38 2 u m ys → w'.ownsRow w.heap.size 38 2 u m ys := fun {u m ys} h => h.kept hg (by
    cases hu : u.ownBlock with
    | none => exact .inl rfl
    | some k =>
      refine .inr fun e => ?_
      obtain ⟨c1, e1⟩ := own_block h hu
      obtain ⟨c2, e2⟩ := own_block f.own e.symm
      rw [e1] at e2
      simp only [Option.some.injEq, Obj.cells.injEq] at e2
      exact absurd e2.2.1 (by decide))
  refine ⟨?_, by rw [← hn, flatQ_snoc]; exact ho, fun p hp => ?_, ?_, h1⟩
  · obtain ⟨y, hy, hw⟩ := f.rd
    refine ⟨y, (hg.block g (lt_of_block hy) (hne g h1)).trans hy, hw.kept fun k cs hk => hg.block k (lt_of_block hk) fun e => ?_⟩
    obtain ⟨c2, e2⟩ := own_block f.own e.symm
    rw [hk] at e2
    simp only [Option.some.injEq, Obj.cells.injEq] at e2
    exact absurd e2.2.1 (by decide)
  · rcases List.mem_append.1 hp with h | h
    · exact hcell (f.sub p h)
    · obtain rfl : p = q := by simpa using h
      exact hcell hq
  · exact ⟨hg.os.trans f.just.os, hg.tape.trans f.just.tape, hg.output.trans f.just.output, Nat.le_trans f.just.size hg.size, fun k hk hkg => (hg.block k (Nat.lt_of_lt_of_le hk f.just.size) (hne k hk)).trans (f.just.block k hk hkg)⟩
def rdP (t : St) (n : Nat) : St := (itP (secS t 2) n).1
def rdL (t : St) (n : Nat) : List PT := (itP (secS t 2) n).2
def KPost (g : Nat) (t : St) (l : List PT) (w : World) (e : Ending) (w' : World) : Prop :=
  (t.k ≠ 0 ∧ ∃ x, e = .returned (.tuple #[.slice none 0 0, x]) ∧ Wrong w' x t.k t.fs t.fa ∧ IsRdr w' g t ∧ Just g w w') ∨ (t.k = 0 ∧ ∃ V L, e = .returned (.tuple #[V, .nilIface]) ∧ L.map Prod.fst = l ∧ RP g t L V w w')
def KRel (g : Nat) (t : St) (n : Nat) (w : World) (v last i : Value) (wr : World) : Prop :=
  ∃ (k : Nat) (L : List (PT × Value)), k ≤ n ∧ i = .int .i64 k ∧ last = .int .i64 (lastP (itP t k).2) ∧ L.map Prod.fst = (itP t k).2 ∧ RP g (itP t k).1 L v w wr
theorem infoPart : (Tryd.prog.info? 25).map (fun i => (i.zero, i.size, i.bytes)) = some (some (.agg #[.int .i64 0, .string ⟨#[]⟩, .bool false, .slice none 0 0]), 4, 56) := by kernel_rfl
end Go.Proofs.YtpdoihndpnpifaaDoor.Prt
