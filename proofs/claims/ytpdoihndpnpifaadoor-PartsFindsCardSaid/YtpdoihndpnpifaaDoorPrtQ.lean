
/- Rows of partitions of the call's own, one of whose cells is changed. No condition. -/

import Derived.Test.YtpdoihndpnpifaaDoorPrtP

namespace Go.Proofs.YtpdoihndpnpifaaDoor.Prt

open Go.RowKit Go.PlainAid Go.Proofs.YtpdoihndpnpifaaDoor.Oct Go.Proofs.YtpdoihndpnpifaaDoor.Flt Go.Proofs.YtpdoihndpnpifaaDoor.Rdr Go.Proofs.YtpdoihndpnpifaaDoor.Nam

open Go.Proofs.YtpdoihndpnpifaaDoor.Act (row_beside row_base)

set_option linter.unusedVariables false

set_option linter.unusedSimpArgs false

theorem rows_at {B : Nat} {L : List (PT × Value)} {V : Value} {W : World} (h : W.ownsRow B 25 4 V L.length (flatQ L)) (sub : ∀ q ∈ L, W.ownsRow B 38 2 q.2 q.1.cs.length (flatC q.1.cs)) : ∃ A c, V = .slice A (L.map Prod.fst).length c ∧ PartsAt W A (L.map Prod.fst) := by
  rw [List.length_map]
  rcases h.2 with ⟨hv, h0⟩ | ⟨b, c, cur, hv, _⟩
  · have : L = [] := List.length_eq_zero_iff.1 h0
    subst this
    exact ⟨none, 0, hv, fun i x hx => by simp at hx⟩
  · refine ⟨_, c, hv, fun i x hx => ?_⟩
    rw [hv] at h
    rw [List.getElem?_map] at hx
    obtain ⟨q, hq, rfl⟩ := Option.map_eq_some_iff.1 hx
    have hi : i < L.length := (List.getElem?_eq_some_iff.1 hq).1
    obtain ⟨A, c2, hV2, hc, h5⟩ := own_cells (sub q (List.mem_of_getElem? hq))
    refine ⟨_, A, c2, rfl, ?_, ?_, ?_, ?_, hc, h5⟩
    all_goals rw [add_at]
    · rw [h.cellAt (i * 4) (by omega)]
      exact flatQ_get L i q 0 hq (by omega)
    · show W.cell? ⟨b, i * 4 + 1, none⟩ = _
      rw [h.cellAt (i * 4 + 1) (by omega)]
      exact flatQ_get L i q 1 hq (by omega)
    · show W.cell? ⟨b, i * 4 + 2, none⟩ = _
      rw [h.cellAt (i * 4 + 2) (by omega)]
      exact flatQ_get L i q 2 hq (by omega)
    · show W.cell? ⟨b, i * 4 + 3, none⟩ = _
      rw [h.cellAt (i * 4 + 3) (by omega), flatQ_get L i q 3 hq (by omega), ← hV2]
      rfl
/-- From row k on, the rows are as they were. -/
structure SP (k : Nat) (L : List (PT × Value)) (V : Value) (w wr : World) : Prop where
  own : wr.ownsRow w.heap.size 25 4 V L.length (flatQ L)
  sub : ∀ (i : Nat) (q : PT × Value), k ≤ i → L[i]? = some q → wr.ownsRow w.heap.size 38 2 q.2 q.1.cs.length (flatC q.1.cs)
  apart : ∀ (i j : Nat) (q q' : PT × Value) (b : Nat), i ≠ j → L[i]? = some q → L[j]? = some q' → q.2.ownBlock = some b → q'.2.ownBlock ≠ some b
  below : Below w.heap.size w wr
theorem SP.keep {k : Nat} {L : List (PT × Value)} {V : Value} {w wr w' : World} (f : SP k L V w wr) (b : Below wr.heap.size wr w') : SP k L V w w' :=
  ⟨row_beside f.own (Just.of_below (g := wr.heap.size) b) (fun k hk => by have := (f.own.lt k hk).2; omega), fun i q hi hq => row_beside (f.sub i q hi hq) (Just.of_below (g := wr.heap.size) b) (fun k hk => by have := ((f.sub i q hi hq).lt k hk).2; omega), f.apart, f.below.trans (b.mono f.below.size)⟩
theorem SP.drewN {k : Nat} {L : List (PT × Value)} {V : Value} {w wr : World} (f : SP k L V w wr) (n : Nat) : SP k L V w (wr.drewN n) := f.keep ⟨rfl, rfl, rfl, Nat.le_refl _, fun _ _ => rfl⟩
theorem SP.next {k : Nat} {L : List (PT × Value)} {V : Value} {w wr : World} (f : SP k L V w wr) : SP (k + 1) L V w wr := ⟨f.own, fun i q hi hq => f.sub i q (by omega) hq, f.apart, f.below⟩
theorem sp_of {l : List PT} {L : List (PT × Value)} {V : Value} {w wr : World} (f : DP L.length l L V w wr) : SP 0 L V w wr :=
  ⟨f.own, fun i q _ hq => f.sub i q (List.getElem?_eq_some_iff.1 hq).1 hq, fun i j q q' b hij hq hq' hb => f.apart i j q q' b (List.getElem?_eq_some_iff.1 hq).1 (List.getElem?_eq_some_iff.1 hq').1 hij hq hq' hb, f.below⟩
theorem part_ne_cell {w : World} {B B' n n' : Nat} {V V' : Value} {xs xs' : List Value} {g : Nat} (h : w.ownsRow B 25 4 V n xs) (h' : w.ownsRow B' 38 2 V' n' xs') (hg : V'.ownBlock = some g) : ∀ k, V.ownBlock = some k → k ≠ g := by
  rintro k hk rfl
  obtain ⟨c1, e1⟩ := own_block h hk
  obtain ⟨c2, e2⟩ := own_block h' hg
  rw [e1] at e2
  simp only [Option.some.injEq, Obj.cells.injEq] at e2
  exact absurd e2.2.1 (by decide)
theorem SP.poke {k : Nat} {L : List (PT × Value)} {V : Value} {w wr : World} {q : PT × Value} {g : Nat} (f : SP k L V w wr) (hq : L[k]? = some q) (hg : q.2.ownBlock = some g) (v : Value) : SP (k + 1) L V w (wr.setCell ⟨g, 0, none⟩ v) := by
  have j : Just g wr (wr.setCell ⟨g, 0, none⟩ v) := (Just.refl g wr).setCell 0 v
  have hs := f.sub k q (Nat.le_refl _) hq
  refine ⟨row_beside f.own j (part_ne_cell f.own hs hg), fun i q' hi hq' => row_beside (f.sub i q' (by omega) hq') j fun b hb e => ?_, f.apart, f.below.setCell (hs.lt g hg).1 v⟩
  subst e
  exact f.apart k i q q' b (by omega) hq hq' hg hb
theorem cells_poke {W : World} {B g c : Nat} {x : C2} {cs : List C2} (h : W.ownsRow B 38 2 (.slice (some ⟨g, 0, none⟩) (x :: cs).length c) (x :: cs).length (flatC (x :: cs))) (v : Nat) :
    CellsAt (W.setCell ⟨g, 0, none⟩ (.int .u32 v)) (some ⟨g, 0, none⟩) (⟨v, x.kept⟩ :: cs) := by
  have h1 := (h.stored 0 (.int .u32 v)).1
  have h2 : (W.setCell ⟨g, 0, none⟩ (.int .u32 v)).ownsRow B 38 2 (.slice (some ⟨g, 0, none⟩) ((⟨v, x.kept⟩ : C2) :: cs).length c) ((⟨v, x.kept⟩ : C2) :: cs).length (flatC (⟨v, x.kept⟩ :: cs)) := h1
  obtain ⟨A, c2, hA, hc, _⟩ := own_cells h2
  cases hA
  exact hc
theorem poke_cell {W : World} {g : Nat} {v : Value} {a : Addr} {u : Value} (h : W.cell? a = some u) (hne : a.block ≠ g) : (W.setCell ⟨g, 0, none⟩ v).cell? a = some u := by
  rw [← h]
  exact World.cell?_of_block (heap_setCell_other W ⟨g, 0, none⟩ a.block v hne)
end Go.Proofs.YtpdoihndpnpifaaDoor.Prt
