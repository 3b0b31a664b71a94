
/- Windows: all ticks of a frame as windows of one owner each. Condition: at most 400 windows of plain numbers, a frame of 1 to 1,048,576. -/

import Derived.Test.YtofcjkfaccdnjaaDoorWinI

import Derived.Test.YtofcjkfaccdnjaaDoorWinK

import Derived.Deep.RegionHeld3

import Derived.Deep.RegionLaw

import Derived.BigRegion

import Derived.OwnWalk

namespace Go.Proofs.YtofcjkfaccdnjaaDoor.Win

open Go.RowKit Go.PlainAid Go.Proofs.YtofcjkfaccdnjaaDoor.Oct Go.Proofs.YtofcjkfaccdnjaaDoor.Flt Go.Proofs.YtofcjkfaccdnjaaDoor.Rdr Go.Proofs.YtofcjkfaccdnjaaDoor.Args

open Go.Proofs.YtofcjkfaccdnjaaDoor.Act (A3 actL flatA flatA_snoc flatA_get flatA_len ActsAt I64 Wide row_beside row_base)

set_option linter.unusedVariables false

set_option linter.unusedSimpArgs false

/-- All ticks, as windows of one owner each. -/
def rowsL (fr : Int) (l : List A3) (cs : List Int) (m : Nat) : List A3 := (List.range m).map fun q => ⟨ownT fr l (cut cs q), cut cs q, cut cs (q + 1) - cut cs q⟩
theorem rowsL_len (fr : Int) (l : List A3) (cs : List Int) (m : Nat) : (rowsL fr l cs m).length = m := by simp [rowsL]
theorem rowsL_get (fr : Int) (l : List A3) (cs : List Int) {m q : Nat} (h : q < m) : (rowsL fr l cs m)[q]? = some ⟨ownT fr l (cut cs q), cut cs q, cut cs (q + 1) - cut cs q⟩ := by
  unfold rowsL
  rw [List.getElem?_map, List.getElem?_range h]; rfl
theorem rowsL_take (fr : Int) (l : List A3) (cs : List Int) {m q : Nat} (h : q < m) : (rowsL fr l cs m).take (q + 1) = (rowsL fr l cs m).take q ++ [⟨ownT fr l (cut cs q), cut cs q, cut cs (q + 1) - cut cs q⟩] := by
  rw [List.take_add_one, rowsL_get fr l cs h]; rfl
theorem infoWin2 : (Tryd.prog.info? 82).map (fun i => (i.zero, i.size, i.bytes)) = some (some (.agg #[.int .i64 0, .int .i64 0, .int .i64 0]), 3, 24) := by kernel_rfl
theorem cut_in {cs : List Int} {fr : Int} {m : Nat} (h : Cuts cs fr) (hm : cs.length = m + 1) {q : Nat} (hq : q ≤ m) : 0 ≤ cut cs q ∧ cut cs q ≤ fr := by
  have e : cut cs q = cs[q]'(by omega) := by unfold cut; rw [List.getElem?_eq_getElem (by omega)]; rfl
  rw [e]
  exact h.2.1 _ (List.getElem_mem _)
theorem step_append_ownW {P : Program} {ops : Array Oper} {o : Oper} {a : Act} {w : World} {K : Act → World → Prop} {Q : Exit → Act → World → Prop} {E : Prop}
    (hg : o.guard = none) (s x : Operand) (t : TypeId) (ho : o.op = .call { callee := .builtin .append, args := #[s, x], argTypes := #[t, t] })
    (base : Nat) (e : TypeId) (i : TypeInfo) (z : Value) (size bytes : Nat) (ht : P.underlying t = some (.slice e)) (hi : P.info? e = some i) (hz : i.zero = some z)
    (hsize : i.size = size) (hby : i.bytes = bytes) (hzs : z.cells.size = size) (hsz : 0 < size)
    (v : Value) (n : Nat) (xs : List Value) (hs : a.eval s = v) (hown : w.ownsRow base e size v n xs)
    (ad : Addr) (m c : Nat) (news : List Value) (hx : a.eval x = .slice (some ad) m c) (hl : news.length = m * size) (hnews : ∀ j u, news[j]? = some u → w.cell? (ad.add j) = some u) (h1 : ∀ u ∈ news, u.oneCell' = true)
    (h63 : n + m ≤ maxLen) (hbytes : (n + m) * bytes ≤ 140737488355328) (hbase : base ≤ w.heap.size)
    (hK : ∀ v' w', w'.ownsRow base e size v' (n + m) (xs ++ news) → w.grownBy w' v.ownBlock → K (a.put o.dst v') w') :
    if Region.wanted o (yielded ops a.tmps) = true then Oper.wp P o a w K Q else E := by
  have hw : Region.wanted o (yielded ops a.tmps) = true := by simp [Region.wanted, hg]
  rw [if_pos hw]
  exact wp_append_own w s x t ho base e i z size bytes ht hi hz hsize hby hzs hsz v n xs hs hown ad m c news hx hl hnews h1 h63 hbytes hbase fun v' w' h2 h3 _ => hK v' w' h2 h3
theorem new3W (w : World) (T : TypeId) (a b c : Int) : ∀ j u, ([.int .i64 a, .int .i64 b, .int .i64 c] : List Value)[j]? = some u → (w.alloc (.cells #[.int .i64 a, .int .i64 b, .int .i64 c] T)).drew.cell? ((Addr.mk w.heap.size 0 none).add j) = some u := by
  intro j q hj
  have hrow := heap_alloc_new w (.cells #[.int .i64 a, .int .i64 b, .int .i64 c] T)
  have e : (Addr.mk w.heap.size 0 none).add j = ⟨w.heap.size, j, none⟩ := by cases j <;> simp [Addr.add]
  have h : (w.alloc (.cells #[.int .i64 a, .int .i64 b, .int .i64 c] T)).cell? ⟨w.heap.size, j, none⟩ = some q := by
    rw [cell_of_row _ _ _ _ _ _ hrow, ← hj]; simp
  rw [e]; exact h
theorem new3V (w : World) (T : TypeId) (a b c : Int) : ∀ j u, ([.int .i64 a, .int .i64 b, .int .i64 c] : List Value)[j]? = some u → (w.drew.alloc (.cells #[.int .i64 a, .int .i64 b, .int .i64 c] T)).cell? ((Addr.mk w.heap.size 0 none).add j) = some u := new3W w T a b c
theorem one3W (a b c : Int) : ∀ u ∈ ([.int .i64 a, .int .i64 b, .int .i64 c] : List Value), u.oneCell' = true := by
  intro q hq; simp at hq; rcases hq with rfl | rfl | rfl <;> rfl
theorem row_slice3 {w : World} {B n : Nat} {T : TypeId} {V : Value} {xs : List Value} (h : w.ownsRow B T 3 V n xs) : ∃ A c, V = .slice A n c := by
  rcases h.2 with ⟨rfl, h0⟩ | ⟨g', c', cur, rfl, _⟩
  · exact ⟨none, 0, by rw [h0]⟩
  · exact ⟨_, _, rfl⟩
theorem below_dn2 {B : Nat} {a w : World} (h : Below B a w) (n : Nat) : Below B a (w.drewN n) := ⟨h.os, h.tape, h.output, h.size, h.block⟩
def RwRel (m : Nat) (L : List A3) (w2 : World) (i v : Value) (wr : World) : Prop :=
  ∃ (k : Nat) (A : Option Addr) (c : Nat), k ≤ m ∧ i = .int .i64 (k : Int) ∧ v = .slice A k c ∧ wr.ownsRow w2.heap.size 82 3 (.slice A k c) k (flatA (L.take k)) ∧ Below w2.heap.size w2 wr
end Go.Proofs.YtofcjkfaccdnjaaDoor.Win
