
/- Cells of a partition beside the document's. Condition: at most a thousand cells. -/

import Derived.Test.YtjdgpbjjhgfikaaCelT

import Derived.Deep.CutBlock

namespace Go.Proofs.Ytjdgpbjjhgfikaa.Cel

open Go.RowKit Go.PlainAid Go.Proofs.Ytjdgpbjjhgfikaa.Args

set_option linter.unusedVariables false

set_option linter.unusedSimpArgs false

/-- The program's cells, and the document's in a box. -/
structure PW (w0 : World) (M : Nat) (p : CD) (F : Value) (X : Nat) (N : Option Addr) (nc : Nat) (fs : List C2) (ns ms : List Nat) (n : Nat) (a b : Int) (W : World) : Prop where
  one : IsC W w0.heap.size p.g p.FA p.fc fs p.A p.c ns n a
  box : W.heap[X]? = some (.cells #[F, .slice N n nc, .int .i64 b] 49 (0, 0))
  num : NumsAt W N ms
  mlen : ms.length = n
  below : Below w0.heap.size w0 W
  ge : w0.heap.size ≤ M
  lg : p.g < M
  lA : ∀ x, p.A = some x → x.block < M
  lF : ∀ x, p.FA = some x → x.block < M
  xM : M ≤ X
  nM : ∀ y, N = some y → M ≤ y.block ∧ y.block ≠ X
section

variable {w0 W W' : World} {M : Nat} {p : CD} {F : Value} {X : Nat} {N N' : Option Addr} {nc nc' : Nat} {fs : List C2} {ns ms ks : List Nat} {n : Nat} {a b x : Int}

theorem PW.keep (h : PW w0 M p F X N nc fs ns ms n a b W) (k : Below W.heap.size W W') : PW w0 M p F X N nc fs ns ms n a b W' :=
  ⟨h.one.keep k, (k.block X (lt_of_block h.box)).trans h.box, h.num.kept k, h.mlen, h.below.trans (k.mono h.below.size), h.ge, h.lg, h.lA, h.lF, h.xM, h.nM⟩
theorem PW.drewN (h : PW w0 M p F X N nc fs ns ms n a b W) (m : Nat) : PW w0 M p F X N nc fs ns ms n a b (W.drewN m) := h.keep ⟨rfl, rfl, rfl, Nat.le_refl _, fun _ _ => rfl⟩
theorem PW.cells (h : PW w0 M p F X N nc fs ns ms n a b W) : W.cell? ⟨X, 0, none⟩ = some F ∧ W.cell? ⟨X, 1, none⟩ = some (.slice N n nc) ∧ W.cell? ⟨X, 2, none⟩ = some (.int .i64 b) := by
  refine ⟨?_, ?_, ?_⟩
  all_goals (rw [cell_of_row W _ _ _ _ _ h.box]; rfl)
theorem PW.first (h : PW w0 M p F X N nc fs ns ms n a b W) (i : IsC W' w0.heap.size p.g p.FA p.fc fs p.A p.c ks n x) (t : Two p.g p.A W W') : PW w0 M p F X N nc fs ks ms n x b W' := by
  refine ⟨i, (t.block X (lt_of_block h.box) (by have := h.lg; have := h.xM; omega) (fun y hy => by have := h.lA y hy; have := h.xM; omega)).trans h.box, ?_, h.mlen, ?_, h.ge, h.lg, h.lA, h.lF, h.xM, h.nM⟩
  · exact Two.nums t h.num (fun y hy => by have := (h.nM y hy).1; have := h.lg; omega) (fun y z hy hz => by have := (h.nM y hy).1; have := h.lA z hz; omega)
  · exact Two.below h.below t h.below.size h.one.ge (fun y hy => (own_at h.one.own y hy).2.1)
theorem PW.setx (h : PW w0 M p F X N nc fs ns ms n a b W) (hn : NumsAt W N' ks) (hl : ks.length = n) (hN : ∀ y, N' = some y → M ≤ y.block ∧ y.block ≠ X) :
    PW w0 M p F X N' nc' fs ns ks n a x (W.setRow X #[F, .slice N' n nc', .int .i64 x]) := by
  have t : Two X none W (W.setRow X #[F, .slice N' n nc', .int .i64 x]) := ⟨rfl, rfl, rfl, by simp [World.setRow], fun k _ h1 _ => setRow_other _ _ _ _ h1⟩
  refine ⟨h.one.apart t (by have := h.lg; have := h.xM; omega) (fun _ hz => by cases hz) (fun y hy => ⟨by have := h.lA y hy; have := h.xM; omega, fun _ hz => by cases hz⟩) (fun y hy => ⟨by have := h.lF y hy; have := h.xM; omega, fun _ hz => by cases hz⟩), setRow_heap _ _ _ _ _ _ h.box, ?_, hl, ?_, h.ge, h.lg, h.lA, h.lF, h.xM, hN⟩
  · exact Two.nums t hn (fun y hy => (hN y hy).2) (fun _ _ _ hz => by cases hz)
  · exact Two.below h.below t h.below.size (Nat.le_trans h.ge h.xM) (fun _ hz => by cases hz)
end

/-- What Get tells. -/
def gvN (n : Nat) (i : Int) (ns : List Nat) : Nat := if inB n i then ns.getD i.toNat 0 else 0
theorem fresh_iff {fs : List C2} {ns : List Nat} {n : Nat} (h1 : fs.length = n) (h2 : ns.length = n) {b : Bool} (h : b = true ↔ FreshTo fs ns n) : b = decide (ns = fs.map C2.v) := by
  have hq : FreshTo fs ns n ↔ ns = fs.map C2.v := by
    refine ⟨fresh_all h1 h2, fun e j x v hj hx hv => ?_⟩
    rw [e, List.getElem?_map, hx] at hv
    exact Option.some.inj hv
  cases b with
  | true => exact (decide_eq_true (hq.1 (h.1 rfl))).symm
  | false => exact (decide_eq_false (fun e => by have := h.2 (hq.2 e); cases this)).symm
theorem fr_yes {fs : List C2} {ns : List Nat} {k : Nat} {x : C2} {v : Nat} (h : FreshTo fs ns k) (hx : fs[k]? = some x) (hv : ns[k]? = some v) (he : x.v = v) : FreshTo fs ns (k + 1) := by
  intro j y u hj h3 h4
  rcases (show j < k ∨ j = k by omega) with h5 | rfl
  · exact h j y u h5 h3 h4
  · rw [hx] at h3
    rw [hv] at h4
    obtain rfl := Option.some.inj h3
    obtain rfl := Option.some.inj h4
    exact he
theorem fr_no {fs : List C2} {ns : List Nat} {k : Nat} {x : C2} {v : Nat} (hx : fs[k]? = some x) (hv : ns[k]? = some v) (he : x.v ≠ v) : ¬ FreshTo fs ns (k + 1) := fun h => he (h k x v (by omega) hx hv)
theorem fr_less {fs : List C2} {ns : List Nat} {k : Nat} (h : ¬ FreshTo fs ns k) : ¬ FreshTo fs ns (k + 1) := fun h2 => h (fun j x v hj => h2 j x v (by omega))
theorem set_same {ns : List Nat} {n : Nat} (hl : ns.length = n) (h : 0 < n) : decide (ns = setN n 0 12345 ns) = (((gvN n 0 ns : Nat) : Int) == 12345) := by
  have e : inB n 0 = true := decide_eq_true ⟨Int.le_refl _, by omega⟩
  have e1 : setN n 0 12345 ns = ns.set 0 12345 := by unfold setN; rw [e]; rfl
  have e2 : gvN n 0 ns = ns.getD 0 0 := by unfold gvN; rw [e]; rfl
  rw [e1, e2]
  cases ns with
  | nil => simp at hl; omega
  | cons v l =>
    simp only [List.set_cons_zero, List.getD_cons_zero, List.cons.injEq, and_true]
    by_cases hv : v = 12345
    · simp [hv]
    · rw [decide_eq_false hv]; symm; simp; omega
end Go.Proofs.Ytjdgpbjjhgfikaa.Cel
