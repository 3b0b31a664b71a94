
/- A strip in memory: Word. Condition: at most 268,435,455 ticks. -/

import Derived.Test.YtilkicbokfgjlaaDoorStpF

import Derived.Laws.CopyOwn

namespace Go.Proofs.YtilkicbokfgjlaaDoor.Stp

open Go.RowKit Go.PlainAid Go.Proofs.YtilkicbokfgjlaaDoor.Cel

set_option linter.unusedVariables false

set_option linter.unusedSimpArgs false

/-- 'make([]T, m, n)' with cells of one place each. -/
theorem wpList_make_n {P : Program} (w : World) {ops : Array Oper} {rest : List Oper} {o : Oper} {a : Act} {Q : Exit → Act → World → Prop}
    (hg : o.guard = none) (l c : Operand) (t : TypeId) (hop : o.op = Op.makeSlice t l c)
    (e : TypeId) (i : TypeInfo) (z : Value) (h1 : P.underlying t = some (.slice e)) (h2 : P.info? e = some i) (h3 : i.zero = some z) (h4 : i.size = 1) (hz : z.cells = #[z])
    (kl kc : IntKind) (L C : Int) (m n : Nat) (hl : a.eval l = .int kl L) (hc : a.eval c = .int kc C) (hL : L = (m : Int)) (hC : C = (n : Int)) (hmn : m ≤ n) (b2 : i.bytes * n ≤ 281474976710656) (b3 : n ≤ 9223372036854775807)
    (hK : wpList P ops Q rest (a.put o.dst (.slice (some ⟨w.heap.size, 0, none⟩) m n)) (w.alloc (.cells (List.replicate n z).toArray e))) :
    wpList P ops Q (o :: rest) a w := by
  refine wpList_plain hg fun K hK' => ?_
  have hb' : (i.bytes : Int) * (n : Int) ≤ 281474976710656 := by
    have h : ((i.bytes * n : Nat) : Int) ≤ 281474976710656 := by omega
    rwa [Int.natCast_mul] at h
  have hrun := run_make (P := P) w t e i z h1 h2 h3 kl kc m n (by omega) (by omega) hb' (by omega)
  simp only [Int.toNat_natCast, h4, Nat.mul_one, hz] at hrun
  subst hL
  subst hC
  unfold Oper.wp
  simp [execOp, hop, hl, hc, hrun, Result.andThen]
  have e1 : madeCells #[z] n = (List.replicate n z).toArray := by
    apply Array.toList_inj.1; rw [toList_madeCells_one]
  rw [e1]
  exact hK' _ _ hK
/-- A row's block is not one of another type. -/
theorem own_not {w : World} {B e s n q : Nat} {V : Value} {xs : List Value} {cs : Array Value} {t : TypeId} (h : w.heap[q]? = some (.cells cs t (0, 0))) (ho : w.ownsRow B e s V n xs) (ht : t ≠ e) : some q ≠ V.ownBlock := by
  intro e0
  rcases ho.2 with ⟨h1, _⟩ | ⟨g, cap, cur, h1, h2, h3, h4⟩
  · rw [h1] at e0; cases e0
  · rw [h1] at e0
    have e2 : q = g := by simpa [Value.ownBlock] using e0
    rw [← e2, h] at h3
    simp only [Option.some.injEq, Obj.cells.injEq] at h3
    exact ht h3.2.1
def iv (l : List Int) : List Value := l.map (.int .i64)
theorem iv_len (l : List Int) : (iv l).length = l.length := by simp [iv]
theorem infoInt : (Tryd.prog.info? 3).map (fun i => (i.zero, i.size, i.bytes)) = some (some (.int .i64 0), 1, 8) := by kernel_rfl
theorem new1W (w : World) (T : TypeId) (a : Int) : ∀ j u, ([.int .i64 a] : List Value)[j]? = some u → (w.alloc (.cells #[.int .i64 a] T)).cell? ((Addr.mk w.heap.size 0 none).add j) = some u := by
  intro j q hj
  have hrow := heap_alloc_new w (.cells #[.int .i64 a] T)
  have e : (Addr.mk w.heap.size 0 none).add j = ⟨w.heap.size, j, none⟩ := by cases j <;> simp [Addr.add]
  rw [e, cell_of_row _ _ _ _ _ _ hrow, ← hj]; simp
theorem word_take {X : List RW} (h : ∀ x ∈ X, 1 ≤ x.c) (k : Nat) : ((wordX (X.take k)).length : Int) = sumR (X.take k) := word_len fun x hx => h x (List.mem_of_mem_take hx)
def slen : Value → Nat
  | .slice _ n _ => n
  | _ => 0
def WordPost (w : World) (X : List RW) (n : Nat) (e : Ending) (w' : World) : Prop := ∃ A c, e = .returned (.slice A n c) ∧ w'.ownsRow w.heap.size 3 1 (.slice A n c) n (iv (wordX X)) ∧ Below w.heap.size w w'
def WoRel (X : List RW) (w : World) (i v : Value) (wr : World) : Prop :=
  ∃ (k n : Nat) (A : Option Addr) (c : Nat), k ≤ X.length ∧ i = .int .i64 (k : Int) ∧ v = .slice A n c ∧ (wordX (X.take k)).length = n ∧ wr.ownsRow w.heap.size 3 1 (.slice A n c) n (iv (wordX (X.take k))) ∧ Below w.heap.size w wr
def WiRel (pre : List Int) (xi : Int) (xc : Nat) (q : Nat) (en : Int) (w : World) (v : Value) (wr : World) : Prop :=
  ∃ (j n : Nat) (A : Option Addr) (c : Nat), j ≤ xc ∧ v = .slice A n c ∧ pre.length + j = n ∧ wr.ownsRow w.heap.size 3 1 (.slice A n c) n (iv (pre ++ List.replicate j xi)) ∧ Below w.heap.size w wr ∧ wr.heap[q]? = some (.cells #[.int .i64 xi, .int .i64 en] 78 (0, 0))
theorem made_own (w W2 : World) (n : Nat) (h : w.heap.size ≤ W2.heap.size) (hm : n ≤ 268435455) : (W2.alloc (.cells (List.replicate n (Value.int .i64 0)).toArray 3)).ownsRow w.heap.size 3 1 (.slice (some ⟨W2.heap.size, 0, none⟩) 0 n) 0 [] := World.ownsRow_made _ _ n h (by unfold maxLen; omega) (by simp)
section

variable {w : World} {B g : Nat} {X : List RW}

end

end Go.Proofs.YtilkicbokfgjlaaDoor.Stp
