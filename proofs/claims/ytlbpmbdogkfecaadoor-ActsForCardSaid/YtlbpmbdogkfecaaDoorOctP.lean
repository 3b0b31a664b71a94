
/- What package octet's Put returns: bytes in memory of its own, those that came in and the number's behind them, where it fits; nothing that was there has changed. Condition: at most 2 to the power 40 bytes come in. -/

import Derived.Test.YtlbpmbdogkfecaaDoorOctA

import Derived.Laws.CopyOwn

namespace Go.Proofs.YtlbpmbdogkfecaaDoor.Oct

open Go.RowKit Go.PlainAid

/-- 'make([]T, m, n)' with cells of one place each. -/
theorem wpList_make_lc {P : Program} (w : World) {ops : Array Oper} {rest : List Oper} {o : Oper} {a : Act} {Q : Exit → Act → World → Prop}
    (hg : o.guard = none) (l c : Operand) (t : TypeId) (hop : o.op = Op.makeSlice t l c)
    (e : TypeId) (i : TypeInfo) (z : Value) (h1 : P.underlying t = some (.slice e)) (h2 : P.info? e = some i) (h3 : i.zero = some z) (h4 : i.size = 1) (hz : z.cells = #[z])
    (kl kc : IntKind) (L C : Int) (m n : Nat) (hl : a.eval l = .int kl L) (hc : a.eval c = .int kc C) (hL : L = (m : Int)) (hC : C = (n : Int)) (hmn : m ≤ n) (b2 : i.bytes * n ≤ 281474976710656) (b3 : n ≤ 9223372036854775807)
    (hK : ∀ w' cur, Hid (cur = List.replicate n z) → Hid (w'.heap[w.heap.size]? = some (.cells cur.toArray e (0, 0))) → Below w.heap.size w w' → wpList P ops Q rest (a.put o.dst (.slice (some ⟨w.heap.size, 0, none⟩) m n)) w') :
    wpList P ops Q (o :: rest) a w := by
  refine wpList_plain hg fun K hK' => ?_
  have hb' : (i.bytes : Int) * (n : Int) ≤ 281474976710656 := by
    have h : ((i.bytes * n : Nat) : Int) ≤ 281474976710656 := by omega
    rwa [Int.natCast_mul] at h
  have hrun := run_make (P := P) w t e i z h1 h2 h3 kl kc m n (by omega) (by omega) hb' (by omega)
  simp only [Int.toNat_natCast, h4, Nat.mul_one, hz] at hrun
  subst hL
  subst hC
  unfold Oper.wp
  simp [execOp, hop, hl, hc, hrun, Result.andThen]
  refine hK' _ _ (hK _ _ rfl ?_ ((Below.refl _ _).alloc (Nat.le_refl _) _))
  show _ = _
  have e1 : madeCells #[z] n = (List.replicate n z).toArray := by
    apply Array.toList_inj.1; rw [toList_madeCells_one]
  rw [e1]
  exact heap_alloc_new _ _

theorem infoU8 : (Tryd.prog.info? 5).map (fun i => (i.zero, i.size, i.bytes)) = some (some (.int .u8 0), 1, 1) := by kernel_rfl
theorem sizeU8 : (Tryd.prog.info? 5).map (·.size) = some 1 := by kernel_rfl

/-- A slice of bytes that reads as xs. -/
def IsBytes (w : World) (A : Option Addr) (n : Nat) (xs : List Int) : Prop :=
  xs.length = n ∧ (0 < n → ∃ ad, A = some ad ∧ ∀ j v, (xs.map (Value.int .u8))[j]? = some v → w.cell? (ad.add j) = some v)

theorem shift_run (v n k m : Nat) (hk : k < n) (hm : 8 * (n : Int) - 8 * k - 8 = (m : Int)) : IntKind.u8.wrap ((v : Int) / 2 ^ m) = ((v / 256 ^ (n - 1 - k) % 256 : Nat) : Int) := by
  have e : m = 8 * (n - 1 - k) := by omega
  subst e
  rw [IntKind.wrap_u8']
  have e2 : (2 : Nat) ^ (8 * (n - 1 - k)) = 256 ^ (n - 1 - k) := by rw [Nat.pow_mul]
  have e3 : (v : Int) / 2 ^ (8 * (n - 1 - k)) = ((v / 2 ^ (8 * (n - 1 - k)) : Nat) : Int) := by rw [Int.natCast_ediv]; simp
  rw [e3, e2]
  omega

theorem cell_lt {w : World} {a : Addr} {v : Value} (h : w.cell? a = some v) : a.block < w.heap.size := by
  rcases Nat.lt_or_ge a.block w.heap.size with hlt | hge
  · exact hlt
  · simp [World.cell?, Array.getElem?_eq_none hge] at h

/-- What Put hands back. -/
def PutPost (w : World) (xs : List Int) (r : Bool) (ys : List Int) (e : Ending) (w' : World) : Prop :=
  ∃ n cap : Nat, e = .returned (.tuple #[.slice (some ⟨w.heap.size, 0, none⟩) n cap, .bool r]) ∧ w'.ownsRow w.heap.size 5 1 (.slice (some ⟨w.heap.size, 0, none⟩) n cap) n ((xs ++ ys).map (Value.int .u8)) ∧ Below w.heap.size w w'

theorem owns_block {w : World} {B n c : Nat} {cs : List Value} (h : w.heap[B]? = some (.cells cs.toArray 5 (0, 0))) (hn : n ≤ c) (hc : cs.length = c) (hm : c ≤ maxLen) :
    w.ownsRow B 5 1 (.slice (some ⟨B, 0, none⟩) n c) n (cs.take n) :=
  ⟨by simp; omega, .inr ⟨B, c, cs.toArray, rfl, Nat.le_refl _, h, hn, hm, by simpa using hc, by simp⟩⟩

end Go.Proofs.YtlbpmbdogkfecaaDoor.Oct
