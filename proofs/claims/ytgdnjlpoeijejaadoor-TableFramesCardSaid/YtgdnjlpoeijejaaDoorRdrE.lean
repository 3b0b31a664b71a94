
/- What the document's reader does (Fail, Num, Text): the same reckoning as the program's. No condition. -/

import Derived.Test.YtgdnjlpoeijejaaDoorRdrD

namespace Go.Proofs.YtgdnjlpoeijejaaDoor.Rdr

open Go.RowKit Go.PlainAid Go.Proofs.YtgdnjlpoeijejaaDoor.Flt Go.Proofs.YtgdnjlpoeijejaaDoor.Oct

set_option linter.unusedVariables false

theorem bcell {W w1 : World} (hb : Below W.heap.size W w1) : (∀ b o, b < W.heap.size → w1.cell? ⟨b, o, none⟩ = W.cell? ⟨b, o, none⟩) ∧ (∀ b o, b < W.heap.size → w1.frozen? ⟨b, o, none⟩ = W.frozen? ⟨b, o, none⟩) :=
  ⟨fun b o h => hb.cell (p := ⟨b, o, none⟩) h, fun b o h => hb.frozen (p := ⟨b, o, none⟩) h⟩
def rdC (t : St) : Array Value := #[.string t.s, .int .i64 t.p, .int .i64 t.sec, .int .i64 t.k, .int .i64 t.fs, .int .i64 t.fa]
theorem one_rd (t : St) : (rdC t).all (·.oneCell') = true := by simp [rdC, Value.oneCell']
def RPost (t : St) (w : World) (e : Ending) (w' : World) : Prop := e = .returned (.agg (rdC t)) ∧ Below w.heap.size w w'
def rd0 : Array Value := #[.string ⟨#[]⟩, .int .i64 0, .int .i64 0, .int .i64 0, .int .i64 0, .int .i64 0]
theorem set_far {w1 : World} {b c o : Nat} {v : Value} {y : Option Obj} (h : w1.heap[c]? = y) (hne : c ≠ b) : (w1.setCell ⟨b, o, none⟩ v).heap[c]? = y := (heap_setCell_other w1 ⟨b, o, none⟩ c v hne).trans h
theorem ends_below {w w1 : World} {W : World} (h : Below w.heap.size w w1) (hh : ∀ k, k < w.heap.size → W.heap[k]? = w1.heap[k]?) (ho : W.os = w1.os) (ht : W.tape = w1.tape) (hp : W.output = w1.output) (hs : w1.heap.size ≤ W.heap.size) : Below w.heap.size w W :=
  ⟨ho.trans h.os, ht.trans h.tape, hp.trans h.output, Nat.le_trans h.size hs, fun k hk => (hh k hk).trans (h.block k hk)⟩
theorem below_setRow {w w1 : World} {b : Nat} {cs : Array Value} (h : Below w.heap.size w w1) (hb : w.heap.size ≤ b) : Below w.heap.size w (w1.setRow b cs) :=
  h.trans ⟨rfl, rfl, rfl, by simp, fun k hk => setRow_other _ _ _ _ (by omega)⟩
theorem results_row_tmp {P : Program} {fn : Func} {p u : Tmp} {ty : TypeId} (h : fn.results = #[.cell p ty, .tmp u]) (tmps : Array Value) (w : World) (g : Nat) (t : TypeId) (cs : Array Value) (fr : Nat × Nat) (d : TypeDesc)
    (hp : tmps.getD p undef = .pointer (some ⟨g, 0, none⟩)) (hg : w.heap[g]? = some (.cells cs t fr))
    (hu : P.underlying ty = some d) (hd : (match d with | .struct _ | .array _ _ => true | _ => false) = true) (hi : (P.info? ty).map (·.size) = some cs.size) :
    (results fn tmps).run P w = .ok (.tuple #[.agg cs, tmps.getD u undef]) w := by
  have hp' : tmps[p]?.getD undef = .pointer (some ⟨g, 0, none⟩) := by simpa using hp
  simp [results, h, hp', asAddr, run_loadVar_row w g t ty cs fr d hg hu hd hi]
/-- What the document's Num tells. -/
def RNumPost (t : St) (v : Value) (w : World) (e : Ending) (w' : World) : Prop := e = .returned (.tuple #[.agg (rdC t), v]) ∧ Below w.heap.size w w'
theorem two_below (w : World) (o1 o2 : Obj) : Below w.heap.size w ((w.alloc o1).alloc o2) := ((Below.refl _ _).alloc (Nat.le_refl _) _).alloc (by simp) _
end Go.Proofs.YtgdnjlpoeijejaaDoor.Rdr
