/- Maps from numbers to values of any kind, of the program's own making: look-ups, stores, how many. No condition. -/
import Derived.Test.YtnngldkpkhabeaaMg02
import Derived.Test.YtnngldkpkhabeaaMg04
import Derived.Below
import Derived.Maps.OwnSet
import Derived.Maps.OwnOps
import Derived.Maps.Views
namespace Go.Proofs.Ytnngldkpkhabeaa.Mpv

open Go.RowKit Go.PlainAid Go.Proofs.Ytnngldkpkhabeaa.Oct Go.Proofs.Ytnngldkpkhabeaa.Flt

set_option linter.unusedVariables false

set_option linter.unusedSimpArgs false

def rdV (v : Value) : Option (DataW Value × List MemPlace) := some (.held v, [])
def I64 (n : Int) : Prop := -9223372036854775808 ≤ n ∧ n ≤ 9223372036854775807
theorem wf_i64 {v : Int} (h : I64 v) : (Lit.int .i64 v).wf = true := by
  have h1 : (-9223372036854775808 : Int) ≤ v := h.1
  have h2 : v ≤ 9223372036854775807 := h.2
  show (decide (IntKind.i64.min ≤ v) && decide (v ≤ IntKind.i64.max)) = true
  have e1 : IntKind.i64.min = -9223372036854775808 := by decide
  have e2 : IntKind.i64.max = 9223372036854775807 := by decide
  rw [e1, e2]
  simp [h1, h2]
/-- A map of c entries in block b: what stands at each key, if anything does. -/
def MapV (w : World) (b c : Nat) (F : Int → Option Value) : Prop :=
  ∃ D : DataW Value, w.ownsMap Try.prog 3 rdV b c D ∧ Maps.Tidy D ∧ Maps.size D = c ∧ ∀ v, I64 v → Maps.has D (.int .i64 v) = (F v).isSome ∧ ∀ z, D.atKey (.int .i64 v) (.held z) = .held ((F v).getD z)
theorem own_size {H : Type} {P : Program} {k : TypeId} {R : Value → Option (DataW H × List MemPlace)} {w : World} {b n c : Nat} {D : DataW H} (h : w.ownsMap P k R b n D) (hs : Maps.size D = c) : w.ownsMap P k R b c D := by
  obtain ⟨es, clock, hb, F, _, hD⟩ := h
  refine ⟨es, clock, hb, F, ?_, hD⟩
  have e1 : Maps.size D = es.size := by rw [hD]; simp [Maps.size, Go.length_sorted]
  omega
theorem MapV.blk {w : World} {b c : Nat} {F : Int → Option Value} (h : MapV w b c F) : b < w.heap.size := by
  obtain ⟨D, h, _⟩ := h
  exact h.lt
theorem MapV.kept {w w' : World} {b c : Nat} {F : Int → Option Value} (h : MapV w b c F) (e : w'.heap[b]? = w.heap[b]?) : MapV w' b c F := by
  obtain ⟨D, ⟨es, clock, h1, h2⟩, h3⟩ := h
  exact ⟨D, ⟨es, clock, e.trans h1, h2⟩, h3⟩
theorem MapV.keep {w w' : World} {b c : Nat} {F : Int → Option Value} (h : MapV w b c F) (e : Below w.heap.size w w') : MapV w' b c F := h.kept (e.block _ h.blk)
theorem map_made (w : World) : MapV (w.alloc (.map #[] 0)) w.heap.size 0 (fun _ => none) :=
  ⟨.map [], World.ownsMap_made _ _ _ _, Maps.tidy_empty, rfl, fun _ _ => ⟨rfl, fun _ => rfl⟩⟩
section

variable {w : World} {b c : Nat} {F : Int → Option Value} {t e : TypeId} {z : Value}

set_option maxRecDepth 4000 in
theorem MapV.look (h : MapV w b c F) (ht : Try.prog.underlying t = some (.map 3 e)) (hz : (zeroValue e).run Try.prog w = .ok z w) (v : Int) (hv : I64 v) :
    (Instr.lookup t (.map (some b)) (.int .i64 v) false).run Try.prog w = .ok ((F v).getD z) w := by
  obtain ⟨D, h1, _, _, h3⟩ := h
  obtain ⟨x, ps, hrun, hx⟩ := h1.lookup (z := z) (Maps.int_keyed Try.underlying3) ht hz (zd := .held z) (zp := []) rfl (kl := .int .i64 v) (Maps.keyOf_int_mk Try.underlying3 (wf_i64 hv))
  rw [(h3 v hv).2 z] at hx
  have hx2 : (DataW.held x : DataW Value) = .held ((F v).getD z) := by
    have := Option.some.inj hx
    simp only [Prod.mk.injEq] at this
    exact this.1
  injection hx2 with hx3
  rw [hrun, hx3]
set_option maxRecDepth 4000 in
theorem MapV.look_ok (h : MapV w b c F) (ht : Try.prog.underlying t = some (.map 3 e)) (hz : (zeroValue e).run Try.prog w = .ok z w) (v : Int) (hv : I64 v) :
    (Instr.lookup t (.map (some b)) (.int .i64 v) true).run Try.prog w = .ok (.tuple #[(F v).getD z, .bool (F v).isSome]) w := by
  obtain ⟨D, h1, _, _, h3⟩ := h
  obtain ⟨x, ps, hrun, hx⟩ := h1.look_ok (z := z) (Maps.int_keyed Try.underlying3) ht hz (zd := .held z) (zp := []) rfl (kl := .int .i64 v) (Maps.keyOf_int_mk Try.underlying3 (wf_i64 hv))
  rw [(h3 v hv).2 z] at hx
  have hx2 : (DataW.held x : DataW Value) = .held ((F v).getD z) := by
    have := Option.some.inj hx
    simp only [Prod.mk.injEq] at this
    exact this.1
  injection hx2 with hx3
  rw [hrun, hx3, (h3 v hv).1]
theorem MapV.len (h : MapV w b c F) (ht : Try.prog.underlying t = some (.map 3 e)) (ty : TypeId) : (Builtin.len_ #[t] ty #[.map (some b)]).run Try.prog w = .ok (.int .i64 (c : Int)) w := by
  obtain ⟨D, h1, _, h4, _⟩ := h
  rw [h1.len ht ty, h4]
theorem MapV.put (h : MapV w b c F) (ht : Try.prog.underlying t = some (.map 3 e)) (v : Int) (hv : I64 v) (x : Value) (hc : c ≤ 1099511627776) :
    ∃ w', (Instr.mapUpdate t (.map (some b)) (.int .i64 v) x).run Try.prog w = .ok () w' ∧ MapV w' b (if (F v).isSome then c else c + 1) (fun i => if i = v then some x else F i) ∧ w.grownBy w' (some b) := by
  obtain ⟨D, h1, h2, h4, h3⟩ := h
  obtain ⟨w', hrun, ho, hg⟩ := h1.update (Maps.int_keyed Try.underlying3) ht (by unfold maxLen; omega) (kl := .int .i64 v) (Maps.keyOf_int_mk Try.underlying3 (wf_i64 hv)) (val := x) (d := .held x) (ps := []) rfl
  have hsz : Maps.size (D.put (.int .i64 v) (.held x)) = if (F v).isSome then c else c + 1 := by rw [Maps.size_put h2, (h3 v hv).1, h4]
  refine ⟨w', hrun, ⟨_, own_size ho hsz, h2.put (by simp [WideAt.IsKeyLit]) _, hsz, fun i hi => ?_⟩, hg⟩
  by_cases hiv : i = v
  · subst hiv
    refine ⟨?_, fun y => ?_⟩
    · rw [Maps.has_put_same h2.isMap (by simp [WideAt.IsKeyLit])]; simp
    · rw [Maps.atKey_put_same h2.isMap (by simp [WideAt.IsKeyLit])]; simp
  · refine ⟨?_, fun y => ?_⟩
    · rw [Maps.has_put_other (by simpa using hiv)]; simp [hiv, (h3 i hi).1]
    · rw [Maps.atKey_put_other (by simpa using hiv)]; simp [hiv, (h3 i hi).2 y]
end

theorem wpList_look {P : Program} (w : World) {ops : Array Oper} {rest : List Oper} {o : Oper} {a : Act} {Q : Exit → Act → World → Prop}
    (hg : o.guard = none) (m x : Operand) (t : TypeId) (ok : Bool) (hop : o.op = Op.lookup t m x ok) (v key mv : Value) (hm : a.eval m = mv) (hx : a.eval x = key)
    (hrun : (Instr.lookup t mv key ok).run P w = .ok v w) (hK : wpList P ops Q rest (a.put o.dst v) w) : wpList P ops Q (o :: rest) a w := by
  refine wpList_plain hg fun K' hK' => ?_
  unfold Oper.wp
  simp [execOp, hop, hm, hx, hrun, Result.andThen]
  exact hK' _ _ hK
theorem wpList_upd {P : Program} (w : World) {ops : Array Oper} {rest : List Oper} {o : Oper} {a : Act} {Q : Exit → Act → World → Prop}
    (hg : o.guard = none) (m x v : Operand) (t : TypeId) (hop : o.op = Op.mapUpdate t m x v) (mv key val : Value) (hm : a.eval m = mv) (hx : a.eval x = key) (hv : a.eval v = val) (w' : World)
    (hrun : (Instr.mapUpdate t mv key val).run P w = .ok () w') (hK : wpList P ops Q rest (a.put o.dst undef) w') : wpList P ops Q (o :: rest) a w := by
  refine wpList_plain hg fun K' hK' => ?_
  unfold Oper.wp
  simp [execOp, hop, hm, hx, hv, hrun, Result.andThen]
  exact hK' _ _ hK
end Go.Proofs.Ytnngldkpkhabeaa.Mpv
