
/- What errors.As does at package fault's own errors, asked for the interface by which fault looks at them: a nil error has none; a class and a wrap are found at once, and the target holds them. Conditions: the target is a variable of the call's own. -/

import Derived.Test.YtpdoihndpnpifaaDoorProg

import Derived.WalkKit

import Derived.PlainAid

import Derived.Lib.Hide

import Derived.LaidEql

import Derived.Stop.Asserts

import Derived.RowKitTokens

import Derived.Defers

import Derived.Recover

namespace Go.Proofs.YtpdoihndpnpifaaDoor.Flt

open Go.RowKit Go.Extern.Stop Go.Stop Go.Extern

theorem as_nil (t : Value) (w : World) :
    Calls Tryd.prog 120 #[.nilIface, t] w fun e w' => e = .returned (.bool false) ∧ w = w' := by
  go_enter Tryd.func120, Tryd.ntmps120
  go_wp2
  go_ret
  exact ⟨rfl, rfl⟩

theorem rlm (z : Sem Value) (f : TypeId → Addr → Nat → Nat → Sem Value) (v : Value) :
    ReflectliteValue.method z f #[v] = (do match ← ReflectliteValue.parts v with | none => z | some (t, a, fl) => f t a fl (fl % 32)) := rfl
theorem rls (v x : Value) : ReflectliteValue.set #[v, x] = (do
    let (some (dst, a, fl), some (src, b, _)) := (← ReflectliteValue.parts v, ← ReflectliteValue.parts x)
      | unsupported (.noEntry "extern/(internal/reflectlite.Value).Set.zeroValue")
    if fl / ReflectliteValue.flagAddr % 2 == 0 then unsupported (.noEntry "extern/(internal/reflectlite.Value).Set.unaddressable")
    let val ← loadVar src b
    if ← Rtype.directlyAssignable dst src then storeVar dst a val
    else if ← Rtype.implements dst src then
      if (← Rtype.kind src) == 20 then
        match val with
        | .nilIface => unsupported (.noEntry "extern/reflectlite: a nil value of one interface type handed on as a value of another")
        | _ => storeVar dst a val
      else storeVar dst a (.iface src val)
    else panicString ("reflectlite.Set: value of type " ++ (← Rtype.spelt src) ++ " is not assignable to type " ++ (← Rtype.spelt dst))
    pure (.tuple #[])) := rfl

-- the target: a pointer to a variable of the interface
theorem valueOfT (t : Addr) (w : World) : (ReflectliteValue.unpack (.iface 178 (.pointer (some t)))).run Tryd.prog w
    = .ok (.agg #[.pointer (some ⟨2, 178, none⟩), .pointer (some ⟨w.heap.size, 0, none⟩), .int .u64 150]) (w.alloc (.cells #[.pointer (some t)] 178)) := by kernel_rfl
theorem typeT (a : Addr) (w : World) : (ReflectliteValue.methodAny (ReflectliteValue.valueError "reflectlite.Value.Type" 0) (fun t _ _ _ => ReflectliteType.toType t) #[.agg #[.pointer (some ⟨2, 178, none⟩), .pointer (some a), .int .u64 150]]).run Tryd.prog w
    = .ok (.iface 202 (.agg #[.pointer (some ⟨2, 178, none⟩)])) w := by kernel_rfl
theorem methodKind (h : Value) (w : World) : (Go.method 342 202 (.agg #[h]) "Kind").run Tryd.prog w = .ok (151, h) w := by kernel_rfl
theorem methodElem (h : Value) (w : World) : (Go.method 342 202 (.agg #[h]) "Elem").run Tryd.prog w = .ok (165, .agg #[h]) w := by kernel_rfl
theorem methodAssignableTo (h : Value) (w : World) : (Go.method 342 202 (.agg #[h]) "AssignableTo").run Tryd.prog w = .ok (163, .agg #[h]) w := by kernel_rfl
theorem kindT (w : World) : ((ReflectliteType.abiMethod fun t => (fun a : Nat => Value.int IntKind.u8 (a : Int)) <$> Rtype.kind t) #[.pointer (some ⟨2, 178, none⟩)]).run Tryd.prog w = .ok (.int .u8 22) w := by kernel_rfl
theorem kindI (w : World) : ((ReflectliteType.abiMethod fun t => (fun a : Nat => Value.int IntKind.u8 (a : Int)) <$> Rtype.kind t) #[.pointer (some ⟨2, 155, none⟩)]).run Tryd.prog w = .ok (.int .u8 20) w := by kernel_rfl
theorem elemT (w : World) : (ReflectliteType.method ReflectliteType.elem #[.agg #[.pointer (some ⟨2, 178, none⟩)]]).run Tryd.prog w = .ok (.iface 202 (.agg #[.pointer (some ⟨2, 155, none⟩)])) w := by kernel_rfl
theorem partsT (a : Addr) (w : World) : (ReflectliteValue.parts (.agg #[.pointer (some ⟨2, 178, none⟩), .pointer (some a), .int .u64 150])).run Tryd.prog w = .ok (some (178, a, 150)) w := by kernel_rfl
theorem isNilT (a p : Addr) (W : World) (ha : W.cell? a = some (.pointer (some p))) :
    (ReflectliteValue.method (ReflectliteValue.valueError "reflectlite.Value.IsNil" 0) ReflectliteValue.isNil #[.agg #[.pointer (some ⟨2, 178, none⟩), .pointer (some a), .int .u64 150]]).run Tryd.prog W = .ok (.bool false) W := by
  rw [rlm]
  simp only [Sem.run_bind, partsT, Result.andThen]
  simp [ReflectliteValue.isNil, loadVar, isAgg, underlying, Tryd.underlying178, ha, Result.andThen]
theorem elemOfT (w : World) : (Rtype.elem? 178).run Tryd.prog w = .ok (some 155) w := by kernel_rfl
theorem mkI (p : Addr) (w : World) : (ReflectliteValue.mk 155 p ReflectliteValue.flagAddr).run Tryd.prog w = .ok (.agg #[.pointer (some ⟨2, 155, none⟩), .pointer (some p), .int .u64 404]) w := by kernel_rfl
theorem elemVT (a p : Addr) (W : World) (ha : W.cell? a = some (.pointer (some p))) :
    (ReflectliteValue.method (ReflectliteValue.valueError "reflectlite.Value.Elem" 0) ReflectliteValue.elem #[.agg #[.pointer (some ⟨2, 178, none⟩), .pointer (some a), .int .u64 150]]).run Tryd.prog W
      = .ok (.agg #[.pointer (some ⟨2, 155, none⟩), .pointer (some p), .int .u64 404]) W := by
  rw [rlm]
  simp only [Sem.run_bind, partsT, Result.andThen]
  simp [ReflectliteValue.elem, loadVar, isAgg, underlying, Tryd.underlying178, ha, Result.andThen, elemOfT, mkI]
theorem partsI (a : Addr) (w : World) : (ReflectliteValue.parts (.agg #[.pointer (some ⟨2, 155, none⟩), .pointer (some a), .int .u64 404])).run Tryd.prog w = .ok (some (155, a, 404)) w := by kernel_rfl

-- a class
theorem typeOfC (v : Value) (w : World) : (ReflectliteType.typeOf #[.iface 157 v]).run Tryd.prog w = .ok (.iface 202 (.agg #[.pointer (some ⟨2, 157, none⟩)])) w := by kernel_rfl
theorem assignableC (w : World) : (ReflectliteType.relation "AssignableTo" ReflectliteType.assignableTo #[.agg #[.pointer (some ⟨2, 157, none⟩)], .iface 202 (.agg #[.pointer (some ⟨2, 155, none⟩)])]).run Tryd.prog w = .ok (.bool true) w := by kernel_rfl
theorem valueOfC (k : Int) (w : World) : (ReflectliteValue.unpack (.iface 157 (.int .i64 k))).run Tryd.prog w
    = .ok (.agg #[.pointer (some ⟨2, 157, none⟩), .pointer (some ⟨w.heap.size, 0, none⟩), .int .u64 130]) (w.alloc (.cells #[.int .i64 k] 157)) := by kernel_rfl
theorem partsC (a : Addr) (w : World) : (ReflectliteValue.parts (.agg #[.pointer (some ⟨2, 157, none⟩), .pointer (some a), .int .u64 130])).run Tryd.prog w = .ok (some (157, a, 130)) w := by kernel_rfl
theorem directC (w : World) : (Rtype.directlyAssignable 155 157).run Tryd.prog w = .ok false w := by kernel_rfl
theorem implC (w : World) : (Rtype.implements 155 157).run Tryd.prog w = .ok true w := by kernel_rfl
theorem kindC (w : World) : (Rtype.kind 157).run Tryd.prog w = .ok 2 w := by kernel_rfl
-- a wrap
theorem typeOfW (v : Value) (w : World) : (ReflectliteType.typeOf #[.iface 107 v]).run Tryd.prog w = .ok (.iface 202 (.agg #[.pointer (some ⟨2, 107, none⟩)])) w := by kernel_rfl
theorem assignableW (w : World) : (ReflectliteType.relation "AssignableTo" ReflectliteType.assignableTo #[.agg #[.pointer (some ⟨2, 107, none⟩)], .iface 202 (.agg #[.pointer (some ⟨2, 155, none⟩)])]).run Tryd.prog w = .ok (.bool true) w := by kernel_rfl
theorem valueOfW (p : Addr) (w : World) : (ReflectliteValue.unpack (.iface 107 (.pointer (some p)))).run Tryd.prog w
    = .ok (.agg #[.pointer (some ⟨2, 107, none⟩), .pointer (some ⟨w.heap.size, 0, none⟩), .int .u64 150]) (w.alloc (.cells #[.pointer (some p)] 107)) := by kernel_rfl
theorem partsW (a : Addr) (w : World) : (ReflectliteValue.parts (.agg #[.pointer (some ⟨2, 107, none⟩), .pointer (some a), .int .u64 150])).run Tryd.prog w = .ok (some (107, a, 150)) w := by kernel_rfl
theorem directW (w : World) : (Rtype.directlyAssignable 155 107).run Tryd.prog w = .ok false w := by kernel_rfl
theorem implW (w : World) : (Rtype.implements 155 107).run Tryd.prog w = .ok true w := by kernel_rfl
theorem kindW (w : World) : (Rtype.kind 107).run Tryd.prog w = .ok 22 w := by kernel_rfl

theorem setC (ta b : Addr) (k : Int) (old : Value) (W : World) (hb : W.cell? b = some (.int .i64 k)) (ht : W.cell? ta = some old) (hf : W.frozen? ta = false) :
    (ReflectliteValue.set #[.agg #[.pointer (some ⟨2, 155, none⟩), .pointer (some ta), .int .u64 404], .agg #[.pointer (some ⟨2, 157, none⟩), .pointer (some b), .int .u64 130]]).run Tryd.prog W
      = .ok (.tuple #[]) (W.setCell ta (.iface 157 (.int .i64 k))) := by
  rw [rls]
  simp only [Sem.run_bind, partsI, partsC, Result.andThen]
  simp [ReflectliteValue.flagAddr, loadVar, isAgg, underlying, Tryd.underlying157, hb, Result.andThen, directC, implC, kindC, storeVar, Value.cells, storeCells, Addr.add]
  rw [run_store Tryd.prog W ta _ _ (by rfl)]
  simp [ht, hf]
theorem setW (ta b e : Addr) (old : Value) (W : World) (hb : W.cell? b = some (.pointer (some e))) (ht : W.cell? ta = some old) (hf : W.frozen? ta = false) :
    (ReflectliteValue.set #[.agg #[.pointer (some ⟨2, 155, none⟩), .pointer (some ta), .int .u64 404], .agg #[.pointer (some ⟨2, 107, none⟩), .pointer (some b), .int .u64 150]]).run Tryd.prog W
      = .ok (.tuple #[]) (W.setCell ta (.iface 107 (.pointer (some e)))) := by
  rw [rls]
  simp only [Sem.run_bind, partsI, partsW, Result.andThen]
  simp [ReflectliteValue.flagAddr, loadVar, isAgg, underlying, Tryd.underlying107, hb, Result.andThen, directW, implW, kindW, storeVar, Value.cells, storeCells, Addr.add]
  rw [run_store Tryd.prog W ta _ _ (by rfl)]
  simp [ht, hf]
end Go.Proofs.YtpdoihndpnpifaaDoor.Flt
