
/- What errors.As does at package fault's own errors, asked for the interface by which fault looks at them: a nil error has none; a class and a wrap are found at once, and the target holds them. Conditions: the target is a variable of the call's own. What errors.As does at package fault's own errors: the target holds the error itself. Conditions: the target is a variable that can be written. -/

import Derived.Test.YtofcjkfaccdnjaaDoorProg

import Derived.WalkKit

import Derived.PlainAid

import Derived.Lib.Hide

import Derived.LaidEql

import Derived.Stop.Asserts

import Derived.RowKitTokens

import Derived.Defers

import Derived.Recover

namespace Go.Proofs.YtofcjkfaccdnjaaDoor.Flt

open Go.RowKit Go.Extern.Stop Go.Stop Go.Extern

theorem rlm (z : Sem Value) (f : TypeId → Addr → Nat → Nat → Sem Value) (v : Value) :
    ReflectliteValue.method z f #[v] = (do match ← ReflectliteValue.parts v with | none => z | some (t, a, fl) => f t a fl (fl % 32)) := rfl
theorem rls (v x : Value) : ReflectliteValue.set #[v, x] = (do
    let (some (dst, a, fl), some (src, b, _)) := (← ReflectliteValue.parts v, ← ReflectliteValue.parts x)
      | unsupported (.noEntry "extern/(internal/reflectlite.Value).Set.zeroValue")
    if fl / ReflectliteValue.flagAddr % 2 == 0 then unsupported (.noEntry "extern/(internal/reflectlite.Value).Set.unaddressable")
    let val ← loadVar src b
    if ← Rtype.directlyAssignable dst src then storeVar dst a val
    else if ← Rtype.implements dst src then
      if (← Rtype.kind src) == 20 then
        match val with
        | .nilIface => unsupported (.noEntry "extern/reflectlite: a nil value of one interface type handed on as a value of another")
        | _ => storeVar dst a val
      else storeVar dst a (.iface src val)
    else panicString ("reflectlite.Set: value of type " ++ (← Rtype.spelt src) ++ " is not assignable to type " ++ (← Rtype.spelt dst))
    pure (.tuple #[])) := rfl

-- the target: a pointer to a variable of the interface
theorem valueOfC (k : Int) (w : World) : (ReflectliteValue.unpack (.iface 101 (.int .i64 k))).run Tryd.prog w
    = .ok (.agg #[.pointer (some ⟨1, 101, none⟩), .pointer (some ⟨w.heap.size, 0, none⟩), .int .u64 130]) (w.alloc (.cells #[.int .i64 k] 101)) := by kernel_rfl
theorem partsC (a : Addr) (w : World) : (ReflectliteValue.parts (.agg #[.pointer (some ⟨1, 101, none⟩), .pointer (some a), .int .u64 130])).run Tryd.prog w = .ok (some (101, a, 130)) w := by kernel_rfl
theorem kindC (w : World) : (Rtype.kind 101).run Tryd.prog w = .ok 2 w := by kernel_rfl
-- a wrap
theorem valueOfW (p : Addr) (w : World) : (ReflectliteValue.unpack (.iface 120 (.pointer (some p)))).run Tryd.prog w
    = .ok (.agg #[.pointer (some ⟨1, 120, none⟩), .pointer (some ⟨w.heap.size, 0, none⟩), .int .u64 150]) (w.alloc (.cells #[.pointer (some p)] 120)) := by kernel_rfl
theorem partsW (a : Addr) (w : World) : (ReflectliteValue.parts (.agg #[.pointer (some ⟨1, 120, none⟩), .pointer (some a), .int .u64 150])).run Tryd.prog w = .ok (some (120, a, 150)) w := by kernel_rfl
theorem kindW (w : World) : (Rtype.kind 120).run Tryd.prog w = .ok 22 w := by kernel_rfl

end Go.Proofs.YtofcjkfaccdnjaaDoor.Flt

namespace Go.Proofs.YtofcjkfaccdnjaaDoor.Flt

open Go.RowKit Go.Extern.Stop Go.Stop Go.Extern

end Go.Proofs.YtofcjkfaccdnjaaDoor.Flt
