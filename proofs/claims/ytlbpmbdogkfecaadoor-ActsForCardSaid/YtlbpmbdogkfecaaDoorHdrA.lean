
/- What package header tells of counts and of headers, and what the document tells of them. Condition: the variables hold what the program lays there. -/

import Derived.Test.YtlbpmbdogkfecaaDoorRdrC

import Derived.Test.YtlbpmbdogkfecaaDoorArgs

import Derived.Lib.LaidTab

namespace Go.Proofs.YtlbpmbdogkfecaaDoor.Hdr

open Go.RowKit Go.PlainAid Go.Proofs.YtlbpmbdogkfecaaDoor.Oct Go.Proofs.YtlbpmbdogkfecaaDoor.Flt Go.Proofs.YtlbpmbdogkfecaaDoor.Rdr

set_option linter.unusedVariables false

def fewL : List Int := [1, 1, 0, 0]
def mostL : List Int := [32, 16, 240, 512]
theorem cell_of_heap {w w' : World} {g : Nat} (i : Nat) (h : w'.heap[g]? = w.heap[g]?) : w'.cell? ⟨g, i, none⟩ = w.cell? ⟨g, i, none⟩ := by simp [World.cell?, h]
/-- May there be n of what is counted at place i? -/
def fineB (i : Nat) (n : Int) : Bool := decide (fewL.getD i 0 ≤ n) && decide (n ≤ mostL.getD i 0)
/-- A header: its fields. -/
structure H7 where
  tot : Nat
  ep : Nat
  fi : Int
  a : Int
  b : Int
  c : Int
  d : Int
def hdC (h : H7) : Array Value := #[.int .u32 h.tot, .int .u64 h.ep, .int .i64 h.fi, .int .i64 h.a, .int .i64 h.b, .int .i64 h.c, .int .i64 h.d]
/-- What is wrong with a header, and where: its class (0: nothing), its place. -/
def bad (h : H7) : Nat × Int :=
  if h.fi < 0 ∨ 255 < h.fi then (18, 0) else if fineB 0 h.a = false then (8, 1) else if fineB 1 h.b = false then (8, 2) else if fineB 2 h.c = false then (8, 3) else if fineB 3 h.d = false then (8, 4) else (0, 0)
def sec1 (k : Nat) : Int := if k = 0 then 0 else 1
def I64 (n : Int) : Prop := -9223372036854775808 ≤ n ∧ n ≤ 9223372036854775807
/-- A header whose numbers fit their fields. -/
structure Fit (h : H7) : Prop where
  tot : h.tot ≤ 4294967295
  ep : h.ep ≤ 18446744073709551615
  fi : I64 h.fi
  a : I64 h.a
  b : I64 h.b
  c : I64 h.c
  d : I64 h.d
def cntL (h : H7) : List Int := [h.a, h.b, h.c, h.d]
def RtPost (h : H7) (w : World) (e : Ending) (w' : World) : Prop := ∃ x, e = .returned x ∧ Wrong w' x (bad h).1 (sec1 (bad h).1) (bad h).2 ∧ Below w.heap.size w w'
end Go.Proofs.YtlbpmbdogkfecaaDoor.Hdr
