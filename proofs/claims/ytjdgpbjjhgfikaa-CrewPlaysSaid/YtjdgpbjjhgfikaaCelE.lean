
/- Cells of a partition: whether they are as at first, whether two have the same numbers, copies. Condition: at most a thousand cells. -/

import Derived.Test.YtjdgpbjjhgfikaaCelD

namespace Go.Proofs.Ytjdgpbjjhgfikaa.Cel

open Go.RowKit Go.PlainAid Go.Proofs.Ytjdgpbjjhgfikaa.Args

set_option linter.unusedVariables false

set_option linter.unusedSimpArgs false

/-- The first k are as at first. -/
def FreshTo (fs : List C2) (ns : List Nat) (k : Nat) : Prop := ∀ j x v, j < k → fs[j]? = some x → ns[j]? = some v → x.v = v
theorem fresh_all {fs : List C2} {ns : List Nat} {n : Nat} (h1 : fs.length = n) (h2 : ns.length = n) (h : FreshTo fs ns n) : ns = fs.map C2.v := by
  apply List.ext_getElem?
  intro j
  rw [List.getElem?_map]
  rcases Nat.lt_or_ge j n with hj | hj
  · have e1 : fs[j]? = some fs[j] := List.getElem?_eq_getElem (by omega)
    have e2 : ns[j]? = some ns[j] := List.getElem?_eq_getElem (by omega)
    rw [e2, e1]
    exact congrArg some (h j _ _ hj e1 e2).symm
  · rw [List.getElem?_eq_none (by omega), List.getElem?_eq_none (by omega)]; rfl
theorem fresh_no {fs : List C2} {ns : List Nat} {k : Nat} {x : C2} {v : Nat} (h1 : fs[k]? = some x) (h2 : ns[k]? = some v) (h : x.v ≠ v) : ns ≠ fs.map C2.v := fun e => by
  have h3 : (fs.map C2.v)[k]? = some x.v := by rw [List.getElem?_map, h1]; rfl
  rw [← e, h2] at h3
  exact h (Option.some.inj h3).symm
section

variable {B : Nat} {FA : Option Addr} {fc : Nat} {fs : List C2} {A : Option Addr} {c : Nat} {ns : List Nat} {n : Nat} {wn : Int}

end

end Go.Proofs.Ytjdgpbjjhgfikaa.Cel
