
/- Out of what a row lists: that strconv's two errors are errors. No condition but that they are listed so. -/

import Derived.Test.YtkikghmigjkjiaaDoorStaL

import Derived.Test.YtkikghmigjkjiaaDoorStaG

namespace Go.Proofs.YtkikghmigjkjiaaDoor.Sta

open Go.RowKit

theorem gSyn : Tryd.prog.globalNamed "strconv.ErrSyntax" = some 3 := by kernel_rfl
theorem gRan : Tryd.prog.globalNamed "strconv.ErrRange" = some 4 := by kernel_rfl
theorem tSyn : (Tryd.prog.globals[3]?).map (·.type) = some 28 := by kernel_rfl
theorem tRan : (Tryd.prog.globals[4]?).map (·.type) = some 28 := by kernel_rfl
theorem star_es : "*" ++ "errors.errorString" = "*errors.errorString" := by decide
theorem names_es : ∀ u, Tryd.prog.typeName? 3 u = some "*errors.errorString" → u = 139 := by
  intro u h
  exact typeName_ptr_named (nm := "errors.errorString") (by rw [star_es]; kernel_rfl) (by kernel_rfl) (by decide) u (by rw [star_es]; exact h)
theorem errs_of {D E : DataW Unit} {rest rest' : List (String × DataW Unit)} {W : World} {t1 t2 : List UInt8} (hD : D = .iface "*errors.errorString" (.ptr (.agg [.lit (.string t1)]))) (hE : E = .iface "*errors.errorString" (.ptr (.agg [.lit (.string t2)])))
    (h : laidMet Tryd.prog (("strconv.ErrSyntax", D) :: rest) W) (k : laidMet Tryd.prog (("strconv.ErrRange", E) :: rest') W) : Errs W := by
  subst hD hE
  obtain ⟨a, s, h1, _⟩ := laid_sentinel h gSyn tSyn Tryd.underlying28 names_es Tryd.underlying139 Tryd.underlying141 rfl rfl Tryd.underlying9 (by kernel_rfl) (by kernel_rfl)
  obtain ⟨b, u, k1, _⟩ := laid_sentinel k gRan tRan Tryd.underlying28 names_es Tryd.underlying139 Tryd.underlying141 rfl rfl Tryd.underlying9 (by kernel_rfl) (by kernel_rfl)
  exact ⟨_, _, h1, k1⟩
end Go.Proofs.YtkikghmigjkjiaaDoor.Sta
