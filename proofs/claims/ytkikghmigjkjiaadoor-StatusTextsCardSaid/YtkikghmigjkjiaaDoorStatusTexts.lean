
/- The function StatusTexts returns true for every status and every text. Condition: the package-level variables hold what the program and the library lay in them (the card ties that). -/

import Derived.Test.YtkikghmigjkjiaaDoorRows

import Derived.Test.YtkikghmigjkjiaaDoorStatusTextsW

import Derived.ProofKit

import Derived.OpenShut

import Derived.ShutString

import Derived.SliceStrings

import Derived.ChangeOld

import Derived.Below

import Derived.Test.YtkikghmigjkjiaaDoorStaM

import Derived.LaidMore

import Derived.Lay

import Derived.Stop.Joined

namespace Go.Proofs.YtkikghmigjkjiaaDoor.statusTexts

open Go.ChangeShapes Go.WideShapes Go.ChangeAt Go.RowKit Go.Proofs.YtkikghmigjkjiaaDoor.Args

open Go.ChangeMaps (open_string shut_string)

set_option linter.unusedVariables false

theorem own : ownKnob Tryd.prog.godebug = none := by kernel_rfl
theorem laidOut : laidOutB Tryd.prog = true := by kernel_rfl

noncomputable def ran (os : Os) : World := World.doorLaid Tryd.prog 1000 os
/-- A start that meets the condition: what the program's own start leaves, the pinned table laid beside. -/
noncomputable def start (os : Os) : World := (ran os).layVars Tryd.prog [("unicode/utf8.first", Go.Pinned.utf8First)]
noncomputable def others : List Nat := (List.range (ran default).heap.size).filter (· != 8)
set_option maxRecDepth 100000 in
theorem door_met (os : Os) (args : Array Value) : laidMetH Tryd.prog Rows.statusTextsRow.laid ((start os).forCall (fun _ _ => 0) ⟨#[], args, []⟩).memory :=
  laidMetH_of_parts3 (fuel := 8) (laidMet_layVars (w0 := ran os) ["unicode/utf8.first"] others (by kernel_rfl) (by kernel_rfl) (by kernel_rfl) (LaidIn.of_run _ 8 (by kernel_rfl) (by kernel_rfl) (by kernel_rfl) (by kernel_rfl))) (by kernel_rfl) (by kernel_rfl)

set_option maxRecDepth 100000 in
theorem lifted (os : Os) (started : os.Started) (H : Type) (enc : TypeId × Value → H) :
    ReturnsInHanded {} Tryd.checked os 5 .any (fun w args => (Rows.statusTextsSpec.pre enc Tryd.prog Tryd.f5 [] false w args ∧ laidMetH Tryd.prog Rows.statusTextsRow.laid w) ∧ sizedMet enc Tryd.prog Tryd.f5 (OpenSpec.ofChange Rows.statusTextsSpec) false w args)
      (Rows.statusTextsSpec.post enc Tryd.prog Tryd.f5 false true false false) := by
  refine returnsInHanded_of_change_and (C := Tryd.checked) (X := fun w _ => laidMetH Tryd.prog Rows.statusTextsRow.laid w) (fun _ _ _ hh h => h.of_heap hh) own started (by kernel_rfl) Tryd.func5
    (ChangeSpec.witness_shaped (enc := enc) (C := Tryd.checked) (os := os) (X := fun w _ => laidMetH Tryd.prog Rows.statusTextsRow.laid w) false (start os) #[.agg #[.int .u64 0, .int .i64 0, .int .i64 0], .string ByteArray.empty] 8 (World.layVars_os _ _ _) (World.shaped_of_ZipB (by kernel_rfl) (by kernel_rfl)) (by kernel_rfl) (by kernel_rfl) (by kernel_rfl) (door_met os _)) ?_
  intro W base args ds gs before hval0 hW _ _ hL _
  have hval : ∀ (j : Nat) t v, Tryd.f5.params[j]? = some t → args[j]? = some v → Value.okWide Tryd.prog W .any base t v := hval0
  have hW' := hW
  have hn : Go.Proofs.YtkikghmigjkjiaaDoor.Flt.Names W ∧ Go.Proofs.YtkikghmigjkjiaaDoor.Sta.Tab W ∧ Go.Proofs.YtkikghmigjkjiaaDoor.Sta.Errs W := ⟨Go.Proofs.YtkikghmigjkjiaaDoor.Flt.names_of_head rfl (laidMet.tail (laidMet.tail (laidMet.tail (laidMet.tail (laidMet.tail (laidMet.tail (show laidMet _ _ _ ∧ _ from hL).1)))))), Go.Proofs.YtkikghmigjkjiaaDoor.Sta.tab_of (by kernel_rfl) ((laidMet.tail (laidMet.tail (show laidMet _ _ _ ∧ _ from hL).1))), Go.Proofs.YtkikghmigjkjiaaDoor.Sta.errs_of (by rfl) (by rfl) ((laidMet.tail (laidMet.tail (laidMet.tail (laidMet.tail (laidMet.tail (show laidMet _ _ _ ∧ _ from hL).1)))))) ((laidMet.tail (laidMet.tail (laidMet.tail (laidMet.tail (show laidMet _ _ _ ∧ _ from hL).1)))))⟩
  obtain ⟨p, q, hA0, hV, rfl, hfz, hnd⟩ := hW
  have hA : DataW.TrodAll enc Tryd.prog W 0 (fun _ => true) true Tryd.f5.params.toList args.toList ds p := hA0
  rw [Tryd.params5] at hA hval
  obtain ⟨v0, vs0, d0, ds0, p0, q0, hargs, rfl, rfl, h0, r0⟩ := trodAll_cons hA
  obtain ⟨v1, vs1, d1, ds1, p1, q1, rfl, rfl, rfl, h1, r1⟩ := trodAll_cons r0
  obtain ⟨rfl, rfl, rfl⟩ := trodAll_nil r1
  obtain rfl : args = #[v0, v1] := by cases args; simp_all
  obtain ⟨rfl, rfl⟩ := trodVars_none hV
  obtain ⟨a0, rfl, z0⟩ := okWide_struct Tryd.underlying25 (hval 0 25 v0 rfl rfl)
  have k0 := h0
  have lt0 : ∀ x ∈ p0, x.block < W.heap.size := by obtain ⟨m, hm⟩ := k0; exact DataW.trod_lt m _ _ _ hm
  have w0 : IsAgg W [.one (.int .u64), .one (.int .i64), .one (.int .i64)] a0 := by
    obtain ⟨fuel, hf⟩ := h0
    have zz : a0.size = 3 := z0.trans (by kernel_rfl)
    refine ⟨zz, fun j k hj => ?_⟩
    obtain ⟨v, h1, h2⟩ := open_fields [.one (.int .u64), .one (.int .i64), .one (.int .i64)] Tryd.underlying25 (by kernel_rfl) (by simpa [Value.cells] using zz) (fun j k hj => by
      match j, hj with
      | 0, hj => simp at hj; subst hj; exact ⟨_, rfl, Tryd.underlying23⟩
      | 1, hj => simp at hj; subst hj; exact ⟨_, rfl, Tryd.underlying3⟩
      | 2, hj => simp at hj; subst hj; exact ⟨_, rfl, Tryd.underlying3⟩
      | n + 3, hj => simp at hj) hf j k hj
    exact ⟨v, by simpa [Value.cells] using h1, h2⟩
  obtain ⟨a1, rfl, rfl, rfl, w1⟩ := open_string Tryd.underlying9 (hval 1 9 v1 rfl rfl) h1
  clear hA0 hval0
  simp only [List.append_nil] at hW'
  refine (walk a0 a1 W w0 w1 hn).mono fun e W' ⟨he, bel⟩ => ?_
  subst he
  exact ⟨_, rfl, _, _, _, [], _, [], hW', trodAll_mk1 (shut_bool Tryd.underlying4 _), (trodAll_cons_mk (Below.trod laidOut (by kernel_rfl) (of_decide_eq_true (by kernel_rfl)) k0 bel lt0) (trodAll_cons_mk (shut_string Tryd.underlying9 w1) trodAll_mk0)), rfl, bel.frame _, fun h => by cases h⟩

theorem over : Rows.statusTextsRow.holds Tryd.pinned (OpenSpec.ofChange Rows.statusTextsSpec) :=
  OpenClaim.holds_of_wide 5 Tryd.f5 rfl rfl rfl rfl rfl rfl rfl ⟨rfl, rfl, rfl, rfl, rfl⟩ rfl rfl rfl rfl rfl (by kernel_rfl) Tryd.func5 (by kernel_rfl)
    (of_decide_eq_true (by kernel_rfl)) (by unfold Func.isWrapper; first | (rw [if_pos (by decide +kernel)]; kernel_rfl) | (rw [if_neg (by decide +kernel)]; exact ⟨rfl, rfl⟩))
    (fun os started H enc _ => lifted os started H enc)

theorem proved : Rows.StatusTextsSaid := over
end Go.Proofs.YtkikghmigjkjiaaDoor.statusTexts
