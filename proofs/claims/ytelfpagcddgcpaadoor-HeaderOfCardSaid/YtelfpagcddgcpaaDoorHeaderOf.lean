
/- The function HeaderOf returns true for every module. Condition: the package-level variables hold what the program lays in them (the card ties that). -/

import Derived.Test.YtelfpagcddgcpaaDoorRows

import Derived.Test.YtelfpagcddgcpaaDoorHeaderOfW

import Derived.ProofKit

import Derived.OpenShut

import Derived.ShutString

import Derived.SliceStrings

import Derived.ChangeOld

import Derived.Below

import Derived.Test.YtelfpagcddgcpaaDoorHdrL

import Derived.LaidMore

import Derived.Stop.Joined

namespace Go.Proofs.YtelfpagcddgcpaaDoor.headerOf

open Go.ChangeShapes Go.WideShapes Go.ChangeAt Go.RowKit Go.Proofs.YtelfpagcddgcpaaDoor.Args

open Go.ChangeMaps (open_string shut_string)

set_option linter.unusedVariables false

theorem own : ownKnob Tryd.prog.godebug = none := by kernel_rfl
theorem laidOut : laidOutB Tryd.prog = true := by kernel_rfl

/-- The heap that the program's own start leaves meets the condition. -/
theorem door_met (os : Os) (args : Array Value) : laidMetH Tryd.prog Rows.headerOfRow.laid ((World.doorLaid Tryd.prog 400 os).forCall (fun _ _ => 0) ⟨#[], args, []⟩).memory :=
  laidMetH_of_parts3 (fuel := 8) (laidMet_of_run' 8 (by kernel_rfl) (by kernel_rfl)) (by kernel_rfl) (by kernel_rfl)

set_option maxRecDepth 100000 in
theorem lifted (os : Os) (started : os.Started) (H : Type) (enc : TypeId × Value → H) :
    ReturnsInHanded {} Tryd.checked os 5 .any (fun w args => (Rows.headerOfSpec.pre enc Tryd.prog Tryd.f5 [] false w args ∧ laidMetH Tryd.prog Rows.headerOfRow.laid w) ∧ sizedMet enc Tryd.prog Tryd.f5 (OpenSpec.ofChange Rows.headerOfSpec) false w args)
      (Rows.headerOfSpec.post enc Tryd.prog Tryd.f5 false true false false) := by
  refine returnsInHanded_of_change_and (C := Tryd.checked) (X := fun w _ => laidMetH Tryd.prog Rows.headerOfRow.laid w) (fun _ _ _ hh h => h.of_heap hh) own started (by kernel_rfl) Tryd.func5
    (ChangeSpec.witness_shaped (enc := enc) (C := Tryd.checked) (os := os) (X := fun w _ => laidMetH Tryd.prog Rows.headerOfRow.laid w) false (World.doorLaid Tryd.prog 400 os) #[.agg #[.int .u64 0, .int .i64 0, .slice none 0 0, .slice none 0 0, .slice none 0 0, .slice none 0 0]] 8 rfl (World.shaped_of_RefB (by kernel_rfl) (by kernel_rfl)) (by kernel_rfl) (by kernel_rfl) (by kernel_rfl) (door_met os _)) ?_
  intro W base args ds gs before hval0 hW _ _ hL _
  have hval : ∀ (j : Nat) t v, Tryd.f5.params[j]? = some t → args[j]? = some v → Value.okWide Tryd.prog W .any base t v := hval0
  have hW' := hW
  have hn : Go.Proofs.YtelfpagcddgcpaaDoor.Hdr.Laid W := Go.Proofs.YtelfpagcddgcpaaDoor.Hdr.laid_of (Go.Proofs.YtelfpagcddgcpaaDoor.Flt.names_of_head rfl (show laidMet _ _ _ ∧ _ from hL).1) (Go.Proofs.YtelfpagcddgcpaaDoor.Hdr.few_of (by kernel_rfl) ((laidMet.tail (show laidMet _ _ _ ∧ _ from hL).1))) (Go.Proofs.YtelfpagcddgcpaaDoor.Hdr.most_of (by kernel_rfl) ((laidMet.tail (laidMet.tail (show laidMet _ _ _ ∧ _ from hL).1))))
  obtain ⟨p, q, hA0, hV, rfl, hfz, hnd⟩ := hW
  have hA : DataW.TrodAll enc Tryd.prog W 0 (fun _ => true) true Tryd.f5.params.toList args.toList ds p := hA0
  rw [Tryd.params5] at hA hval
  obtain ⟨v0, vs0, d0, ds0, p0, q0, hargs, rfl, rfl, h0, r0⟩ := trodAll_cons hA
  obtain ⟨rfl, rfl, rfl⟩ := trodAll_nil r0
  obtain rfl : args = #[v0] := by cases args; simp_all
  obtain ⟨rfl, rfl⟩ := trodVars_none hV
  obtain ⟨a0, rfl, z0⟩ := okWide_struct Tryd.underlying60 (hval 0 60 v0 rfl rfl)
  have k0 := h0
  have lt0 : ∀ x ∈ p0, x.block < W.heap.size := by obtain ⟨m, hm⟩ := k0; exact DataW.trod_lt m _ _ _ hm
  have w0 : IsAgg W [.one (.int .u64), .one (.int .i64), .sl, .sl, .sl, .sl] a0 := by
    obtain ⟨fuel, hf⟩ := h0
    have zz : a0.size = 6 := z0.trans (by kernel_rfl)
    refine ⟨zz, fun j k hj => ?_⟩
    obtain ⟨v, h1, h2⟩ := open_fields [.one (.int .u64), .one (.int .i64), .sl, .sl, .sl, .sl] Tryd.underlying60 (by kernel_rfl) (by simpa [Value.cells] using zz) (fun j k hj => by
      match j, hj with
      | 0, hj => simp at hj; subst hj; exact ⟨_, rfl, Tryd.underlying24⟩
      | 1, hj => simp at hj; subst hj; exact ⟨_, rfl, Tryd.underlying3⟩
      | 2, hj => simp at hj; subst hj; exact ⟨_, rfl, ⟨_, Tryd.underlying55⟩⟩
      | 3, hj => simp at hj; subst hj; exact ⟨_, rfl, ⟨_, Tryd.underlying56⟩⟩
      | 4, hj => simp at hj; subst hj; exact ⟨_, rfl, ⟨_, Tryd.underlying57⟩⟩
      | 5, hj => simp at hj; subst hj; exact ⟨_, rfl, ⟨_, Tryd.underlying58⟩⟩
      | n + 6, hj => simp at hj) hf j k hj
    exact ⟨v, by simpa [Value.cells] using h1, h2⟩
  clear hA0 hval0
  simp only [List.append_nil] at hW'
  refine (walk a0 W w0 hn).mono fun e W' ⟨he, bel⟩ => ?_
  subst he
  exact ⟨_, rfl, _, _, _, [], _, [], hW', trodAll_mk1 (shut_bool Tryd.underlying4 _), (trodAll_cons_mk (Below.trod laidOut (by kernel_rfl) (of_decide_eq_true (by kernel_rfl)) k0 bel lt0) trodAll_mk0), rfl, bel.frame _, fun h => by cases h⟩

theorem over : Rows.headerOfRow.holds Tryd.pinned (OpenSpec.ofChange Rows.headerOfSpec) :=
  OpenClaim.holds_of_wide 5 Tryd.f5 rfl rfl rfl rfl rfl rfl rfl ⟨rfl, rfl, rfl, rfl, rfl⟩ rfl rfl rfl rfl rfl (by kernel_rfl) Tryd.func5 (by kernel_rfl)
    (of_decide_eq_true (by kernel_rfl)) (by unfold Func.isWrapper; first | (rw [if_pos (by decide +kernel)]; kernel_rfl) | (rw [if_neg (by decide +kernel)]; exact ⟨rfl, rfl⟩))
    (fun os started H enc _ => lifted os started H enc)

theorem proved : Rows.HeaderOfSaid := over
end Go.Proofs.YtelfpagcddgcpaaDoor.headerOf
