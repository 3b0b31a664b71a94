/- The function CheckTexts returns true for every module. Condition: the package-level variables hold what the program lays in them (the card ties that). -/
import Derived.Test.YtmcmmbkodllpkaaGreatDoorRows
import Derived.Test.YtmcmmbkodllpkaaGreatDoorMh04
import Derived.ProofKit
import Derived.OpenShut
import Derived.ShutString
import Derived.SliceStrings
import Derived.ChangeOld
import Derived.Below
import Derived.LaidMore
import Derived.Stop.Joined
namespace Go.Proofs.YtmcmmbkodllpkaaGreatDoor.checkTexts

open Go.ChangeShapes Go.WideShapes Go.ChangeAt Go.RowKit Go.Proofs.YtmcmmbkodllpkaaGreatDoor.Args

open Go.ChangeMaps (open_string shut_string)

set_option linter.unusedVariables false

theorem own : ownKnob Tryz.prog.godebug = none := by kernel_rfl
theorem laidOut : laidOutB Tryz.prog = true := by kernel_rfl

/-- The heap that the program's own start leaves meets the condition. -/
theorem door_met (os : Os) (args : Array Value) : laidMetH Tryz.prog Rows.checkTextsRow.laid ((World.doorLaid Tryz.prog 400 os).forCall (fun _ _ => 0) ⟨#[], args, []⟩).memory :=
  laidMetH_of_parts3 (fuel := 8) (laidMet_of_run' 8 (by kernel_rfl) (by kernel_rfl)) (by kernel_rfl) (by kernel_rfl)

set_option maxRecDepth 100000 in
theorem lifted (os : Os) (started : os.Started) (H : Type) (enc : TypeId × Value → H) :
    ReturnsInHanded {} Tryz.checked os 4 .any (fun w args => (Rows.checkTextsSpec.pre enc Tryz.prog Tryz.f4 [] false w args ∧ laidMetH Tryz.prog Rows.checkTextsRow.laid w) ∧ sizedMet enc Tryz.prog Tryz.f4 (OpenSpec.ofChange Rows.checkTextsSpec) false w args)
      (Rows.checkTextsSpec.post enc Tryz.prog Tryz.f4 false true false false) := by
  refine returnsInHanded_of_change_and (C := Tryz.checked) (X := fun w _ => laidMetH Tryz.prog Rows.checkTextsRow.laid w) (fun _ _ _ hh h => h.of_heap hh) own started (by kernel_rfl) Tryz.func4
    (ChangeSpec.witness_shaped (enc := enc) (C := Tryz.checked) (os := os) (X := fun w _ => laidMetH Tryz.prog Rows.checkTextsRow.laid w) false (World.doorLaid Tryz.prog 400 os) #[.agg #[.int .u64 0, .int .i64 0, .slice none 0 0, .slice none 0 0, .slice none 0 0, .slice none 0 0]] 8 rfl (World.shaped_of_RefB (by kernel_rfl) (by kernel_rfl)) (by kernel_rfl) (by kernel_rfl) (by kernel_rfl) (door_met os _)) ?_
  intro W base args ds gs before hval0 hW _ _ hL _
  have hval : ∀ (j : Nat) t v, Tryz.f4.params[j]? = some t → args[j]? = some v → Value.okWide Tryz.prog W .any base t v := hval0
  have hW' := hW
  have hn : Go.Proofs.YtmcmmbkodllpkaaGreatDoor.Flt.Names W ∧ Go.Proofs.YtmcmmbkodllpkaaGreatDoor.Nam.Tab W := ⟨Go.Proofs.YtmcmmbkodllpkaaGreatDoor.Flt.names_of_head rfl (laidMet.tail (laidMet.tail (laidMet.tail (show laidMet _ _ _ ∧ _ from hL).1))), Go.Proofs.YtmcmmbkodllpkaaGreatDoor.Nam.tab_of (by kernel_rfl) ((laidMet.tail (laidMet.tail (show laidMet _ _ _ ∧ _ from hL).1)))⟩
  obtain ⟨p, q, hA0, hV, rfl, hfz, hnd⟩ := hW
  have hA : DataW.TrodAll enc Tryz.prog W 0 (fun _ => true) true Tryz.f4.params.toList args.toList ds p := hA0
  rw [Tryz.params4] at hA hval
  obtain ⟨v0, vs0, d0, ds0, p0, q0, hargs, rfl, rfl, h0, r0⟩ := trodAll_cons hA
  obtain ⟨rfl, rfl, rfl⟩ := trodAll_nil r0
  obtain rfl : args = #[v0] := by cases args; simp_all
  obtain ⟨rfl, rfl⟩ := trodVars_none hV
  obtain ⟨a0, rfl, z0⟩ := okWide_struct Tryz.underlying28 (hval 0 28 v0 rfl rfl)
  have k0 := h0
  have lt0 : ∀ x ∈ p0, x.block < W.heap.size := by obtain ⟨m, hm⟩ := k0; exact DataW.trod_lt m _ _ _ hm
  have w0 : IsMod W modK a0 := by
    obtain ⟨fuel, hf⟩ := h0
    have zz : a0.size = 6 := z0.trans (by kernel_rfl)
    refine ⟨zz, fun j k hj => ?_⟩
    obtain ⟨v, h1, h2⟩ := open_mod modK Tryz.underlying28 (by kernel_rfl) (by simpa [Value.cells, modK] using zz) (fun j k hj => by
      unfold modK at hj
      match j, hj with
      | 0, hj => simp at hj; subst hj; exact ⟨_, rfl, Tryz.underlying22⟩
      | 1, hj => simp at hj; subst hj; exact ⟨_, rfl, Tryz.underlying3⟩
      | 2, hj => simp at hj; subst hj; exact ⟨_, rfl, ⟨_, _, Tryz.underlying23, Tryz.underlying52, by kernel_rfl, by kernel_rfl, fun j k hj => by
        match j, hj with
        | 0, hj => simp at hj; subst hj; exact ⟨_, rfl, Tryz.underlying3⟩
        | 1, hj => simp at hj; subst hj; exact ⟨_, rfl, Tryz.underlying9⟩
        | 2, hj => simp at hj; subst hj; exact ⟨_, rfl, Tryz.underlying4⟩
        | 3, hj => simp at hj; subst hj; exact ⟨_, rfl, ⟨_, _, Tryz.underlying50, Tryz.underlying230, by kernel_rfl, by kernel_rfl, fun j k hj => by
          match j, hj with
          | 0, hj => simp at hj; subst hj; exact ⟨_, rfl, Tryz.underlying184⟩
          | 1, hj => simp at hj; subst hj; exact ⟨_, rfl, Tryz.underlying4⟩
          | n + 2, hj => simp at hj⟩⟩
        | n + 4, hj => simp at hj⟩⟩
      | 3, hj => simp at hj; subst hj; exact ⟨_, rfl, ⟨_, _, Tryz.underlying24, Tryz.underlying49, by kernel_rfl, by kernel_rfl, fun j k hj => by
        match j, hj with
        | 0, hj => simp at hj; subst hj; exact ⟨_, rfl, Tryz.underlying3⟩
        | 1, hj => simp at hj; subst hj; exact ⟨_, rfl, Tryz.underlying3⟩
        | 2, hj => simp at hj; subst hj; exact ⟨_, rfl, ⟨_, _, Tryz.underlying46, Tryz.underlying97, by kernel_rfl, by kernel_rfl, fun j k hj => by
          match j, hj with
          | 0, hj => simp at hj; subst hj; exact ⟨_, rfl, Tryz.underlying3⟩
          | 1, hj => simp at hj; subst hj; exact ⟨_, rfl, Tryz.underlying3⟩
          | 2, hj => simp at hj; subst hj; exact ⟨_, rfl, Tryz.underlying3⟩
          | n + 3, hj => simp at hj⟩⟩
        | 3, hj => simp at hj; subst hj; exact ⟨_, rfl, ⟨_, _, Tryz.underlying47, Tryz.underlying99, by kernel_rfl, by kernel_rfl, fun j k hj => by
          match j, hj with
          | 0, hj => simp at hj; subst hj; exact ⟨_, rfl, Tryz.underlying3⟩
          | 1, hj => simp at hj; subst hj; exact ⟨_, rfl, Tryz.underlying3⟩
          | 2, hj => simp at hj; subst hj; exact ⟨_, rfl, Tryz.underlying3⟩
          | n + 3, hj => simp at hj⟩⟩
        | n + 4, hj => simp at hj⟩⟩
      | 4, hj => simp at hj; subst hj; exact ⟨_, rfl, ⟨_, _, Tryz.underlying25, Tryz.underlying86, by kernel_rfl, by kernel_rfl, fun j k hj => by
        match j, hj with
        | 0, hj => simp at hj; subst hj; exact ⟨_, rfl, Tryz.underlying3⟩
        | 1, hj => simp at hj; subst hj; exact ⟨_, rfl, Tryz.underlying3⟩
        | n + 2, hj => simp at hj⟩⟩
      | 5, hj => simp at hj; subst hj; exact ⟨_, rfl, ⟨_, _, Tryz.underlying26, Tryz.underlying63, by kernel_rfl, by kernel_rfl, fun j k hj => by
        match j, hj with
        | 0, hj => simp at hj; subst hj; exact ⟨_, rfl, Tryz.underlying3⟩
        | 1, hj => simp at hj; subst hj; exact ⟨_, rfl, Tryz.underlying3⟩
        | 2, hj => simp at hj; subst hj; exact ⟨_, rfl, Tryz.underlying3⟩
        | n + 3, hj => simp at hj⟩⟩
      | n + 6, hj => simp at hj) hf j k hj
    exact ⟨v, by simpa [Value.cells] using h1, h2⟩
  clear hA0 hval0
  simp only [List.append_nil] at hW'
  refine (walk a0 W w0 hn).mono fun e W' ⟨he, bel⟩ => ?_
  subst he
  exact ⟨_, rfl, _, _, _, [], _, [], hW', trodAll_mk1 (shut_bool Tryz.underlying4 _), (trodAll_cons_mk (Below.trod laidOut (by kernel_rfl) (of_decide_eq_true (by kernel_rfl)) k0 bel lt0) trodAll_mk0), rfl, bel.frame _, fun h => by cases h⟩

theorem over : Rows.checkTextsRow.holds Tryz.pinned (OpenSpec.ofChange Rows.checkTextsSpec) :=
  OpenClaim.holds_of_wide 4 Tryz.f4 rfl rfl rfl rfl rfl rfl rfl ⟨rfl, rfl, rfl, rfl, rfl⟩ rfl rfl rfl rfl rfl (by kernel_rfl) Tryz.func4 (by kernel_rfl)
    (of_decide_eq_true (by kernel_rfl)) (by unfold Func.isWrapper; first | (rw [if_pos (by decide +kernel)]; kernel_rfl) | (rw [if_neg (by decide +kernel)]; exact ⟨rfl, rfl⟩))
    (fun os started H enc _ => lifted os started H enc)

theorem proved : Rows.CheckTextsSaid := over
end Go.Proofs.YtmcmmbkodllpkaaGreatDoor.checkTexts
