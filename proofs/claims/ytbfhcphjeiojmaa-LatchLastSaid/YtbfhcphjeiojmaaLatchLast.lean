
/- The function LatchLast returns true for every module, every slice of calls and every number. Condition: none. -/

import Derived.Test.YtbfhcphjeiojmaaRows

import Derived.Test.YtbfhcphjeiojmaaLatchLastW

import Derived.ProofKit

import Derived.OpenShut

import Derived.ShutString

import Derived.SliceStrings

import Derived.ChangeOld

import Derived.Below

namespace Go.Proofs.Ytbfhcphjeiojmaa.latchLast

open Go.ChangeShapes Go.WideShapes Go.ChangeAt Go.RowKit Go.Proofs.Ytbfhcphjeiojmaa.Args

open Go.ChangeMaps (open_string shut_string)

set_option linter.unusedVariables false

theorem own : ownKnob Try.prog.godebug = none := by kernel_rfl
theorem laidOut : laidOutB Try.prog = true := by kernel_rfl

set_option maxRecDepth 100000 in
theorem lifted (os : Os) (started : os.Started) (H : Type) (enc : TypeId × Value → H) :
    ReturnsInHanded {} Try.checked os 5 .any (Rows.latchLastSpec.pre6 enc Try.prog Try.f5 Rows.latchLastRow.domain false) (Rows.latchLastSpec.post enc Try.prog Try.f5 false true false false) := by
  refine returnsInHanded_of_change (C := Try.checked) own started (by kernel_rfl) Try.func5
    (ChangeSpec.witness6 (enc := enc) (C := Try.checked) false ⟨#[], #[.agg #[.int .u64 0, .int .i64 0, .slice none 0 0, .slice none 0 0, .slice none 0 0, .slice none 0 0], .slice none 0 0, .int .i64 0], []⟩ 8 (by kernel_rfl) (by kernel_rfl) (by kernel_rfl) (by kernel_rfl)) ?_
  intro W base args ds gs before hval0 hW hcnd _
  have hval : ∀ (j : Nat) t v, Try.f5.params[j]? = some t → args[j]? = some v → Value.okWide Try.prog W .any base t v := hval0
  have hW' := hW
  obtain ⟨p, q, hA0, hV, rfl, hfz, hnd⟩ := hW
  have hA : DataW.TrodAll enc Try.prog W 0 (fun _ => true) true Try.f5.params.toList args.toList ds p := hA0
  rw [Try.params5] at hA hval
  obtain ⟨v0, vs0, d0, ds0, p0, q0, hargs, rfl, rfl, h0, r0⟩ := trodAll_cons hA
  obtain ⟨v1, vs1, d1, ds1, p1, q1, rfl, rfl, rfl, h1, r1⟩ := trodAll_cons r0
  obtain ⟨v2, vs2, d2, ds2, p2, q2, rfl, rfl, rfl, h2, r2⟩ := trodAll_cons r1
  obtain ⟨rfl, rfl, rfl⟩ := trodAll_nil r2
  obtain rfl : args = #[v0, v1, v2] := by cases args; simp_all
  obtain ⟨rfl, rfl⟩ := trodVars_none hV
  obtain ⟨a0, rfl, z0⟩ := okWide_struct Try.underlying28 (hval 0 28 v0 rfl rfl)
  have k0 := h0
  have lt0 : ∀ x ∈ p0, x.block < W.heap.size := by obtain ⟨m, hm⟩ := k0; exact DataW.trod_lt m _ _ _ hm
  have w0 : IsMod W modK a0 := by
    obtain ⟨fuel, hf⟩ := h0
    have zz : a0.size = 6 := z0.trans (by kernel_rfl)
    refine ⟨zz, fun j k hj => ?_⟩
    obtain ⟨v, h1, h2⟩ := open_mod modK Try.underlying28 (by kernel_rfl) (by simpa [Value.cells, modK] using zz) (fun j k hj => by
      unfold modK at hj
      match j, hj with
      | 0, hj => simp at hj; subst hj; exact ⟨_, rfl, Try.underlying22⟩
      | 1, hj => simp at hj; subst hj; exact ⟨_, rfl, Try.underlying3⟩
      | 2, hj => simp at hj; subst hj; exact ⟨_, rfl, ⟨_, _, Try.underlying23, Try.underlying35, by kernel_rfl, by kernel_rfl, fun j k hj => by
        match j, hj with
        | 0, hj => simp at hj; subst hj; exact ⟨_, rfl, Try.underlying3⟩
        | 1, hj => simp at hj; subst hj; exact ⟨_, rfl, Try.underlying9⟩
        | 2, hj => simp at hj; subst hj; exact ⟨_, rfl, Try.underlying4⟩
        | 3, hj => simp at hj; subst hj; exact ⟨_, rfl, ⟨_, _, Try.underlying33, Try.underlying96, by kernel_rfl, by kernel_rfl, fun j k hj => by
          match j, hj with
          | 0, hj => simp at hj; subst hj; exact ⟨_, rfl, Try.underlying84⟩
          | 1, hj => simp at hj; subst hj; exact ⟨_, rfl, Try.underlying4⟩
          | n + 2, hj => simp at hj⟩⟩
        | n + 4, hj => simp at hj⟩⟩
      | 3, hj => simp at hj; subst hj; exact ⟨_, rfl, ⟨_, _, Try.underlying24, Try.underlying65, by kernel_rfl, by kernel_rfl, fun j k hj => by
        match j, hj with
        | 0, hj => simp at hj; subst hj; exact ⟨_, rfl, Try.underlying3⟩
        | 1, hj => simp at hj; subst hj; exact ⟨_, rfl, Try.underlying3⟩
        | 2, hj => simp at hj; subst hj; exact ⟨_, rfl, ⟨_, _, Try.underlying62, Try.underlying98, by kernel_rfl, by kernel_rfl, fun j k hj => by
          match j, hj with
          | 0, hj => simp at hj; subst hj; exact ⟨_, rfl, Try.underlying3⟩
          | 1, hj => simp at hj; subst hj; exact ⟨_, rfl, Try.underlying3⟩
          | 2, hj => simp at hj; subst hj; exact ⟨_, rfl, Try.underlying3⟩
          | n + 3, hj => simp at hj⟩⟩
        | 3, hj => simp at hj; subst hj; exact ⟨_, rfl, ⟨_, _, Try.underlying63, Try.underlying100, by kernel_rfl, by kernel_rfl, fun j k hj => by
          match j, hj with
          | 0, hj => simp at hj; subst hj; exact ⟨_, rfl, Try.underlying3⟩
          | 1, hj => simp at hj; subst hj; exact ⟨_, rfl, Try.underlying3⟩
          | 2, hj => simp at hj; subst hj; exact ⟨_, rfl, Try.underlying3⟩
          | n + 3, hj => simp at hj⟩⟩
        | n + 4, hj => simp at hj⟩⟩
      | 4, hj => simp at hj; subst hj; exact ⟨_, rfl, ⟨_, _, Try.underlying25, Try.underlying57, by kernel_rfl, by kernel_rfl, fun j k hj => by
        match j, hj with
        | 0, hj => simp at hj; subst hj; exact ⟨_, rfl, Try.underlying3⟩
        | 1, hj => simp at hj; subst hj; exact ⟨_, rfl, Try.underlying3⟩
        | n + 2, hj => simp at hj⟩⟩
      | 5, hj => simp at hj; subst hj; exact ⟨_, rfl, ⟨_, _, Try.underlying26, Try.underlying94, by kernel_rfl, by kernel_rfl, fun j k hj => by
        match j, hj with
        | 0, hj => simp at hj; subst hj; exact ⟨_, rfl, Try.underlying3⟩
        | 1, hj => simp at hj; subst hj; exact ⟨_, rfl, Try.underlying3⟩
        | 2, hj => simp at hj; subst hj; exact ⟨_, rfl, Try.underlying3⟩
        | n + 3, hj => simp at hj⟩⟩
      | n + 6, hj => simp at hj) hf j k hj
    exact ⟨v, by simpa [Value.cells] using h1, h2⟩
  obtain ⟨a1, len1, cap1, rfl⟩ := okWide_slice Try.underlying44 (hval 1 44 v1 rfl rfl)
  have k1 := h1
  have lt1 : ∀ x ∈ p1, x.block < W.heap.size := by obtain ⟨m, hm⟩ := k1; exact DataW.trod_lt m _ _ _ hm
  have w1 : IsRecs W a1 len1 cap1 [.bool, .int .i64, .int .i64, .int .u64] := by
    obtain ⟨fuel, hf⟩ := h1
    obtain ⟨a', l', c', hcs, hr⟩ := open_recs [.bool, .int .i64, .int .i64, .int .u64] Try.underlying44 Try.underlying52 (by kernel_rfl) (by kernel_rfl) (fun j k hj => by
      match j, hj with
      | 0, hj => simp at hj; subst hj; exact ⟨_, rfl, Try.underlying4⟩
      | 1, hj => simp at hj; subst hj; exact ⟨_, rfl, Try.underlying3⟩
      | 2, hj => simp at hj; subst hj; exact ⟨_, rfl, Try.underlying3⟩
      | 3, hj => simp at hj; subst hj; exact ⟨_, rfl, Try.underlying22⟩
      | n + 4, hj => simp at hj) hf
    simp [Value.cells] at hcs
    obtain ⟨rfl, rfl, rfl⟩ := hcs
    exact hr
  obtain ⟨a2, rfl, rfl, rfl, w2⟩ := open_int Try.underlying3 (hval 2 3 v2 rfl rfl) h2
  clear hA0 hval0
  refine (walk a0 a1 len1 cap1 a2 W w0 w1 w2).mono fun e W' ⟨he, bel⟩ => ?_
  subst he
  exact ⟨_, rfl, _, _, _, [], _, [], hW', trodAll_mk1 (shut_bool Try.underlying4 _), (trodAll_cons_mk (Below.trod laidOut (by kernel_rfl) (of_decide_eq_true (by kernel_rfl)) k0 bel lt0) (trodAll_cons_mk (Below.trod laidOut (by kernel_rfl) (of_decide_eq_true (by kernel_rfl)) k1 bel lt1) (trodAll_cons_mk (shut_int Try.underlying3 w2) trodAll_mk0))), rfl, bel.frame _, fun h => by cases h⟩

theorem over : Rows.latchLastRow.holds Try.pinned (OpenSpec.ofChange Rows.latchLastSpec) :=
  OpenClaim.holds_of_wide 5 Try.f5 rfl rfl rfl rfl rfl rfl rfl ⟨rfl, rfl, rfl, rfl, rfl⟩ rfl rfl rfl rfl rfl (by kernel_rfl) Try.func5 (by kernel_rfl)
    (of_decide_eq_true (by kernel_rfl)) (by unfold Func.isWrapper; first | (rw [if_pos (by decide +kernel)]; kernel_rfl) | (rw [if_neg (by decide +kernel)]; exact ⟨rfl, rfl⟩))
    (fun os started H enc _ => lifted os started H enc)

theorem proved : Rows.LatchLastSaid := over
end Go.Proofs.Ytbfhcphjeiojmaa.latchLast
