
/- The crew's example. No condition. -/

import Derived.Test.YtjdgpbjjhgfikaaCrD

namespace Go.Proofs.Ytjdgpbjjhgfikaa.Crw

open Go.RowKit Go.PlainAid Go.Proofs.Ytjdgpbjjhgfikaa.Args Go.Proofs.Ytjdgpbjjhgfikaa.Cel Go.Proofs.Ytjdgpbjjhgfikaa.Pt Go.Proofs.Ytjdgpbjjhgfikaa.Mpv

open Go.Proofs.Ytjdgpbjjhgfikaa.Mod (askN startN setM setS actN actM actS)

open Go.Proofs.Ytjdgpbjjhgfikaa.Srt (IA IA.kept RowI RowI.keep RowI.cell AcS AcS.kept AcS.flat row_any RwPost A3 forN)

set_option linter.unusedVariables false

set_option linter.unusedSimpArgs false

def exA : AP := ⟨⟨0, ⟨#[]⟩, false, [], 0⟩, none, 0⟩
theorem ex_at (w : World) : PAt (w.alloc (.cells #[.int .i64 0, .string ⟨#[]⟩, .bool false, .slice none 0 0] 39)) (some ⟨w.heap.size, 0, none⟩) [exA] := by
  intro i x hx
  have h := heap_alloc_new w (.cells #[.int .i64 0, .string ⟨#[]⟩, .bool false, .slice none 0 0] 39)
  cases i with
  | zero =>
    obtain rfl : exA = x := by simpa using hx
    refine ⟨_, rfl, ?_, ?_, ?_, ?_⟩
    · show World.cell? _ ⟨w.heap.size, 0, none⟩ = _; rw [cell_of_row _ _ _ _ _ _ h]; rfl
    · show World.cell? _ ⟨w.heap.size, 1, none⟩ = _; rw [cell_of_row _ _ _ _ _ _ h]; rfl
    · show World.cell? _ ⟨w.heap.size, 2, none⟩ = _; rw [cell_of_row _ _ _ _ _ _ h]; rfl
    · show World.cell? _ ⟨w.heap.size, 3, none⟩ = _; rw [cell_of_row _ _ _ _ _ _ h]; rfl
  | succ i => simp at hx
theorem ex_ok (w : World) : ∀ x ∈ [exA], x.ok w ∧ x.s.n ≤ 1000 := by
  intro x hx
  obtain rfl := List.mem_singleton.1 hx
  exact ⟨⟨fun i y hy => by simp [exA] at hy, rfl, fun _ => rfl, Nat.le_refl _, by unfold exA Mpv.I64; decide⟩, by simp [exA]⟩
def exL : List A3 := [⟨1, 0, 2⟩]
theorem ex_acts (w : World) : AcS (w.alloc (.cells #[.int .i64 1, .int .i64 0, .int .i64 2] 84)) (some ⟨w.heap.size, 0, none⟩) exL := by
  intro i x hx
  have h := heap_alloc_new w (.cells #[.int .i64 1, .int .i64 0, .int .i64 2] 84)
  cases i with
  | zero =>
    obtain rfl : (⟨1, 0, 2⟩ : A3) = x := by simpa [exL] using hx
    refine ⟨_, rfl, ?_, ?_, ?_⟩
    · show World.cell? _ ⟨w.heap.size, 0, none⟩ = _; rw [cell_of_row _ _ _ _ _ _ h]; rfl
    · show World.cell? _ ⟨w.heap.size, 1, none⟩ = _; rw [cell_of_row _ _ _ _ _ _ h]; rfl
    · show World.cell? _ ⟨w.heap.size, 2, none⟩ = _; rw [cell_of_row _ _ _ _ _ _ h]; rfl
  | succ i => simp [exL] at hx
theorem ex_one {L : List CP} (h : L.map CP.q = [exA].map AP.q) : ∃ p, L = [p] ∧ p.s = exA.s ∧ p.m = 1 ∧ p.st = 1 := by
  have hl := congrArg List.length h
  simp at hl
  obtain ⟨p, rfl⟩ := List.length_eq_one_iff.1 hl
  have e : p.q = exA.q := by simpa using h
  exact ⟨p, rfl, congrArg QS.s e, congrArg QS.m e, congrArg QS.st e⟩
theorem eq_did (a b : Int) (c : Bool) (w : World) : (Op.equalIn 10000 70 (.agg #[.int .i64 a, .int .i64 b, .bool c]) (.agg #[.int .i64 a, .int .i64 b, .bool c])).run Try.prog w = .ok true w := by
  have hS : Try.prog.underlying 70 = some (.struct (Try.prog.fieldsOf 70)) := by kernel_rfl
  rw [show (10000 : Nat) = 9999 + 1 from rfl, run_equalIn_agg w 9999 70 _ _ hS (by kernel_rfl)]
  simp only [Program.fieldsOf, Try.underlying70]
  go_simp
set_option maxRecDepth 8000 in
set_option maxHeartbeats 3200000 in
theorem awake_any (w : World) :
    Calls Try.prog 7 #[] w fun e w' => e = .returned (.bool true) ∧ Below w.heap.size w w' := by
  have hb1 : Below w.heap.size w (w.alloc (.cells #[.int .i64 0, .string ⟨#[]⟩, .bool false, .slice none 0 0] 39)) := (Below.refl _ _).alloc (Nat.le_refl _) _
  have HNW := Lib.hid (new_any (some ⟨w.heap.size, 0, none⟩) 1 [exA] _ (ex_at w) (ex_ok _) (by simp))
  have HB1 := Lib.hid hb1
  clear hb1
  go_enter Try.func7, Try.ntmps7
  go_wp2_with fail
  refine HNW.out.mono ?_
  rintro e w2 ⟨hb2, hor⟩
  have HB2 := Lib.hid (HB1.out.trans (hb2.mono HB1.out.size))
  rcases hor with ⟨-, g, mb, V, L, rfl, hiw, hq⟩ | ⟨hno, -⟩
  · obtain ⟨p, rfl, hps, hpm, hpt⟩ := ex_one hq
    have HIW := Lib.hid hiw
    have hbs : w.heap.size ≤ (w.alloc (.cells #[.int .i64 0, .string ⟨#[]⟩, .bool false, .slice none 0 0] 39)).heap.size := HB1.out.size
    clear hb2 hq hiw HB1
    have hb3 : Below w2.heap.size w2 (w2.alloc (.cells #[.int .i64 1, .int .i64 0, .int .i64 2] 84)) := (Below.refl _ _).alloc (Nat.le_refl _) _
    have hiw3 := HIW.out.keep hb3
    have HAC := Lib.hid (ex_acts w2)
    have HB3 := Lib.hid (HB2.out.trans (hb3.mono HB2.out.size))
    have HIW3 := Lib.hid hiw3
    have HPS := Lib.hid hps
    have HPH : Hid (∀ q ∈ [p], q.hi ≤ w2.heap.size) := fun q hq => (HIW.out.pt q hq).1.hs
    have HPM := Lib.hid hpm
    have HPT := Lib.hid hpt
    obtain ⟨B, hB⟩ : ∃ B, (w.alloc (.cells #[.int .i64 0, .string ⟨#[]⟩, .bool false, .slice none 0 0] 39)).heap.size = B := ⟨_, rfl⟩
    rw [hB] at HIW3 hbs
    have HBS : Hid (w.heap.size ≤ B) := hbs
    have HC1 := Lib.hid (change_any HIW3.out (by simp) (fun q hq => by obtain rfl := List.mem_singleton.1 hq; omega) (some ⟨w2.heap.size, 0, none⟩) 1 exL 1 HAC.out (fun h => (by cases h)) (by simp [exL]) (by simp [exL]))
    clear HIW hps hpm hpt hb3 hiw3 hB hbs HB2 HNW
    go_wp2_with fail
    refine HC1.out.mono ?_
    rintro e w4 ⟨G, rfl, hG4, hbr4, hiw4, hb4⟩
    have HIW4 := Lib.hid hiw4
    have HBR4 := Lib.hid hbr4
    have HB4 := Lib.hid (PR.below HB3.out hb4 HB3.out.size (fun q hq => Nat.le_trans HBS.out (HIW3.out.pt q hq).2.1))
    have hac4 : AcS w4 (some ⟨w2.heap.size, 0, none⟩) exL := acs_pr HAC.out hb4 (fun a ha q hq => by
      obtain rfl := Option.some.inj ha
      right
      exact HPH.out q hq)
    have HAC4 := Lib.hid hac4
    have HPO : Hid (∀ q ∈ ([p].map (actP (forN exL 1))), q.hi ≤ w2.heap.size) := fun q hq => by
      obtain ⟨q', hq', rfl⟩ := List.mem_map.1 hq
      exact HPH.out q' hq'
    have hid : p.s.id = 0 := by rw [HPS.out]; rfl
    have hf1 : forN exL 1 0 = 2 := by decide
    have hf2 : forN exL 2 0 = 0 := by decide
    have hst2 : ∀ q ∈ ([p].map (actP (forN exL 1))), 0 ≤ q.st ∧ q.st ≤ 1000000 := fun q hq => by
      obtain ⟨q', hq', rfl⟩ := List.mem_map.1 hq
      obtain rfl := List.mem_singleton.1 hq'
      show 0 ≤ goN (actS q'.m (forN exL 1 q'.s.id)) q'.st ∧ goN (actS q'.m (forN exL 1 q'.s.id)) q'.st ≤ 1000000
      rw [hid, hf1, HPM.out, HPT.out]
      decide
    have hd1 : [p].map (didB (forN exL 1)) = [[.int .i64 0, .int .i64 2, .bool true]] := by
      simp only [List.map_cons, List.map_nil, didB]
      rw [hid, hf1, HPM.out]
      rfl
    have hd2 : ([p].map (actP (forN exL 1))).map (didB (forN exL 2)) = [[.int .i64 0, .int .i64 0, .bool false]] := by
      simp only [List.map_cons, List.map_nil, didB, actP]
      rw [hid, hf1, hf2, HPM.out]
      rfl
    have HC2 := Lib.hid (change_any HIW4.out (by simp) hst2 (some ⟨w2.heap.size, 0, none⟩) 1 exL 2 HAC4.out (fun h => (by cases h)) (by simp [exL]) (by simp [exL]))
    rw [hd1] at HBR4
    have HD2 := Lib.hid hd2
    have HG4 : Hid (∀ q ∈ ([p].map (actP (forN exL 1))), q.off G) := fun q hq => .inr (by have := HPO.out q hq; have : w2.heap.size ≤ G := Nat.le_trans (by simp) hG4; omega)
    have HOS : Hid (∀ q ∈ ([p].map (actP (forN exL 1))), w.heap.size ≤ q.lo) := fun q hq => Nat.le_trans HBS.out (HIW4.out.pt q hq).2.1
    clear HC1 hid hf1 hf2 hst2 hd1 hd2 hG4 hbr4 hiw4 hb4 hac4 HPS HPM HPT HPH HAC HIW3 HB3
    go_wp2_with fail
    refine HC2.out.mono ?_
    rintro e w5 ⟨G2, rfl, hG5, hbr5, hiw5, hb5⟩
    have HB5 := Lib.hid (PR.below HB4.out hb5 HB4.out.size HOS.out)
    rw [HD2.out] at hbr5
    have hbr6 : BR G 70 [[.int .i64 0, .int .i64 2, .bool true]] w5 := (hb5.block G (lt_of_block HBR4.out) HG4.out).trans HBR4.out
    have a0 : w5.cell? ⟨G, 0, none⟩ = some (.int .i64 0) := by rw [cell_of_row _ _ _ _ _ _ hbr6]; rfl
    have a1 : w5.cell? ⟨G, 1, none⟩ = some (.int .i64 2) := by rw [cell_of_row _ _ _ _ _ _ hbr6]; rfl
    have a2 : w5.cell? ⟨G, 2, none⟩ = some (.bool true) := by rw [cell_of_row _ _ _ _ _ _ hbr6]; rfl
    have b0 : w5.cell? ⟨G2, 0, none⟩ = some (.int .i64 0) := by rw [cell_of_row _ _ _ _ _ _ hbr5]; rfl
    have b1 : w5.cell? ⟨G2, 1, none⟩ = some (.int .i64 0) := by rw [cell_of_row _ _ _ _ _ _ hbr5]; rfl
    have b2 : w5.cell? ⟨G2, 2, none⟩ = some (.bool false) := by rw [cell_of_row _ _ _ _ _ _ hbr5]; rfl
    have he1 : ∀ wx : World, (Op.equalIn 10000 70 (.agg #[.int .i64 0, .int .i64 2, .bool true]) (.agg #[.int .i64 0, .int .i64 2, .bool true])).run Try.prog wx = .ok true wx := eq_did 0 2 true
    have he2 : ∀ wx : World, (Op.equalIn 10000 70 (.agg #[.int .i64 0, .int .i64 0, .bool false]) (.agg #[.int .i64 0, .int .i64 0, .bool false])).run Try.prog wx = .ok true wx := eq_did 0 0 false
    have h01 : (0 : Nat) < 1 := by decide
    clear hG5 hbr5 hiw5 hb5 hbr6 HC2 HPO HG4 HOS HD2 HBR4 HIW4 HB4 HAC4
    go_wp2
    go_ret
    exact ⟨rfl, HB5.out⟩
  · exact absurd (List.pairwise_singleton _ _) hno
end Go.Proofs.Ytjdgpbjjhgfikaa.Crw
