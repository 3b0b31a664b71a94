
/- Rows of acts that grow; acts of no schedule. Condition: none. -/

import Derived.Test.YtjdgpbjjhgfikaaCrH

namespace Go.Proofs.Ytjdgpbjjhgfikaa.Crw

open Go.RowKit Go.PlainAid Go.Proofs.Ytjdgpbjjhgfikaa.Args Go.Proofs.Ytjdgpbjjhgfikaa.Cel Go.Proofs.Ytjdgpbjjhgfikaa.Pt Go.Proofs.Ytjdgpbjjhgfikaa.Mpv

open Go.Proofs.Ytjdgpbjjhgfikaa.Mod (askN startN setM setS actN actM actS)

open Go.Proofs.Ytjdgpbjjhgfikaa.Srt (IA IA.kept RowI AcS AcS.kept A3 forN flatA flatA_len flatA_get actL add_two)

set_option linter.unusedVariables false

set_option linter.unusedSimpArgs false

theorem infoAct : (Try.prog.info? 84).map (fun i => (i.zero, i.size, i.bytes)) = some (some (.agg #[.int .i64 0, .int .i64 0, .int .i64 0]), 3, 24) := by kernel_rfl
/-- A row of acts of the call's own. -/
theorem acs_own {w : World} {B n c : Nat} {A : Option Addr} {l : List A3} (h : w.ownsRow B 84 3 (.slice A n c) n (flatA l)) (hl : l.length = n) : AcS w A l ∧ (A = none → c = 0) ∧ n ≤ c := by
  rcases h.2 with ⟨h0, h1⟩ | ⟨g, c', cur, h0, hg1, hg2, hg3, hg4, hg5⟩
  · injection h0 with h2 h3 h4
    subst h2 h1 h4
    exact ⟨fun i x hx => by have := (List.getElem?_eq_some_iff.1 hx).1; omega, fun _ => rfl, Nat.le_refl _⟩
  · injection h0 with h2 h3 h4
    subst h2 h4
    refine ⟨fun i x hx => ⟨_, rfl, ?_⟩, (fun h => by cases h), hg3⟩
    have hi := (List.getElem?_eq_some_iff.1 hx).1
    have hg : ∀ r, r < 3 → (flatA l)[i * 3 + r]? = (actL x)[r]? := fun r hr => by
      have := flatA_get l i x hx [] r hr
      rw [List.append_nil] at this
      exact this
    have e : ∀ r, r < 3 → w.cell? ⟨g, i * 3 + r, none⟩ = (actL x)[r]? := fun r hr => (h.cellAt (i * 3 + r) (by omega)).trans (hg r hr)
    rw [add_blk]
    exact ⟨(e 0 (by omega)).trans rfl, (e 1 (by omega)).trans rfl, (e 2 (by omega)).trans rfl⟩
/-- The acts of other schedules. -/
def othL (s : Int) (l : List A3) : List A3 := l.filter fun x => !(x.s == s)
theorem oth_for (s p : Int) : ∀ l : List A3, forN (othL s l) s p = 0
  | [] => rfl
  | x :: l => by
    unfold othL
    rw [List.filter_cons]
    split
    · rename_i h
      have hx : ¬ x.s = s := by simpa using h
      have ih := oth_for s p l
      unfold othL at ih
      have hstep := Srt.forN_step (l := x :: l.filter fun x => !(x.s == s)) (k := 0) (x := x) rfl s p
      rw [List.drop_zero, if_neg (by simp [hx])] at hstep
      exact hstep.trans ih
    · exact oth_for s p l
theorem act_none (p : CP) : actP (fun _ => 0) p = p := by
  have hm : actM p.m 0 = p.m := by unfold actM; split <;> simp
  have hs : actS p.m 0 = 0 := by unfold actS; split <;> simp
  unfold actP
  simp only [hm, hs]
  rfl
theorem did_none (p : CP) : didB (fun _ => 0) p = [.int .i64 p.s.id, .int .i64 0, .bool false] := by
  have hs : actS p.m 0 = 0 := by unfold actS; split <;> simp
  unfold didB
  rw [hs]
  rfl
end Go.Proofs.Ytjdgpbjjhgfikaa.Crw
