/- Plans: what the document says of a plan and what the program tells of it are one; a plan's schedule is right. Condition: at most 4,096 ticks. -/
import Derived.Test.YtpjillclladjaaaDoorMg39
import Derived.Test.YtpjillclladjaaaDoorMg47
import Derived.Test.YtpjillclladjaaaDoorMg31
namespace Go.Proofs.YtpjillclladjaaaDoor.Pln

open Go.RowKit Go.PlainAid Go.Proofs.YtpjillclladjaaaDoor.Oct Go.Proofs.YtpjillclladjaaaDoor.Flt Go.Proofs.YtpjillclladjaaaDoor.Rdr Go.Proofs.YtpjillclladjaaaDoor.Args Go.Proofs.YtpjillclladjaaaDoor.Nee Go.Proofs.YtpjillclladjaaaDoor.Win

open Go.Proofs.YtpjillclladjaaaDoor.Act (A3 ActsAt I64 Wide)

set_option linter.unusedVariables false

set_option linter.unusedSimpArgs false

theorem chkP_ix (fr : Int) : ∀ (l : List A3) (last : Int) (i : Nat), 0 ≤ (chkP fr last i l).2
  | [], _, _ => Int.le_refl _
  | x :: r, last, i => by
    unfold chkP
    split
    · exact chkP_ix fr r x.s (i + 1)
    · dsimp only; omega
theorem mk_wrong {fr : Int} {l : List A3} (h : ¬ (wrP fr l).1 = 0) : (mkW fr l).1 = (wrP fr l).1 ∧ secOf (mkW fr l).2 = 0 ∧ atOf (mkW fr l).2 = max (wrP fr l).2 0 ∧ (mkW fr l).2.length ≤ 1000000 ∧ 1 ≤ (wrP fr l).1 ∧ (wrP fr l).1 ≤ 18 := by
  unfold wrP at h ⊢
  unfold mkW
  by_cases c : fr < 1 ∨ 4096 < fr
  · rw [if_pos c, if_pos c]
    exact ⟨rfl, rfl, rfl, by simp, by decide, by decide⟩
  · rw [if_neg c] at h
    rw [if_neg c, if_neg c, if_pos h]
    have h1 := chkP_ix fr l (-1) 0
    have h2 : ∀ (l : List A3) (last : Int) (i : Nat), (chkP fr last i l).1 ≤ 18 := by
      intro l
      induction l with
      | nil => intro _ _; exact Nat.zero_le _
      | cons x r ih =>
        intro last i
        unfold chkP
        split
        · exact ih _ _
        · exact bad1P_le _ _ _
    refine ⟨rfl, rfl, ?_, by simp, by omega, h2 _ _ _⟩
    show (chkP fr (-1) 0 l).2 = _
    omega
theorem wr_frame {fr : Int} {l : List A3} (h : (wrP fr l).1 = 0) : (1 ≤ fr ∧ fr ≤ 4096) ∧ (chkP fr (-1) 0 l).1 = 0 := by
  unfold wrP at h
  by_cases c : fr < 1 ∨ 4096 < fr
  · rw [if_pos c] at h; cases h
  · rw [if_neg c] at h
    exact ⟨by omega, h⟩
theorem mk_else {fr : Int} {l : List A3} (h : (wrP fr l).1 = 0) : mkW fr l = if 0 ≤ flR l fr.toNat then (14, [(false, flR l fr.toNat)]) else (0, []) := by
  obtain ⟨h1, h2⟩ := wr_frame h
  unfold mkW
  rw [if_neg (by omega), if_neg (by rw [h2]; simp)]
theorem fl_ge (l : List A3) : ∀ t, -1 ≤ flR l t
  | 0 => Int.le_refl _
  | t + 1 => by
    unfold flR
    split
    · omega
    · unfold lateR
      rcases lt_range l t (runR l (t + 1)).1 l.length with ⟨e, _⟩ | ⟨m, _, e, _⟩
      · rw [e]; exact Int.le_refl _
      · rw [e]; omega
theorem eq_need (a b c : Int) (w : World) : (Op.equalIn 10000 44 (.agg #[.int .i64 a, .int .i64 b, .int .i64 c]) (.agg #[.int .i64 a, .int .i64 b, .int .i64 c])).run Tryd.prog w = .ok true w := by
  have hS : Tryd.prog.underlying 44 = some (.struct (Tryd.prog.fieldsOf 44)) := by kernel_rfl
  rw [show (10000 : Nat) = 9999 + 1 from rfl, run_equalIn_agg w 9999 44 _ _ hS (by kernel_rfl)]
  simp only [Program.fieldsOf, Tryd.underlying44]
  go_simp
/-- Whose ticks of a plan are: of the needs' ids, or nobody's. -/
theorem run_ids (l : List A3) : ∀ (t j : Nat), j < t → vz (runR l t).2 j = -1 ∨ ∃ k, k < l.length ∧ vz (runR l t).2 j = (nd l k).s
  | 0, j, h => by omega
  | t + 1, j, h => by
    have hr : (runR l (t + 1)).2 = (runR l t).2 ++ [idR l (bestR l t (runR l t).1)] := rfl
    have hl := run_len l t
    rcases Nat.lt_or_ge j t with h1 | h1
    · have e : vz (runR l (t + 1)).2 j = vz (runR l t).2 j := by
        unfold vz
        rw [hr, List.getElem?_append_left (by omega)]
      rw [e]
      exact run_ids l t j h1
    · obtain rfl : j = t := by omega
      have e : vz (runR l (j + 1)).2 j = idR l (bestR l j (runR l j).1) := by
        unfold vz
        rw [hr, List.getElem?_append_right (by omega), hl, Nat.sub_self]; rfl
      rw [e]
      rcases bst_range l j (begR l j (runR l j).1) l.length with e2 | ⟨m, hm, e2⟩
      · left
        have e3 : bestR l j (runR l j).1 = -1 := e2
        rw [e3]; unfold idR; rw [if_pos (by omega)]
      · right
        have e3 : bestR l j (runR l j).1 = (m : Int) := e2
        refine ⟨m, hm, ?_⟩
        rw [e3]; unfold idR; rw [if_neg (by omega)]; rfl
def idsN (l : List A3) (k : Nat) : List Int := (List.range k).map fun j => (nd l j).s
theorem idsN_len (l : List A3) (k : Nat) : (idsN l k).length = k := by simp [idsN]
theorem idsN_snoc (l : List A3) (k : Nat) : idsN l (k + 1) = idsN l k ++ [(nd l k).s] := by
  unfold idsN
  rw [List.range_succ, List.map_append]; rfl
theorem idsN_mem (l : List A3) {j k : Nat} (h : j < k) : memB (idsN l k) (nd l j).s = true := by
  unfold memB idsN
  exact decide_eq_true (List.mem_map.2 ⟨j, List.mem_range.2 h, rfl⟩)
theorem plan_chk (l : List A3) (F : Nat) (hF : F ≤ 4096) : chkW (idsN l l.length) (F : Int) ⟨0, 0, 0⟩ 0 (winsL (runR l F).2) = (0, 0) := by
  have hl := run_len l F
  have h := wins_chk (runR l F).2 (by omega) (idsN l l.length) (fun j hj hne => by
    rw [hl] at hj
    rcases run_ids l F j hj with h1 | ⟨k, hk, h1⟩
    · exact absurd h1 hne
    · rw [h1]; exact idsN_mem l hk)
  rw [hl] at h
  exact h
theorem plan_need (l : List A3) (F : Nat) (hF : 1 ≤ F ∧ F ≤ 4096) (h : (chkP (F : Int) (-1) 0 l).1 = 0) (hfl : flR l F = -1) : chkN (idsN l l.length) (runR l F).2 F ⟨0, 0, 0⟩ 0 l = (0, 0) := by
  obtain ⟨hper, hids, hdiv⟩ := perOk_of (fr := (F : Int)) (by omega) h
  have hpw := (chkP_ok (F : Int) l (-1) 0 h).1
  refine chkN_zero _ _ _ _ _ _ (fun x hx => ?_) hpw
  obtain ⟨k, hk, rfl⟩ := List.mem_iff_getElem.1 hx
  rw [← nd_get hk]
  obtain ⟨h1, h2, h3, h4⟩ := hper k hk
  obtain ⟨h5, _⟩ := hdiv k hk
  have hdv : divB (nd l k).p F = true := by
    unfold divB
    rw [decide_eq_true h1, h5]; rfl
  refine ⟨idsN_mem l hk, fun h => by omega, hdv, ?_⟩
  unfold lsV
  rw [if_pos hdv]
  have hm := plan_meets l hper.nd hids F hfl k hk
  obtain ⟨a, ha⟩ : ∃ a : Nat, (nd l k).a = (a : Int) := ⟨(nd l k).a.toNat, by omega⟩
  have h6 := divB_true hdv
  have h7 := minC_least (nd l k).s (runR l F).2 (nd l k).p.toNat (nd l k).p.toNat a (by omega) (F / (nd l k).p.toNat) (fun i hi => by
    have hi2 : (i + 1) * (nd l k).p.toNat ≤ F := by
      have := Nat.mul_le_mul_right (nd l k).p.toNat (show i + 1 ≤ F / (nd l k).p.toNat from hi)
      rw [h6.2] at this
      exact this
    have := hm i (by rw [run_len]; exact hi2)
    rw [ha] at this
    omega)
  rw [ha]
  omega
theorem plan_wordAt (id : Int) (F : Nat) (A B : Option Addr) (c nn cb : Nat) (l : List A3) (w : World) (hF : F ≤ 1000) (ha : ActsAt w A (winsL (runR l F).2)) : RWordAt #[.int .i64 id, .int .i64 (F : Int), .slice A (winsL (runR l F).2).length c, .slice B nn cb] (runR l F).2 F w := fun W b => by
  have hl := run_len l F
  obtain ⟨h1, _⟩ := wins_in (runR l F).2 (by omega)
  have hlen : (winsL (runR l F).2).length ≤ F := by
    have h := (wst_le (runR l F).2 (runR l F).2.length).2
    unfold winsL
    omega
  have h := rword_any id F A c (winsL (runR l F).2) B nn cb W (ha.kept b) (fun x hx => by
    obtain ⟨g1, g2, g3, _⟩ := h1 x hx
    rw [hl] at g3
    exact ⟨g1, by omega, by omega, by omega⟩) (by omega) (by omega)
  have hw := wins_word (runR l F).2 (by omega)
  rw [hl] at hw
  rw [hw] at h
  exact h
end Go.Proofs.YtpjillclladjaaaDoor.Pln
