
/- What package name's Get reads, and the document's: the same. Condition: the table of names holds what the program lays there. -/

import Derived.Test.YteadednglodgpaaDoorNamB

import Derived.Test.YteadednglodgpaaDoorRdrF

namespace Go.Proofs.YteadednglodgpaaDoor.Nam

open Go.RowKit Go.PlainAid Go.Proofs.YteadednglodgpaaDoor.Oct Go.Proofs.YteadednglodgpaaDoor.Flt Go.Proofs.YteadednglodgpaaDoor.Rdr

set_option linter.unusedVariables false

theorem txt_size (t : St) (n : Int) (h : Ok t) : (txtV t n).size ≤ maxLen := by
  unfold txtV
  split
  · have := h.2; rw [ByteArray.size_extract]; unfold maxLen; omega
  · show 0 ≤ _; omega
/-- The next name. -/
def nmS (t : St) : St :=
  if (numS t 1).k ≠ 0 then numS t 1 else if numV t 1 = 0 ∨ 16 < numV t 1 then failS (numS t 1) 7 t.p
  else if (txtS (numS t 1) (numV t 1)).k ≠ 0 then txtS (numS t 1) (numV t 1) else if rightB (txtV (numS t 1) (numV t 1)) then txtS (numS t 1) (numV t 1) else failS (txtS (numS t 1) (numV t 1)) 7 t.p
def nmV (t : St) : ByteArray :=
  if (numS t 1).k = 0 ∧ ¬ (numV t 1 = 0 ∨ 16 < numV t 1) ∧ (txtS (numS t 1) (numV t 1)).k = 0 ∧ rightB (txtV (numS t 1) (numV t 1)) = true then txtV (numS t 1) (numV t 1) else ⟨#[]⟩

/-- Where something is wrong behind the first byte, or its count may not be. -/
theorem get_1 (g : Nat) (t : St) (w : World) (hn : Names w) (h : IsRdr w g t) (ho : Ok t) (T : St) (hT : T.k ≠ 0)
    (hc : (numV t 1 = 0 ∨ 16 < numV t 1) ∧ T = failS (numS t 1) 7 t.p ∨ ¬ (numV t 1 = 0 ∨ 16 < numV t 1) ∧ T = numS t 1) :
    Calls Tryd.prog 80 #[.pointer (some ⟨g, 0, none⟩)] w (SPost g T ⟨#[]⟩ w) := by
  have HU := Lib.hid (u8_any g t w hn h ho)
  have HP := Lib.hid (place_any g t w h)
  have HNJ : Hid (∀ w1, Just g w w1 → Names w1) := fun w1 j => Names.just hn h j
  have hv := u8_le t
  obtain ⟨v, hvv⟩ : ∃ v, numV t 1 = v := ⟨_, rfl⟩
  obtain ⟨t1, ht1⟩ : ∃ t1, numS t 1 = t1 := ⟨_, rfl⟩
  rw [hvv] at hv hc HU
  rw [ht1] at hc HU
  have hTk : (T.k == 0) = false := by simp; exact hT
  have HS : Hid (∀ w, Calls Tryd.prog 82 #[.int .i64 v] w fun e w' => e = .returned (.bool (decide (1 ≤ (v : Int)) && decide ((v : Int) ≤ 16))) ∧ w = w') := fun w => sized_any v w
  rcases hc with ⟨hb, hTT⟩ | ⟨hb, hTT⟩
  · rw [show (decide (1 ≤ (v : Int)) && decide ((v : Int) ≤ 16)) = false by simp; omega] at HS
    have HN : Hid (∀ w1, Names w1 → IsRdr w1 g t1 → Calls Tryd.prog 44 #[.pointer (some ⟨g, 0, none⟩), .bool false, .int .i64 7, .int .i64 t.p] w1 fun e w' => e = .returned (.bool false) ∧ IsRdr w' g T ∧ Just g w1 w') := fun w1 hn1 hr1 => by
      rw [hTT]
      exact (need_no g t1 7 t.p w1 hn1 (by omega) hr1).mono fun _ _ ⟨a, b, c⟩ => ⟨by rw [a, ← hTT, hTk], b, c⟩
    clear hn h ho hvv ht1 hb hTT hT hTk
    go_enter Tryd.func80, Tryd.ntmps80
    go_wp2_with (first
      | (go_at_call 20; refine (HP.out).mono ?_; rintro e w' ⟨rfl, rfl⟩)
      | (go_at_call 45; refine (HU.out).mono ?_; rintro e w1 ⟨rfl, hr1, hj1⟩; have HR1 := Lib.hid hr1; have HJ1 := Lib.hid hj1; clear hr1 hj1)
      | (go_at_call 82; refine (HS.out _).mono ?_; rintro e w' ⟨rfl, rfl⟩)
      | (go_at_call 44; refine (HN.out _ (HNJ.out _ HJ1.out) HR1.out).mono ?_; rintro e w2 ⟨rfl, hr2, hj2⟩; have HR2 := Lib.hid hr2; have HJ2 := Lib.hid hj2; clear hr2 hj2))
    go_ret
    exact ⟨rfl, HR2.out, HJ1.out.trans HJ2.out⟩
  · rw [show (decide (1 ≤ (v : Int)) && decide ((v : Int) ≤ 16)) = true by simp; omega] at HS
    subst hTT
    have HN : Hid (∀ w1, IsRdr w1 g T → Calls Tryd.prog 44 #[.pointer (some ⟨g, 0, none⟩), .bool true, .int .i64 7, .int .i64 t.p] w1 fun e w' => e = .returned (.bool false) ∧ w1 = w') := fun w1 hr1 =>
      (need_ok g T 7 t.p w1 hr1).mono fun _ _ ⟨a, b⟩ => ⟨by rw [a, hTk], b⟩
    clear hn h ho hvv ht1 hb hT hTk
    go_enter Tryd.func80, Tryd.ntmps80
    go_wp2_with (first
      | (go_at_call 20; refine (HP.out).mono ?_; rintro e w' ⟨rfl, rfl⟩)
      | (go_at_call 45; refine (HU.out).mono ?_; rintro e w1 ⟨rfl, hr1, hj1⟩; have HR1 := Lib.hid hr1; have HJ1 := Lib.hid hj1; clear hr1 hj1)
      | (go_at_call 82; refine (HS.out _).mono ?_; rintro e w' ⟨rfl, rfl⟩)
      | (go_at_call 44; refine (HN.out _ HR1.out).mono ?_; rintro e w' ⟨rfl, rfl⟩))
    go_ret
    exact ⟨rfl, HR1.out, HJ1.out⟩
set_option maxHeartbeats 800000 in
/-- Where the count may be. -/
theorem get_2 (g : Nat) (t : St) (w : World) (hn : Names w) (h : IsRdr w g t) (ho : Ok t) (hk : (numS t 1).k = 0) (hb : ¬ (numV t 1 = 0 ∨ 16 < numV t 1)) :
    Calls Tryd.prog 80 #[.pointer (some ⟨g, 0, none⟩)] w (SPost g (nmS t) (nmV t) w) := by
  have HU := Lib.hid (u8_any g t w hn h ho)
  have HP := Lib.hid (place_any g t w h)
  have HNJ : Hid (∀ w1, Just g w w1 → Names w1) := fun w1 j => Names.just hn h j
  have hv := u8_le t
  have ho1 := ok_num ho 1
  have hS : nmS t = if (txtS (numS t 1) (numV t 1)).k ≠ 0 then txtS (numS t 1) (numV t 1) else if rightB (txtV (numS t 1) (numV t 1)) then txtS (numS t 1) (numV t 1) else failS (txtS (numS t 1) (numV t 1)) 7 t.p := by
    unfold nmS; rw [if_neg (by omega), if_neg hb]
  have hV : nmV t = if (txtS (numS t 1) (numV t 1)).k = 0 ∧ rightB (txtV (numS t 1) (numV t 1)) = true then txtV (numS t 1) (numV t 1) else ⟨#[]⟩ := by
    unfold nmV
    by_cases hc : (txtS (numS t 1) (numV t 1)).k = 0 ∧ rightB (txtV (numS t 1) (numV t 1)) = true
    · rw [if_pos hc, if_pos ⟨hk, hb, hc.1, hc.2⟩]
    · rw [if_neg hc, if_neg (fun h => hc ⟨h.2.2.1, h.2.2.2⟩)]
  rw [hS, hV]
  obtain ⟨v, hvv⟩ : ∃ v, numV t 1 = v := ⟨_, rfl⟩
  obtain ⟨t1, ht1⟩ : ∃ t1, numS t 1 = t1 := ⟨_, rfl⟩
  rw [hvv] at hv HU hb ⊢
  rw [ht1] at hk HU ho1 ⊢
  have HX : Hid (∀ w1, Names w1 → IsRdr w1 g t1 → Calls Tryd.prog 17 #[.pointer (some ⟨g, 0, none⟩), .int .i64 v] w1 (SPost g (txtS t1 v) (txtV t1 v) w1)) := fun w1 hn1 hr1 => txt_any g t1 v w1 hn1 hr1 ho1
  have hxs := txt_size t1 v ho1
  obtain ⟨x, hx⟩ : ∃ x, txtV t1 v = x := ⟨_, rfl⟩
  obtain ⟨t3, ht3⟩ : ∃ t3, txtS t1 v = t3 := ⟨_, rfl⟩
  rw [hx] at HX hxs ⊢
  rw [ht3] at HX ⊢
  have HS : Hid (∀ w, Calls Tryd.prog 82 #[.int .i64 v] w fun e w' => e = .returned (.bool true) ∧ w = w') := fun w => by
    have := sized_any v w
    rwa [show (decide (1 ≤ (v : Int)) && decide ((v : Int) ≤ 16)) = true by simp; omega] at this
  have HN : Hid (∀ w1, IsRdr w1 g t1 → Calls Tryd.prog 44 #[.pointer (some ⟨g, 0, none⟩), .bool true, .int .i64 7, .int .i64 t.p] w1 fun e w' => e = .returned (.bool true) ∧ w1 = w') := fun w1 hr1 =>
    (need_ok g t1 7 t.p w1 hr1).mono fun _ _ ⟨a, b⟩ => ⟨by rw [a, hk]; rfl, b⟩
  cases hr : rightB x with
  | true =>
    have HRI : Hid (∀ w, Calls Tryd.prog 61 #[.string x] w fun e w' => e = .returned (.bool true) ∧ w = w') := fun w => by rw [← hr]; exact right_any x w hxs
    have e1 : (if t3.k ≠ 0 then t3 else if true = true then t3 else failS t3 7 t.p) = t3 := by simp
    rw [e1]
    have HM : Hid (∀ w1, IsRdr w1 g t3 → Calls Tryd.prog 44 #[.pointer (some ⟨g, 0, none⟩), .bool true, .int .i64 7, .int .i64 t.p] w1 fun e w' => e = .returned (.bool (t3.k == 0)) ∧ w1 = w') := fun w1 hr1 => need_ok g t3 7 t.p w1 hr1
    by_cases hk3 : t3.k = 0
    · rw [if_pos ⟨hk3, rfl⟩]
      rw [show (t3.k == 0) = true by rw [hk3]; rfl] at HM
      clear hn h ho hvv ht1 hb hk ho1 hS hV hx ht3 hr e1 hk3 hxs
      go_enter Tryd.func80, Tryd.ntmps80
      go_wp2_with (first
        | (go_at_call 20; refine (HP.out).mono ?_; rintro e w' ⟨rfl, rfl⟩)
        | (go_at_call 45; refine (HU.out).mono ?_; rintro e w1 ⟨rfl, hr1, hj1⟩; have HR1 := Lib.hid hr1; have HJ1 := Lib.hid hj1; clear hr1 hj1)
        | (go_at_call 82; refine (HS.out _).mono ?_; rintro e w' ⟨rfl, rfl⟩)
        | (go_at_call 17; refine (HX.out _ (HNJ.out _ HJ1.out) HR1.out).mono ?_; rintro e w2 ⟨rfl, hr2, hj2⟩; have HR2 := Lib.hid hr2; have HJ2 := Lib.hid hj2; clear hr2 hj2)
        | (go_at_call 61; refine (HRI.out _).mono ?_; rintro e w' ⟨rfl, rfl⟩)
        | (go_at_call 44; first | ((refine (HM.out _ HR2.out).mono ?_); rintro e w' ⟨rfl, rfl⟩) | (refine (HN.out _ HR1.out).mono ?_; rintro e w' ⟨rfl, rfl⟩)))
      go_ret
      exact ⟨rfl, HR2.out, HJ1.out.trans HJ2.out⟩
    · rw [if_neg (fun h => hk3 h.1)]
      rw [show (t3.k == 0) = false by simp; exact hk3] at HM
      clear hn h ho hvv ht1 hb hk ho1 hS hV hx ht3 hr e1 hk3 hxs
      go_enter Tryd.func80, Tryd.ntmps80
      go_wp2_with (first
        | (go_at_call 20; refine (HP.out).mono ?_; rintro e w' ⟨rfl, rfl⟩)
        | (go_at_call 45; refine (HU.out).mono ?_; rintro e w1 ⟨rfl, hr1, hj1⟩; have HR1 := Lib.hid hr1; have HJ1 := Lib.hid hj1; clear hr1 hj1)
        | (go_at_call 82; refine (HS.out _).mono ?_; rintro e w' ⟨rfl, rfl⟩)
        | (go_at_call 17; refine (HX.out _ (HNJ.out _ HJ1.out) HR1.out).mono ?_; rintro e w2 ⟨rfl, hr2, hj2⟩; have HR2 := Lib.hid hr2; have HJ2 := Lib.hid hj2; clear hr2 hj2)
        | (go_at_call 61; refine (HRI.out _).mono ?_; rintro e w' ⟨rfl, rfl⟩)
        | (go_at_call 44; first | ((refine (HM.out _ HR2.out).mono ?_); rintro e w' ⟨rfl, rfl⟩) | (refine (HN.out _ HR1.out).mono ?_; rintro e w' ⟨rfl, rfl⟩)))
      go_ret
      exact ⟨rfl, HR2.out, HJ1.out.trans HJ2.out⟩
  | false =>
    have HRI : Hid (∀ w, Calls Tryd.prog 61 #[.string x] w fun e w' => e = .returned (.bool false) ∧ w = w') := fun w => by rw [← hr]; exact right_any x w hxs
    have e2 : (if t3.k ≠ 0 then t3 else if false = true then t3 else failS t3 7 t.p) = failS t3 7 t.p := by
      by_cases hk3 : t3.k = 0
      · simp [hk3]
      · rw [if_pos hk3, fail_had hk3]
    rw [e2, if_neg (fun h => by cases h.2)]
    have hfk : ((failS t3 7 t.p).k == 0) = false := by
      by_cases hk3 : t3.k = 0
      · have e := fail_yes (k := 7) (a := t.p) hk3 (by omega) (by omega)
        rw [show (7 : Int) = ((7 : Nat) : Int) from rfl, e]; rfl
      · rw [fail_had hk3]; simp; exact hk3
    have HM : Hid (∀ w1, Names w1 → IsRdr w1 g t3 → Calls Tryd.prog 44 #[.pointer (some ⟨g, 0, none⟩), .bool false, .int .i64 7, .int .i64 t.p] w1 fun e w' => e = .returned (.bool false) ∧ IsRdr w' g (failS t3 7 t.p) ∧ Just g w1 w') := fun w1 hn1 hr1 =>
      (need_no g t3 7 t.p w1 hn1 (by omega) hr1).mono fun _ _ ⟨a, b, c⟩ => ⟨by rw [a, hfk], b, c⟩
    obtain ⟨t4, ht4⟩ : ∃ t4, failS t3 7 t.p = t4 := ⟨_, rfl⟩
    rw [ht4] at HM ⊢
    clear hn h ho hvv ht1 hb hk ho1 hS hV hx ht3 hr e2 hfk ht4 hxs
    go_enter Tryd.func80, Tryd.ntmps80
    go_wp2_with (first
      | (go_at_call 20; refine (HP.out).mono ?_; rintro e w' ⟨rfl, rfl⟩)
      | (go_at_call 45; refine (HU.out).mono ?_; rintro e w1 ⟨rfl, hr1, hj1⟩; have HR1 := Lib.hid hr1; have HJ1 := Lib.hid hj1; clear hr1 hj1)
      | (go_at_call 82; refine (HS.out _).mono ?_; rintro e w' ⟨rfl, rfl⟩)
      | (go_at_call 17; refine (HX.out _ (HNJ.out _ HJ1.out) HR1.out).mono ?_; rintro e w2 ⟨rfl, hr2, hj2⟩; have HR2 := Lib.hid hr2; have HJ2 := Lib.hid (HJ1.out.trans hj2); clear hr2 hj2)
      | (go_at_call 61; refine (HRI.out _).mono ?_; rintro e w' ⟨rfl, rfl⟩)
      | (go_at_call 44; first | (refine (HM.out _ (HNJ.out _ HJ2.out) HR2.out).mono ?_; rintro e w3 ⟨rfl, hr3, hj3⟩; have HR3 := Lib.hid hr3; have HJ3 := Lib.hid hj3; clear hr3 hj3) | (refine (HN.out _ HR1.out).mono ?_; rintro e w' ⟨rfl, rfl⟩)))
    go_ret
    exact ⟨rfl, HR3.out, HJ2.out.trans HJ3.out⟩
theorem get_any (g : Nat) (t : St) (w : World) (hn : Names w) (h : IsRdr w g t) (ho : Ok t) :
    Calls Tryd.prog 80 #[.pointer (some ⟨g, 0, none⟩)] w (SPost g (nmS t) (nmV t) w) := by
  by_cases hk : (numS t 1).k = 0
  · by_cases hb : numV t 1 = 0 ∨ 16 < numV t 1
    · have e1 : nmS t = failS (numS t 1) 7 t.p := by unfold nmS; rw [if_neg (by omega), if_pos hb]
      have e2 : nmV t = ⟨#[]⟩ := by unfold nmV; rw [if_neg (fun h => h.2.1 hb)]
      rw [e1, e2]
      refine get_1 g t w hn h ho _ ?_ (.inl ⟨hb, rfl⟩)
      have e := fail_yes (t := numS t 1) (k := 7) (a := t.p) hk (by omega) (by omega)
      rw [show (7 : Int) = ((7 : Nat) : Int) from rfl, e]; simp
    · exact get_2 g t w hn h ho hk hb
  · have e1 : nmS t = numS t 1 := by unfold nmS; rw [if_pos hk]
    have e2 : nmV t = ⟨#[]⟩ := by unfold nmV; rw [if_neg (fun h => hk h.1)]
    rw [e1, e2]
    by_cases hb : numV t 1 = 0 ∨ 16 < numV t 1
    · exact get_1 g t w hn h ho _ hk (.inl ⟨hb, (fail_had hk).symm⟩)
    · exact get_1 g t w hn h ho _ hk (.inr ⟨hb, rfl⟩)
end Go.Proofs.YteadednglodgpaaDoor.Nam
