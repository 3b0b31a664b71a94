
/- What package reader's numbers and texts are, and what the document's are: both by one reckoning. Condition: the table of names holds what the program lays there. -/

import Derived.Test.YtplllmfbpliciaaGreatDoorRdrB

import Derived.Test.YtplllmfbpliciaaGreatDoorShelf

namespace Go.Proofs.YtplllmfbpliciaaGreatDoor.Rdr

open Go.RowKit Go.PlainAid Go.Proofs.YtplllmfbpliciaaGreatDoor.Flt Go.Proofs.YtplllmfbpliciaaGreatDoor.Oct

set_option linter.unusedVariables false

theorem Just.drewN {g : Nat} {a w : World} (h : Just g a w) (n : Nat) : Just g a (w.drewN n) := ⟨h.os, h.tape, h.output, h.size, h.block⟩
theorem IsRdr.drewN {g : Nat} {t : St} {w : World} (h : IsRdr w g t) (n : Nat) : IsRdr (w.drewN n) g t := by
  obtain ⟨x, h1, h2⟩ := h
  exact ⟨x, h1, h2.kept (fun _ _ _ => rfl)⟩
theorem names_drewN {w : World} (h : Names w) (n : Nat) : Names (w.drewN n) := h
/-- A reader that may be: it stands within its text. -/
def Ok (t : St) : Prop := t.p ≤ t.s.size ∧ t.s.size ≤ 1099511627776
/-- The next number of n bytes. -/
def numS (t : St) (n : Nat) : St := if t.k = 0 then (if getB t.s t.p n then { t with p := t.p + n } else failS t 2 t.p) else t
def numV (t : St) (n : Nat) : Nat := if t.k = 0 then getV t.s t.p n else 0
def UPost (g : Nat) (t : St) (v : Nat) (w : World) (e : Ending) (w' : World) : Prop := e = .returned (.int .u64 v) ∧ IsRdr w' g t ∧ Just g w w'
theorem fail_k {t : St} (h : t.k = 0) (a : Int) : (failS t 2 a).k = 2 := by
  have e := fail_yes (k := 2) (a := a) h (by omega) (by omega)
  rw [show (2 : Int) = ((2 : Nat) : Int) from rfl, e]

theorem number_had (g : Nat) (t : St) (n : Nat) (w : World) (hn : Names w) (h : IsRdr w g t) (ho : Ok t) (h8 : n ≤ 8) (hk : t.k ≠ 0) :
    Calls Tryz.prog 39 #[.pointer (some ⟨g, 0, none⟩), .int .i64 n] w (UPost g t 0 w) := by
  have H := Lib.hid h
  have HN := Lib.hid hn
  have HK := Lib.hid hk
  obtain ⟨x, h1, h2⟩ := h
  obtain ⟨hc0, hc1, _, _, _⟩ := cells_of h1
  have hg : Hid (∀ w : World, Calls Tryz.prog 54 #[.string t.s, .int .i64 t.p, .int .i64 n] w fun e w' => e = .returned (.tuple #[.int .u64 (getV t.s t.p n), .bool (getB t.s t.p n)]) ∧ w' = w) := fun w => (get_any t.s t.p n (by have := ho.1; have := ho.2; omega) (by have := ho.2; unfold maxLen; omega) w).mono fun _ _ ⟨a, b⟩ => ⟨a, b.symm⟩
  obtain ⟨b, hb⟩ : ∃ b, getB t.s t.p n = b := ⟨_, rfl⟩
  obtain ⟨v, hv⟩ : ∃ v, getV t.s t.p n = v := ⟨_, rfl⟩
  rw [hb, hv] at hg
  have hkb : Hid ((t.k == 0) = false) := by show _ = _; simp; exact hk
  clear h1 h2 hn hk hb hv ho
  cases b with
  | true =>
    go_enter Tryz.func39, Tryz.ntmps39
    go_wp2
    go_quiet ((go_at_call 54; exact Calls.quiet_of_same (hg.out _)))
    have HQ := Lib.hid (H.out.drewN nq)
    obtain ⟨x, h1, h2⟩ := H.out.drewN nq
    obtain ⟨hc0, hc1, _, _, _⟩ := cells_of h1
    clear h1 h2
    go_wp2_with (go_at_call 26; refine (need_ok g t 2 t.p _ HQ.out).mono ?_; rw [hkb.out]; rintro e w' ⟨rfl, rfl⟩)
    go_ret
    exact ⟨rfl, HQ.out, (Just.refl _ _).drewN _⟩
  | false =>
    go_enter Tryz.func39, Tryz.ntmps39
    go_wp2
    go_quiet ((go_at_call 54; exact Calls.quiet_of_same (hg.out _)))
    have HQ := Lib.hid (H.out.drewN nq)
    obtain ⟨x, h1, h2⟩ := H.out.drewN nq
    obtain ⟨hc0, hc1, _, _, _⟩ := cells_of h1
    clear h1 h2
    go_wp2_with (go_at_call 26; refine (need_no g t 2 t.p _ (names_drewN HN.out nq) (by omega) HQ.out).mono ?_; rw [fail_had HK.out]; rintro e w1 ⟨e1, hr, hj⟩; rw [hkb.out] at e1; subst e1; have HR := Lib.hid hr; have HJ := Lib.hid hj; clear hr hj)
    go_ret
    exact ⟨rfl, HR.out, ((Just.refl _ _).drewN _).trans HJ.out⟩
theorem number_new (g : Nat) (t : St) (n : Nat) (w : World) (hn : Names w) (h : IsRdr w g t) (ho : Ok t) (h8 : n ≤ 8) (hk : t.k = 0) :
    Calls Tryz.prog 39 #[.pointer (some ⟨g, 0, none⟩), .int .i64 n] w (UPost g (numS t n) (numV t n) w) := by
  have eS : numS t n = if getB t.s t.p n then { t with p := t.p + n } else failS t 2 t.p := by unfold numS; rw [if_pos hk]
  have eV : numV t n = getV t.s t.p n := by unfold numV; rw [if_pos hk]
  rw [eS, eV]
  have H := Lib.hid h
  have HN := Lib.hid hn
  have HK := Lib.hid hk
  obtain ⟨x, h1, h2⟩ := h
  obtain ⟨hc0, hc1, _, _, _⟩ := cells_of h1
  have hg : Hid (∀ w : World, Calls Tryz.prog 54 #[.string t.s, .int .i64 t.p, .int .i64 n] w fun e w' => e = .returned (.tuple #[.int .u64 (getV t.s t.p n), .bool (getB t.s t.p n)]) ∧ w' = w) := fun w => (get_any t.s t.p n (by have := ho.1; have := ho.2; omega) (by have := ho.2; unfold maxLen; omega) w).mono fun _ _ ⟨a, b⟩ => ⟨a, b.symm⟩
  cases hb : getB t.s t.p n with
  | true =>
    have hpn : (t.p : Int) + (n : Int) ≤ 1099511627776 := by
      have h2 := ho.2; unfold getB at hb; simp at hb; omega
    have hkb : Hid ((t.k == 0) = true) := by show _ = _; simp; exact hk
    obtain ⟨v, hv⟩ : ∃ v, getV t.s t.p n = v := ⟨_, rfl⟩
    rw [hb, hv] at hg
    rw [hv]
    clear h1 h2 hn hk hb hv ho eS eV
    go_enter Tryz.func39, Tryz.ntmps39
    go_wp2
    go_quiet ((go_at_call 54; exact Calls.quiet_of_same (hg.out _)))
    have HQ := Lib.hid (H.out.drewN nq)
    obtain ⟨x, h1, h2⟩ := H.out.drewN nq
    obtain ⟨hc0, hc1, _, _, hff⟩ := cells_of h1
    have hf1 := hff 1
    have hsp := set_place h1 (t.p + n)
    have hjj := ((Just.refl g w).drewN nq).setCell 1 (.int .i64 ((t.p + n : Nat) : Int))
    have hww := h2.kept (keptW_just h1 (((Just.refl g (w.drewN nq))).setCell 1 (.int .i64 ((t.p + n : Nat) : Int))))
    have epn : ((t.p + n : Nat) : Int) = (t.p : Int) + (n : Int) := by omega
    rw [epn] at hsp hjj hww
    have HSP := Lib.hid hsp
    have HJJ := Lib.hid hjj
    have HWW := Lib.hid hww
    clear h1 h2 hff hsp hjj hww epn
    go_wp2_with (go_at_call 26; refine (need_ok g t 2 t.p _ HQ.out).mono ?_; rw [hkb.out]; rintro e w' ⟨rfl, rfl⟩)
    go_ret
    exact ⟨rfl, ⟨x, HSP.out, HWW.out⟩, HJJ.out⟩
  | false =>
    have hv : getV t.s t.p n = 0 := by unfold getV; rw [hb]; rfl
    have hkb : Hid (((failS t 2 t.p).k == 0) = false) := by show _ = _; rw [fail_k hk]; rfl
    rw [hb, hv] at hg
    rw [hv]
    clear h1 h2 hn hk hb hv ho eS eV
    go_enter Tryz.func39, Tryz.ntmps39
    go_wp2
    go_quiet ((go_at_call 54; exact Calls.quiet_of_same (hg.out _)))
    have HQ := Lib.hid (H.out.drewN nq)
    obtain ⟨x, h1, h2⟩ := H.out.drewN nq
    obtain ⟨hc0, hc1, _, _, _⟩ := cells_of h1
    clear h1 h2
    go_wp2_with (go_at_call 26; refine (need_no g t 2 t.p _ (names_drewN HN.out nq) (by omega) HQ.out).mono ?_; rintro e w1 ⟨e1, hr, hj⟩; rw [hkb.out] at e1; subst e1; have HR := Lib.hid hr; have HJ := Lib.hid hj; clear hr hj)
    go_ret
    exact ⟨rfl, HR.out, ((Just.refl _ _).drewN _).trans HJ.out⟩
theorem number_any (g : Nat) (t : St) (n : Nat) (w : World) (hn : Names w) (h : IsRdr w g t) (ho : Ok t) (h8 : n ≤ 8) :
    Calls Tryz.prog 39 #[.pointer (some ⟨g, 0, none⟩), .int .i64 n] w (UPost g (numS t n) (numV t n) w) := by
  by_cases hk : t.k = 0
  · exact number_new g t n w hn h ho h8 hk
  · have e1 : numS t n = t := by unfold numS; rw [if_neg hk]
    have e2 : numV t n = 0 := by unfold numV; rw [if_neg hk]
    rw [e1, e2]
    exact number_had g t n w hn h ho h8 hk
end Go.Proofs.YtplllmfbpliciaaGreatDoor.Rdr
