
/- A row of acts of the call's own: two parts of it are exchanged (slices.swapRangeCmpFunc). Condition: at most a million acts. A row of acts of the call's own: two parts of it, side by side, change places (slices.rotateCmpFunc). Condition: at most a million acts. A row of acts of the call's own: a part of it is sorted by insertion (slices.insertionSortCmpFunc). Condition: at most a million acts. -/

import Derived.Test.YtjdgpbjjhgfikaaSrtA

namespace Go.Proofs.Ytjdgpbjjhgfikaa.Srt

open Go.RowKit Go.PlainAid

open Go.Proofs.Ytjdgpbjjhgfikaa.Cel (Two two_below)

set_option linter.unusedVariables false

set_option linter.unusedSimpArgs false

/-- Two parts of a row, the first i of each exchanged. -/
def midL (A U M V C : List A3) (i : Nat) : List A3 := A ++ (V.take i ++ U.drop i) ++ M ++ (U.take i ++ V.drop i) ++ C
theorem mid_open {A U M V C : List A3} {i k : Nat} {u v : A3} (hU : U.length = k) (hV : V.length = k) (hu : U[i]? = some u) (hv : V[i]? = some v) :
    midL A U M V C i = (A ++ V.take i) ++ u :: ((U.drop (i + 1) ++ M ++ U.take i) ++ v :: (V.drop (i + 1) ++ C)) ∧
    midL A U M V C (i + 1) = (A ++ V.take i) ++ v :: ((U.drop (i + 1) ++ M ++ U.take i) ++ u :: (V.drop (i + 1) ++ C)) := by
  have hi1 := (List.getElem?_eq_some_iff.1 hu).1
  have hi2 := (List.getElem?_eq_some_iff.1 hv).1
  have e1 : U.drop i = u :: U.drop (i + 1) := by rw [← (List.getElem?_eq_some_iff.1 hu).2]; exact List.drop_eq_getElem_cons hi1
  have e2 : V.drop i = v :: V.drop (i + 1) := by rw [← (List.getElem?_eq_some_iff.1 hv).2]; exact List.drop_eq_getElem_cons hi2
  have e3 : U.take (i + 1) = U.take i ++ [u] := by rw [List.take_add_one, hu]; rfl
  have e4 : V.take (i + 1) = V.take i ++ [v] := by rw [List.take_add_one, hv]; rfl
  unfold midL
  rw [e1, e2, e3, e4]
  constructor <;> simp [List.append_assoc]
theorem mid_len {A U M V C : List A3} {i k : Nat} (hU : U.length = k) (hV : V.length = k) (hi : i ≤ k) : (midL A U M V C i).length = A.length + k + M.length + k + C.length := by
  unfold midL; simp; omega
def SwRel (A U M V C : List A3) (g k : Nat) (tl : List Value) (w : World) (i : Value) (W : World) : Prop :=
  ∃ j : Nat, j ≤ k ∧ i = .int .i64 (j : Int) ∧ Row g tl (midL A U M V C j) W ∧ Two g none w W
section
attribute [-go_sem] storeVar loadVar
set_option maxRecDepth 8000 in
set_option maxHeartbeats 3200000 in
theorem swapRange_any (A U M V C : List A3) (g n cap a b k : Nat) (tl : List Value) (F : Value) (w : World) (hr : Row g tl (A ++ U ++ M ++ V ++ C) w) (hU : U.length = k) (hV : V.length = k) (ha : A.length = a) (hb : A.length + k + M.length = b) (hn : (A ++ U ++ M ++ V ++ C).length = n) (hc : n ≤ cap) (hl : n ≤ 1000000) :
    Calls Try.prog 93 #[.slice (some ⟨g, 0, none⟩) n cap, .int .i64 (a : Int), .int .i64 (b : Int), .int .i64 (k : Int), F] w fun e w' => e = .returned (.tuple #[]) ∧ Row g tl (A ++ V ++ M ++ U ++ C) w' ∧ Two g none w w' := by
  have h0 : midL A U M V C 0 = A ++ U ++ M ++ V ++ C := by unfold midL; simp
  have hk : midL A U M V C k = A ++ V ++ M ++ U ++ C := by unfold midL; rw [List.take_of_length_le (by omega), List.take_of_length_le (by omega), List.drop_of_length_le (by omega), List.drop_of_length_le (by omega)]; simp
  have hs : a + k + M.length + k + C.length = n := by rw [← hn, ← ha]; simp; omega
  obtain ⟨FL, hFL⟩ : ∃ FL, A ++ V ++ M ++ U ++ C = FL := ⟨_, rfl⟩
  rw [hFL] at hk
  rw [hFL]
  have HR : Hid (Row g tl (midL A U M V C 0) w) := by rw [h0]; exact hr
  have HK := Lib.hid hk
  have HU := Lib.hid hU
  have HV := Lib.hid hV
  have HA := Lib.hid ha
  have HB := Lib.hid hb
  have HS := Lib.hid hs
  have HL : Hid (n ≤ 1000000) := hl
  clear hFL hr h0 hk hU hV ha hb hn hl hs
  go_enter Try.func93, Try.ntmps93
  go_wp2_with fail
  go_loopw [10] (fun i W => SwRel A U M V C g k tl w i W) (fun i _ => k - (intOf i).toNat)
  case atStart => exact ⟨0, Nat.zero_le _, rfl, HR.out, Two.refl _ _ _⟩
  case round =>
    rename World => W
    obtain ⟨i, hi, rfl, hrow, htw⟩ := hrel
    have HROW := Lib.hid hrow
    have HTW := Lib.hid htw
    clear hrow htw HR
    by_cases hlt : i < k
    · obtain ⟨u, hu⟩ : ∃ u, U[i]? = some u := ⟨_, List.getElem?_eq_getElem (by rw [HU.out]; exact hlt)⟩
      obtain ⟨v, hv⟩ : ∃ v, V[i]? = some v := ⟨_, List.getElem?_eq_getElem (by rw [HV.out]; exact hlt)⟩
      obtain ⟨e1, e2⟩ := mid_open (A := A) (M := M) (C := C) HU.out HV.out hu hv
      have hUl := HU.out
      have hVl := HV.out
      have hAl := HA.out
      have hBl := HB.out
      have hSl := HS.out
      obtain ⟨p, hp⟩ : ∃ p, a + i = p := ⟨_, rfl⟩
      obtain ⟨q, hq⟩ : ∃ q, b + i = q := ⟨_, rfl⟩
      have hpl : p = (A ++ V.take i).length := by simp; omega
      have hql : q = (A ++ V.take i).length + 1 + (U.drop (i + 1) ++ M ++ U.take i).length := by simp; omega
      obtain ⟨L, hL⟩ : ∃ L, midL A U M V C i = L := ⟨_, rfl⟩
      have hlen : L.length = n := by rw [← hL, mid_len hUl hVl (by omega)]; omega
      have hgp : L[p]? = some u := by rw [← hL, e1]; exact get_mid hpl
      have hgq : L[q]? = some v := by
        rw [← hL, e1]
        have : (A ++ V.take i) ++ u :: ((U.drop (i + 1) ++ M ++ U.take i) ++ v :: (V.drop (i + 1) ++ C)) = ((A ++ V.take i) ++ u :: (U.drop (i + 1) ++ M ++ U.take i)) ++ v :: (V.drop (i + 1) ++ C) := by simp
        rw [this]
        exact get_mid (by rw [hql]; simp; omega)
      have hsw : (L.set p v).set q u = midL A U M V C (i + 1) := by rw [← hL, e1, e2]; exact swap_at hpl hql
      have hpn : p < n := by rw [← hlen]; exact (List.getElem?_eq_some_iff.1 hgp).1
      have hqn : q < n := by rw [← hlen]; exact (List.getElem?_eq_some_iff.1 hgq).1
      have hrd : Row g tl L W.drew := by rw [← hL]; exact HROW.out
      have l0 := hrd.load hgp
      have l1 := hrd.load hgq
      have s0 := hrd.store (i := p) (by omega) v
      have hr1 : Row g tl (L.set p v) (W.drew.setRow g (flatA (L.set p v) ++ tl).toArray) := hrd.set _
      have s1 := hr1.store (i := q) (by rw [List.length_set]; omega) u
      have hr2 : Row g tl ((L.set p v).set q u) ((W.drew.setRow g (flatA (L.set p v) ++ tl).toArray).setRow g (flatA ((L.set p v).set q u) ++ tl).toArray) := hr1.set _
      rw [hsw] at hr2 s1
      have HFIN : Hid (Row g tl (midL A U M V C (i + 1)) ((W.drew.setRow g (flatA (L.set p v) ++ tl).toArray).setRow g (flatA (midL A U M V C (i + 1)) ++ tl).toArray) ∧ Two g none w ((W.drew.setRow g (flatA (L.set p v) ++ tl).toArray).setRow g (flatA (midL A U M V C (i + 1)) ++ tl).toArray)) := ⟨hr2, ((HTW.out.trans (two_drew g W)).trans (two_row g _ _)).trans (two_row g _ _)⟩
      obtain ⟨W1, hW1⟩ : ∃ W1, W.drew.setRow g (flatA (L.set p v) ++ tl).toArray = W1 := ⟨_, rfl⟩
      rw [hW1] at s0 s1 HFIN
      obtain ⟨W2, hW2⟩ : ∃ W2, W1.setRow g (flatA (midL A U M V C (i + 1)) ++ tl).toArray = W2 := ⟨_, rfl⟩
      rw [hW2] at s1 HFIN
      have wp1 : IntKind.i64.wrap ((a : Int) + (i : Int)) = (p : Int) := by rw [← hp, Int.natCast_add]; exact IntWalk.i64_in _ (by have := HL.out; omega)
      have wq1 : IntKind.i64.wrap ((b : Int) + (i : Int)) = (q : Int) := by rw [← hq, Int.natCast_add]; exact IntWalk.i64_in _ (by have := HL.out; omega)
      have bp0 : (0 : Int) ≤ p := by omega
      have bq0 : (0 : Int) ≤ q := by omega
      have bp1 : (p : Int) < n := by omega
      have bq1 : (q : Int) < n := by omega
      have hk1 : IntKind.i64.wrap ((i : Int) + 1) = (i : Int) + 1 := IntWalk.i64_in _ (by have := HL.out; omega)
      have hkb : (i : Int) < k := by omega
      have HLT := Lib.hid hlt
      clear hu hv e1 e2 hUl hVl hAl hBl hSl hp hq hpl hql hL hlen hgp hgq hsw hpn hqn hrd hr1 hr2 hW1 hW2 hlt hi
      go_wp2_with fail
      go_region
      go_wp2
      go_roundw
      case rel => exact ⟨i + 1, HLT.out, by go_num, HFIN.out.1, HFIN.out.2⟩
      case measure => have := HLT.out; simp [intOf]; omega
    · obtain rfl : i = k := by omega
      clear hlt hi
      go_wp2
      simp [bodyPost, results, Try.results93, go_sem]
      exact ⟨by rw [← HK.out]; exact HROW.out, HTW.out⟩
end

end Go.Proofs.Ytjdgpbjjhgfikaa.Srt

namespace Go.Proofs.Ytjdgpbjjhgfikaa.Srt

open Go.RowKit Go.PlainAid

open Go.Proofs.Ytjdgpbjjhgfikaa.Cel (Two two_below)

set_option linter.unusedVariables false

set_option linter.unusedSimpArgs false

def RoRel (F : List A3) (g m : Nat) (tl : List Value) (w : World) (u v : Value) (W : World) : Prop :=
  ∃ (i j : Nat) (P X Y Q : List A3), u = .int .i64 (i : Int) ∧ v = .int .i64 (j : Int) ∧ X.length = i ∧ Y.length = j ∧ 0 < i ∧ 0 < j ∧ P.length + i = m ∧ P ++ Y ++ X ++ Q = F ∧ Row g tl (P ++ X ++ Y ++ Q) W ∧ Two g none w W
set_option maxRecDepth 8000 in
set_option maxHeartbeats 3200000 in
theorem rotate_any (A X Y C : List A3) (g n cap a m b : Nat) (tl : List Value) (F : Value) (w : World) (hr : Row g tl (A ++ X ++ Y ++ C) w) (hX : 0 < X.length) (hY : 0 < Y.length) (ha : A.length = a) (hm : A.length + X.length = m) (hb : A.length + X.length + Y.length = b) (hn : (A ++ X ++ Y ++ C).length = n) (hc : n ≤ cap) (hl : n ≤ 1000000) :
    Calls Try.prog 92 #[.slice (some ⟨g, 0, none⟩) n cap, .int .i64 (a : Int), .int .i64 (m : Int), .int .i64 (b : Int), F] w fun e w' => e = .returned (.tuple #[]) ∧ Row g tl (A ++ Y ++ X ++ C) w' ∧ Two g none w w' := by
  obtain ⟨FL, hFL⟩ : ∃ FL, A ++ Y ++ X ++ C = FL := ⟨_, rfl⟩
  rw [hFL]
  have hfn : FL.length = n := by rw [← hFL, ← hn]; simp; omega
  have HFN := Lib.hid hfn
  have w1 : IntKind.i64.wrap ((m : Int) - (a : Int)) = (X.length : Int) := by rw [show (m : Int) - a = (X.length : Int) by omega]; exact IntWalk.i64_in _ (by simp at hn; omega)
  have w2 : IntKind.i64.wrap ((b : Int) - (m : Int)) = (Y.length : Int) := by rw [show (b : Int) - m = (Y.length : Int) by omega]; exact IntWalk.i64_in _ (by simp at hn; omega)
  have HST : Hid (RoRel FL g m tl w (.int .i64 (X.length : Int)) (.int .i64 (Y.length : Int)) w) := ⟨X.length, Y.length, A, X, Y, C, rfl, rfl, rfl, rfl, hX, hY, hm, hFL, hr, Two.refl _ _ _⟩
  obtain ⟨xl, hxl⟩ : ∃ xl, X.length = xl := ⟨_, rfl⟩
  obtain ⟨yl, hyl⟩ : ∃ yl, Y.length = yl := ⟨_, rfl⟩
  rw [hxl, hyl] at HST
  rw [hxl] at w1
  rw [hyl] at w2
  have HL : Hid (n ≤ 1000000) := hl
  have HC : Hid (n ≤ cap) := hc
  clear hr hFL hfn hX hY ha hm hb hn hl hxl hyl hc
  go_enter Try.func92, Try.ntmps92
  go_wp2_with fail
  go_loopw [10, 11] (fun u v W => RoRel FL g m tl w u v W) (fun u v _ => (intOf u).toNat + (intOf v).toNat)
  case atStart => exact HST.out
  case round =>
    rename World => W
    clear HST w1 w2
    obtain ⟨i, j, P, X, Y, Q, rfl, rfl, hX, hY, hi0, hj0, hpm, hfin, hrow, htw⟩ := hrel
    have HROW := Lib.hid hrow
    have HTW := Lib.hid htw
    have HFIN := Lib.hid hfin
    have hln : P.length + i + j + Q.length = n := by rw [← HFN.out, ← hfin]; simp; omega
    have wm : IntKind.i64.wrap ((m : Int) - (i : Int)) = (P.length : Int) := by rw [show (m : Int) - i = (P.length : Int) by omega]; exact IntWalk.i64_in _ (by have := HL.out; omega)
    obtain ⟨p, hp⟩ : ∃ p, P.length = p := ⟨_, rfl⟩
    rw [hp] at wm
    clear hrow htw hfin
    by_cases hij : i = j
    · subst hij
      have HSW := Lib.hid (swapRange_any P X [] Y Q g n cap p m i tl F W (by simpa using HROW.out) hX hY hp (by simp; omega) (by simp; omega) HC.out HL.out)
      have HF2 : Hid (P ++ Y ++ [] ++ X ++ Q = FL) := by have h := HFIN.out; show _ = _; simpa using h
      have ti : ((i : Int) != (i : Int)) = false := by simp
      clear hX hY hi0 hj0 hpm hln hp
      go_wp2_with fail
      refine HSW.out.mono ?_
      rintro e w6 ⟨rfl, hr6, ht6⟩
      have HR6 := Lib.hid hr6
      rw [HF2.out] at HR6
      have HT6 := Lib.hid (HTW.out.trans ht6)
      clear hr6 ht6
      go_wp2
      simp [bodyPost, results, Try.results92, go_sem]
      exact ⟨HR6.out, HT6.out⟩
    · have ti : ((i : Int) != (j : Int)) = true := by simp; omega
      by_cases hgt : j < i
      · have tg : decide ((j : Int) < (i : Int)) = true := decide_eq_true (by omega)
        have tgn : decide (j < i) = true := decide_eq_true hgt
        have hUV : X.take j ++ X.drop j = X := List.take_append_drop _ _
        have HSW := Lib.hid (swapRange_any P (X.take j) (X.drop j) Y Q g n cap p m j tl F W (by rw [List.append_assoc P, hUV]; exact HROW.out) (by simp; omega) hY hp (by simp; omega) (by simp; omega) HC.out HL.out)
        obtain ⟨i2, hi2⟩ : ∃ i2, i - j = i2 := ⟨_, rfl⟩
        have ws : IntKind.i64.wrap ((i : Int) - (j : Int)) = (i2 : Int) := by rw [show (i : Int) - j = (i2 : Int) by omega]; exact IntWalk.i64_in _ (by have := HL.out; omega)
        have HNX : Hid (∀ W', Row g tl (P ++ Y ++ X.drop j ++ X.take j ++ Q) W' → Two g none w W' → RoRel FL g m tl w (.int .i64 (i2 : Int)) (.int .i64 (j : Int)) W') := fun W' h1 h2 => ⟨i2, j, P ++ Y, X.drop j, X.take j, Q, rfl, rfl, by simp; omega, by simp; omega, by omega, hj0, by simp; omega, by rw [← HFIN.out, List.append_assoc (P ++ Y), hUV], h1, h2⟩
        have HMS : Hid (i2 + j < i + j) := by show i2 + j < i + j; omega
        clear hX hY hi0 hj0 hpm hln hp hUV hi2 hij hgt
        go_wp2_with fail
        refine HSW.out.mono ?_
        rintro e w6 ⟨rfl, hr6, ht6⟩
        have HR6 := Lib.hid (HNX.out _ hr6 (HTW.out.trans ht6))
        clear hr6 ht6
        go_wp2
        go_roundw
        case rel => exact HR6.out
        case measure => have := HMS.out; simp [intOf]; omega
      · have tg : decide ((j : Int) < (i : Int)) = false := decide_eq_false (by omega)
        have tgn : decide (j < i) = false := decide_eq_false hgt
        obtain ⟨j2, hj2⟩ : ∃ j2, j - i = j2 := ⟨_, rfl⟩
        have hUV : Y.take j2 ++ Y.drop j2 = Y := List.take_append_drop _ _
        obtain ⟨mj, hmj⟩ : ∃ mj, m + j = mj := ⟨_, rfl⟩
        obtain ⟨q, hq⟩ : ∃ q, mj - i = q := ⟨_, rfl⟩
        have HSW := Lib.hid (swapRange_any P X (Y.take j2) (Y.drop j2) Q g n cap p q i tl F W (by have h := HROW.out; rw [← hUV] at h; simpa [List.append_assoc] using h) hX (by simp; omega) hp (by simp; omega) (by simp; omega) HC.out HL.out)
        have ws : IntKind.i64.wrap ((j : Int) - (i : Int)) = (j2 : Int) := by rw [show (j : Int) - i = (j2 : Int) by omega]; exact IntWalk.i64_in _ (by have := HL.out; omega)
        have wa : IntKind.i64.wrap ((m : Int) + (j : Int)) = (mj : Int) := by rw [show (m : Int) + j = (mj : Int) by omega]; exact IntWalk.i64_in _ (by have := HL.out; omega)
        have wb : IntKind.i64.wrap ((mj : Int) - (i : Int)) = (q : Int) := by rw [show (mj : Int) - i = (q : Int) by omega]; exact IntWalk.i64_in _ (by have := HL.out; omega)
        have hE1 : P ++ Y.take j2 ++ Y.drop j2 ++ (X ++ Q) = P ++ Y ++ X ++ Q := by rw [List.append_assoc P, hUV]; simp
        have hE2 : P ++ Y.drop j2 ++ Y.take j2 ++ X ++ Q = P ++ Y.drop j2 ++ Y.take j2 ++ (X ++ Q) := by simp
        have HNX : Hid (∀ W', Row g tl (P ++ Y.drop j2 ++ Y.take j2 ++ X ++ Q) W' → Two g none w W' → RoRel FL g m tl w (.int .i64 (i : Int)) (.int .i64 (j2 : Int)) W') := fun W' h1 h2 => ⟨i, j2, P, Y.drop j2, Y.take j2, X ++ Q, rfl, rfl, by simp; omega, by simp; omega, hi0, by omega, hpm, (hE1.trans HFIN.out), by rw [← hE2]; exact h1, h2⟩
        have HMS : Hid (i + j2 < i + j) := by show i + j2 < i + j; omega
        clear hE1 hE2 hX hY hi0 hj0 hpm hln hp hUV hj2 hij hgt hmj hq
        go_wp2_with fail
        refine HSW.out.mono ?_
        rintro e w6 ⟨rfl, hr6, ht6⟩
        have HR6 := Lib.hid (HNX.out _ hr6 (HTW.out.trans ht6))
        clear hr6 ht6
        go_wp2
        go_roundw
        case rel => exact HR6.out
        case measure => have := HMS.out; simp [intOf]; omega
end Go.Proofs.Ytjdgpbjjhgfikaa.Srt

namespace Go.Proofs.Ytjdgpbjjhgfikaa.Srt

open Go.RowKit Go.PlainAid

open Go.Proofs.Ytjdgpbjjhgfikaa.Cel (Two two_below)

set_option linter.unusedVariables false

set_option linter.unusedSimpArgs false

theorem ins_stab {X D D1 D2 : List A3} {x : A3} (h : Stab X D) (e : D1 ++ D2 = D) (h1 : ∀ y ∈ D1, le y x) (h2 : ∀ y ∈ D2, lt x y) : Stab (X ++ [x]) (D1 ++ x :: D2) := by
  subst e
  have s1 : Srt D1 := (List.pairwise_append.1 h.1).1
  have s2 : Srt D2 := (List.pairwise_append.1 h.1).2.1
  have sx : Srt [x] := List.pairwise_singleton _ _
  have m := merge (P1 := D1) (Q1 := D2) (P2 := [x]) (Q2 := []) (M1 := D1 ++ [x]) (M2 := D2) h.1 (by simpa using sx) (fun _ _ y hy => by simp at hy) (fun z hz y hy => by simp at hz; subst hz; exact h2 y hy)
    (Stab.refl (List.pairwise_append.2 ⟨s1, sx, fun y hy z hz => by simp at hz; subst hz; exact h1 y hy⟩)) (by simpa using Stab.refl s2)
  have e1 : (D1 ++ [x]) ++ D2 = D1 ++ x :: D2 := by simp
  rw [e1] at m
  refine Stab.trans (fun s p => ?_) m
  simp only [List.append_nil, cls_app]
  rw [← cls_app, h.2]
/-- F: the order. -/
def cmpF : Value := .func (.func 68) #[] #[]
def InsRel (P S C : List A3) (g : Nat) (tl : List Value) (w : World) (i : Value) (W : World) : Prop :=
  ∃ (k z : Nat) (D : List A3), 1 ≤ k ∧ (k ≤ S.length ∨ k = 1) ∧ z = P.length + k ∧ i = .int .i64 (z : Int) ∧ Stab (S.take k) D ∧ Row g tl (P ++ D ++ S.drop k ++ C) W ∧ Two g none w W
def InnRel (P D R : List A3) (x : A3) (g : Nat) (tl : List Value) (w : World) (i : Value) (W : World) : Prop :=
  ∃ (q : Nat) (D1 D2 : List A3), D1 ++ D2 = D ∧ q = P.length + D1.length ∧ i = .int .i64 (q : Int) ∧ (∀ y ∈ D2, lt x y) ∧ Row g tl (P ++ D1 ++ x :: D2 ++ R) W ∧ Two g none w W
/-- The part is sorted, the rest as it was. -/
def SortPost (P S C : List A3) (g : Nat) (tl : List Value) (w w' : World) : Prop := (∃ S', Stab S S' ∧ Row g tl (P ++ S' ++ C) w') ∧ Two g none w w'
section
attribute [-go_sem] storeVar loadVar
set_option maxRecDepth 8000 in
set_option maxHeartbeats 6400000 in
theorem insertion_any (P S C : List A3) (g n cap a b : Nat) (tl : List Value) (w : World) (hr : Row g tl (P ++ S ++ C) w) (ha : P.length = a) (hb : P.length + S.length = b) (hn : (P ++ S ++ C).length = n) (hc : n ≤ cap) (hl : n ≤ 1000000) :
    Calls Try.prog 90 #[.slice (some ⟨g, 0, none⟩) n cap, .int .i64 (a : Int), .int .i64 (b : Int), .func (.func 68) #[] #[]] w fun e w' => e = .returned (.tuple #[]) ∧ SortPost P S C g tl w w' := by
  have hlen : a + S.length + C.length = n := by rw [← hn, ← ha]; simp; omega
  obtain ⟨a1, ha1⟩ : ∃ a1, a + 1 = a1 := ⟨_, rfl⟩
  have wa : IntKind.i64.wrap ((a : Int) + 1) = (a1 : Int) := by rw [← ha1, Int.natCast_add]; exact IntWalk.i64_in _ (by omega)
  have HST : Hid (InsRel P S C g tl w (.int .i64 (a1 : Int)) w) := ⟨1, a1, S.take 1, Nat.le_refl _, .inr rfl, by omega, rfl, Stab.refl (by
    cases S with
    | nil => exact List.Pairwise.nil
    | cons y l => simp [Srt]), by rw [List.append_assoc P, List.take_append_drop]; exact hr, Two.refl _ _ _⟩
  have HLN := Lib.hid hlen
  have HA := Lib.hid ha
  have HB := Lib.hid hb
  have HL : Hid (n ≤ 1000000) := hl
  clear hr ha hb hn hl hlen ha1
  go_enter Try.func90, Try.ntmps90
  go_wp2_with fail
  go_loopw [8] (fun i W => InsRel P S C g tl w i W) (fun i _ => (n + 2) - (intOf i).toNat)
  case atStart => exact HST.out
  case round =>
    rename World => W
    clear HST wa
    obtain ⟨k, z, D, hk1, hkS, hz, rfl, hst, hrow, htw⟩ := hrel
    have HROW := Lib.hid hrow
    have HTW := Lib.hid htw
    have HSB := Lib.hid hst
    clear hrow htw hst
    by_cases hlt : z < b
    · have hkl : k < S.length := by have := HB.out; omega
      obtain ⟨x, hx⟩ : ∃ x, S[k]? = some x := ⟨_, List.getElem?_eq_getElem hkl⟩
      have hdr : S.drop k = x :: S.drop (k + 1) := by rw [← (List.getElem?_eq_some_iff.1 hx).2]; exact List.drop_eq_getElem_cons hkl
      have htk : S.take (k + 1) = S.take k ++ [x] := by rw [List.take_add_one, hx]; rfl
      have hDl : D.length = k := by rw [HSB.out.length, List.length_take]; omega
      obtain ⟨R, hR⟩ : ∃ R, S.drop (k + 1) ++ C = R := ⟨_, rfl⟩
      have hRl : P.length + k + 1 + R.length = n := by have := HLN.out; have := HA.out; rw [← hR]; simp; omega
      have HIN : Hid (InnRel P D R x g tl w (.int .i64 (z : Int)) W) := ⟨z, D, [], by simp, by omega, rfl, by simp, by have h := HROW.out; rw [hdr] at h; rw [← hR]; simpa using h, HTW.out⟩
      have HFI : Hid (∀ (D1 D2 : List A3) (W' : World), D1 ++ D2 = D → (∀ y ∈ D1, le y x) → (∀ y ∈ D2, lt x y) → Row g tl (P ++ D1 ++ x :: D2 ++ R) W' → Two g none w W' → InsRel P S C g tl w (.int .i64 ((z + 1 : Nat) : Int)) W') := fun D1 D2 W' h1 h2 h3 h4 h5 => ⟨k + 1, z + 1, D1 ++ x :: D2, by omega, .inl hkl, by omega, rfl, by rw [htk]; exact ins_stab HSB.out h1 h2 h3, by rw [← hR] at h4; simpa using h4, h5⟩
      have HDL := Lib.hid hDl
      have HSR : Hid (Srt D) := HSB.out.1
      have HRL := Lib.hid hRl
      have wz : IntKind.i64.wrap ((z : Int) + 1) = ((z + 1 : Nat) : Int) := by rw [Int.natCast_add]; exact IntWalk.i64_in _ (by have := HL.out; omega)
      have hzb : decide ((z : Int) < (b : Int)) = true := decide_eq_true (by omega)
      have hzbn : decide (z < b) = true := decide_eq_true hlt
      have HMS : Hid (z < n) := by show z < n; omega
      clear hx hdr htk hDl hR hRl hlt hkl hk1 hkS hz HROW HTW HSB
      go_wp2_with fail
      go_loopw [9] (fun i W => InnRel P D R x g tl w i W) (fun i _ => (intOf i).toNat)
      case atStart => exact HIN.out
      case round =>
        rename World => V
        clear HIN
        obtain ⟨q, D1, D2, hD, hq, rfl, hgt, hrow, htw⟩ := hrel
        have HROW := Lib.hid hrow
        have HTW := Lib.hid htw
        have HGT := Lib.hid hgt
        clear hrow htw hgt hzb hzbn
        rcases List.eq_nil_or_concat D1 with rfl | ⟨E, y, rfl⟩
        · have tq : decide ((a : Int) < (q : Int)) = false := decide_eq_false (by have := HA.out; simp at hq; omega)
          have tqn : decide (a < q) = false := decide_eq_false (by have := HA.out; simp at hq; omega)
          have HN2 : Hid (∀ n, InsRel P S C g tl w (.int .i64 ((z + 1 : Nat) : Int)) (V.drewN n)) := fun n => HFI.out [] D2 _ hD (by simp) HGT.out HROW.out (HTW.out.trans ⟨rfl, rfl, rfl, Nat.le_refl _, fun _ _ _ _ => rfl⟩)
          have HN3 : Hid (InsRel P S C g tl w (.int .i64 ((z + 1 : Nat) : Int)) V.drew) := HN2.out 1
          clear hD hq HROW HTW HGT
          go_wp2_with fail
          go_region
          go_wp2
          go_roundw
          case rel => exact HN3.out
          case measure => have := HMS.out; simp [intOf]; omega
        · rw [List.concat_eq_append] at hD hq HROW
          have hql : q = P.length + E.length + 1 := by simp at hq; omega
          have hDl := HDL.out
          have hRl := HRL.out
          have hDD : E.length + 1 + D2.length = D.length := by rw [← hD]; simp; omega
          obtain ⟨p, hp⟩ : ∃ p, P.length + E.length = p := ⟨_, rfl⟩
          obtain ⟨L, hL⟩ : ∃ L, P ++ (E ++ [y]) ++ x :: D2 ++ R = L := ⟨_, rfl⟩
          have hLl : L.length = n := by rw [← hL]; simp; omega
          have e1 : L = (P ++ E) ++ y :: ([] ++ x :: (D2 ++ R)) := by rw [← hL]; simp
          have hgp : L[p]? = some y := by rw [e1]; exact get_mid (by simp; omega)
          have hgq : L[q]? = some x := by
            have e2 : L = ((P ++ E) ++ [y]) ++ x :: (D2 ++ R) := by rw [← hL]; simp
            rw [e2]; exact get_mid (by simp; omega)
          have hrd : Row g tl L V.drew := by rw [← hL]; exact HROW.out
          have l0 := hrd.load hgp
          have l1 := hrd.load hgq
          have tq : decide ((a : Int) < (q : Int)) = true := decide_eq_true (by have := HA.out; omega)
          have tqn : decide (a < q) = true := decide_eq_true (by have := HA.out; omega)
          have wq : IntKind.i64.wrap ((q : Int) - 1) = (p : Int) := by rw [show (q : Int) - 1 = (p : Int) by omega]; exact IntWalk.i64_in _ (by have := HL.out; omega)
          have bp0 : (0 : Int) ≤ p := by omega
          have bq0 : (0 : Int) ≤ q := by omega
          have bp1 : (p : Int) < n := by omega
          have bq1 : (q : Int) < n := by omega
          have HRD := Lib.hid hrd
          have HCM : Hid (∀ W, Calls Try.prog 68 #[.agg #[.int .i64 x.s, .int .i64 x.p, .int .i64 x.a], .agg #[.int .i64 y.s, .int .i64 y.p, .int .i64 y.a]] W fun e w' => e = .returned (.int .i64 (cmpA x y)) ∧ Below W.heap.size W w') := fun W => compare_any x y W
          have HCL : Hid (cmpA x y < 0 ↔ lt x y) := cmp_less x y
          obtain ⟨c, hcc⟩ : ∃ c, cmpA x y = c := ⟨_, rfl⟩
          rw [hcc] at HCM HCL
          have HGQ : Hid (L[q]? = some x ∧ L[p]? = some y ∧ L.length = n) := ⟨hgq, hgp, hLl⟩
          have HE1 := Lib.hid e1
          have HPE : Hid (p = (P ++ E).length ∧ q = p + 1 ∧ P.length + E.length = p) := ⟨by simp; omega, by omega, hp⟩
          have HDD := Lib.hid hD
          have HLE : Hid (P ++ (E ++ [y]) ++ x :: D2 ++ R = L) := hL
          clear hcc hgp hgq hLl e1 hL hrd hDD hRl hDl hql hq hp hD HROW
          go_wp2_with fail
          go_region_held3 (fun wx => Sem.run Try.prog (loadVar 84 ⟨g, q * 3, none⟩) wx = .ok (.agg #[.int .i64 x.s, .int .i64 x.p, .int .i64 x.a]) wx ∧ Sem.run Try.prog (loadVar 84 ⟨g, p * 3, none⟩) wx = .ok (.agg #[.int .i64 y.s, .int .i64 y.p, .int .i64 y.a]) wx)
            (first | exact HKP.out | (refine ⟨?_, ?_⟩ <;> assumption) | (go_keep; done))
            (first
              | (go_at_call 68; refine (HCM.out _).mono ?_; rintro e V2 ⟨rfl, hb⟩; have hr2 : Row g tl L V2 := HRD.out.keep hb; have HR2 := Lib.hid hr2; have HT2 : Hid (Two g none w V2) := (HTW.out.trans (two_drew g V)).trans (two_below hb); have HKP : Hid (Sem.run Try.prog (loadVar 84 ⟨g, q * 3, none⟩) V2 = .ok (.agg #[.int .i64 x.s, .int .i64 x.p, .int .i64 x.a]) V2 ∧ Sem.run Try.prog (loadVar 84 ⟨g, p * 3, none⟩) V2 = .ok (.agg #[.int .i64 y.s, .int .i64 y.p, .int .i64 y.a]) V2) := ⟨hr2.load HGQ.out.1, hr2.load HGQ.out.2.1⟩; clear hb hr2))
          by_cases hc0 : c < 0
          · have hxy := HCL.out.1 hc0
            have tc : decide (c < 0) = true := decide_eq_true hc0
            obtain ⟨hgq, hgp, hLl⟩ := HGQ.out
            have hpq := HPE.out
            have hpn : p < L.length := (List.getElem?_eq_some_iff.1 hgp).1
            have hqn : q < L.length := (List.getElem?_eq_some_iff.1 hgq).1
            have hrd : Row g tl L V2.drew := HR2.out
            have l0 := hrd.load hgp
            have l1 := hrd.load hgq
            have s0 := hrd.store (i := q) hqn y
            have hr1 : Row g tl (L.set q y) (V2.drew.setRow g (flatA (L.set q y) ++ tl).toArray) := hrd.set _
            have s1 := hr1.store (i := p) (by rw [List.length_set]; exact hpn) x
            have hr3 : Row g tl ((L.set q y).set p x) ((V2.drew.setRow g (flatA (L.set q y) ++ tl).toArray).setRow g (flatA ((L.set q y).set p x) ++ tl).toArray) := hr1.set _
            have hsw : (L.set q y).set p x = P ++ E ++ x :: (y :: D2) ++ R := by
              rw [List.set_comm _ _ (by omega), HE1.out, swap_at hpq.1 (by simp; omega)]; simp
            rw [hsw] at hr3 s1
            obtain ⟨V3, hV3⟩ : ∃ V3, V2.drew.setRow g (flatA (L.set q y) ++ tl).toArray = V3 := ⟨_, rfl⟩
            have ht3 : Two g none w V3 := by rw [← hV3]; exact (HT2.out.trans (two_drew g V2)).trans (two_row g _ _)
            rw [hV3] at s0 s1 hr3
            obtain ⟨V4, hV4⟩ : ∃ V4, V3.setRow g (flatA (P ++ E ++ x :: (y :: D2) ++ R) ++ tl).toArray = V4 := ⟨_, rfl⟩
            have ht4 : Two g none w V4 := by rw [← hV4]; exact ht3.trans (two_row g _ _)
            rw [hV4] at s1 hr3
            have HNX : Hid (InnRel P D R x g tl w (.int .i64 (p : Int)) V4) := ⟨p, E, y :: D2, by rw [← HDD.out]; simp, hpq.2.2.symm, rfl, fun z hz => by
              rcases List.mem_cons.1 hz with rfl | hz
              · exact hxy
              · exact HGT.out z hz, hr3, ht4⟩
            have HPQ : Hid (p < q) := by show p < q; omega
            clear hxy hgq hgp hLl hpq hpn hqn hrd hr1 hr3 hsw hV3 ht3 hV4 ht4 HKP HR2 HCM HCL HRD HT2 HTW
            go_wp2_with fail
            go_region
            go_wp2
            go_roundw
            case rel => exact HNX.out
            case measure => have := HPQ.out; simp [intOf]; omega
          · have tc : decide (c < 0) = false := decide_eq_false hc0
            have HNX : Hid (InsRel P S C g tl w (.int .i64 ((z + 1 : Nat) : Int)) V2) := by
              refine HFI.out (E ++ [y]) D2 V2 HDD.out ?_ HGT.out (by rw [HLE.out]; exact HR2.out) HT2.out
              have hs := HSR.out
              rw [← HDD.out] at hs
              have hse : Srt (E ++ [y]) := (List.pairwise_append.1 hs).1
              have hyx : le y x := fun h => hc0 (HCL.out.2 h)
              intro u hu
              exact le_trans (hse.last_le u hu) hyx
            have tc2 : (0 : Int) ≤ c := by omega
            clear HKP HR2 HCM HCL HRD HT2 HTW
            go_wp2
            go_roundw
            case rel => exact HNX.out
            case measure => have := HMS.out; simp [intOf]; omega
    · have hkl : S.length ≤ k := by have := HB.out; omega
      have HFIN : Hid (SortPost P S C g tl w W) := ⟨⟨D, by have h := HSB.out; rw [List.take_of_length_le hkl] at h; exact h, by have h := HROW.out; rw [List.drop_of_length_le hkl] at h; simpa using h⟩, HTW.out⟩
      have hzb : decide ((z : Int) < (b : Int)) = false := decide_eq_false (by omega)
      have hzbn : decide (z < b) = false := decide_eq_false hlt
      clear hlt hkl HROW HTW HSB hz hk1 hkS
      go_wp2
      simp [bodyPost, results, Try.results90, go_sem]
      exact HFIN.out
end

end Go.Proofs.Ytjdgpbjjhgfikaa.Srt
