
/- That a header's bytes are read as the header. No condition. -/

import Derived.Test.YteadednglodgpaaDoorHdrP

import Derived.Test.YteadednglodgpaaDoorHdrE

import Derived.Test.YteadednglodgpaaDoorRdrR

namespace Go.Proofs.YteadednglodgpaaDoor.Hdr

open Go.RowKit Go.PlainAid Go.Proofs.YteadednglodgpaaDoor.Oct Go.Proofs.YteadednglodgpaaDoor.Flt Go.Proofs.YteadednglodgpaaDoor.Rdr Go.Proofs.YteadednglodgpaaDoor.Byt

set_option linter.unusedVariables false

set_option linter.unusedSimpArgs false

theorem small_acc (F : Nat → Nat × Nat) : ∀ k, Small (accB F k)
  | 0 => by intro x hx; simp [accB] at hx; omega
  | k + 1 => (small_acc F k).append (small_low _ _)
theorem acc_split (F : Nat → Nat × Nat) (k : Nat) : ∀ j, ∃ post, accB F (k + j) = accB F k ++ post ∧ Small post
  | 0 => ⟨[], by simp, by intro x hx; cases hx⟩
  | j + 1 => by
    obtain ⟨post, h, hs⟩ := acc_split F k j
    exact ⟨post ++ low (F (k + j)).1 (F (k + j)).2, by rw [show k + (j + 1) = (k + j) + 1 by omega, accB, h, List.append_assoc], hs.append (small_low _ _)⟩
/-- A header's bytes, whole. -/
def hB (F : Nat → Nat × Nat) : ByteArray := strOfNums (accB F 7)
theorem fld_read (F : Nat → Nat × Nat) (k : Nat) (hk : k < 7) (v n p : Nat) (hv : (F k).1 = v) (hn2 : (F k).2 = n) (hn : n = 1 ∨ n = 2 ∨ n = 4 ∨ n = 8) (hlt : v < 256 ^ n) (hp : p = (accB F k).length) :
    numS ⟨hB F, p, 1, 0, 0, 0⟩ n = ⟨hB F, p + n, 1, 0, 0, 0⟩ ∧ numV ⟨hB F, p, 1, 0, 0, 0⟩ n = v := by
  obtain ⟨post, h, hs⟩ := acc_split F (k + 1) (6 - k)
  rw [show k + 1 + (6 - k) = 7 by omega, show accB F (k + 1) = accB F k ++ low v n by rw [accB, hv, hn2]] at h
  exact num_read (accB F k) post v n hn hlt (small_acc F k) hs (hB F) (by unfold hB; rw [h]) p hp 1 0 0
theorem mag_read (F : Nat → Nat × Nat) (j : Nat) (hj : j < 4) : magS ⟨hB F, j, 1, 0, 0, 0⟩ j = ⟨hB F, j + 1, 1, 0, 0, 0⟩ := by
  obtain ⟨post, h, hs⟩ := acc_split F 0 7
  rw [Nat.zero_add] at h
  have key : ∀ (pre rest : List Int) (v : Nat), accB F 0 = pre ++ low v 1 ++ rest → Small pre → Small rest → pre.length = j → v < 256 → (v : Int) = bt mag j → magS ⟨hB F, j, 1, 0, 0, 0⟩ j = ⟨hB F, j + 1, 1, 0, 0, 0⟩ := by
    intro pre rest v h1 h2 h3 h4 h5 h6
    obtain ⟨e1, e2⟩ := num_read pre (rest ++ post) v 1 (by omega) h5 h2 (h3.append hs) (hB F) (by unfold hB; rw [h, h1]; simp) j h4.symm 1 0 0
    unfold magS
    rw [e1, e2, h6]
    unfold needS
    simp
  have sm : ∀ l : List Int, l = [] ∨ l = [67] ∨ l = [67, 87] ∨ l = [67, 87, 77] ∨ l = [87, 77, 49] ∨ l = [77, 49] ∨ l = [49] → Small l := by
    intro l hl x hx
    rcases hl with rfl | rfl | rfl | rfl | rfl | rfl | rfl <;> (simp at hx; try omega)
  rcases (show j = 0 ∨ j = 1 ∨ j = 2 ∨ j = 3 by omega) with rfl | rfl | rfl | rfl
  · exact key [] [87, 77, 49] 67 (by show ([67, 87, 77, 49] : List Int) = _; decide) (sm _ (by simp)) (sm _ (by simp)) rfl (by omega) (by decide)
  · exact key [67] [77, 49] 87 (by show ([67, 87, 77, 49] : List Int) = _; decide) (sm _ (by simp)) (sm _ (by simp)) rfl (by omega) (by decide)
  · exact key [67, 87] [49] 77 (by show ([67, 87, 77, 49] : List Int) = _; decide) (sm _ (by simp)) (sm _ (by simp)) rfl (by omega) (by decide)
  · exact key [67, 87, 77] [] 49 (by show ([67, 87, 77, 49] : List Int) = _; decide) (sm _ (by simp)) (sm _ (by simp)) rfl (by omega) (by decide)
theorem hB_size (tot ep fi a b c d : Nat) : (hB (fldF tot ep fi a b c d)).size = 23 := by unfold hB; rw [strOfNums_size]; simp [accB, fldF, low_length]
theorem head_read (tot ep fi a b c d : Nat) (ht : tot ≤ 4294967295) (he : ep ≤ 18446744073709551615) (hfi : fi ≤ 255) (ha : fineB 0 a = true) (hb : fineB 1 b = true) (hc : fineB 2 c = true) (hd : fineB 3 d = true) :
    rdS ⟨hB (fldF tot ep fi a b c d), 0, 0, 0, 0, 0⟩ = ⟨hB (fldF tot ep fi a b c d), 23, 1, 0, 0, 0⟩ ∧ rdV ⟨hB (fldF tot ep fi a b c d), 0, 0, 0, 0, 0⟩ = ⟨tot, ep, fi, a, b, c, d⟩ := by
  obtain ⟨F, hF⟩ : ∃ F, fldF tot ep fi a b c d = F := ⟨_, rfl⟩
  have hle : (a ≤ 32) ∧ (b ≤ 16) ∧ (c ≤ 240) ∧ (d ≤ 512) := by
    simp [fineB, mostL, fewL] at ha hb hc hd
    omega
  have L : ∀ k, k < 7 → (accB F k).length = [4, 8, 16, 17, 18, 19, 21].getD k 0 := by
    intro k hk
    rw [← hF]
    rcases (show k = 0 ∨ k = 1 ∨ k = 2 ∨ k = 3 ∨ k = 4 ∨ k = 5 ∨ k = 6 by omega) with rfl | rfl | rfl | rfl | rfl | rfl | rfl <;> simp [accB, fldF, low_length]
  have m0 := mag_read F 0 (by omega)
  have m1 := mag_read F 1 (by omega)
  have m2 := mag_read F 2 (by omega)
  have m3 := mag_read F 3 (by omega)
  have r0 := fld_read F 0 (by omega) tot 4 4 (by rw [← hF]; rfl) (by rw [← hF]; rfl) (by omega) (by omega) (L 0 (by omega)).symm
  have r1 := fld_read F 1 (by omega) ep 8 8 (by rw [← hF]; rfl) (by rw [← hF]; rfl) (by omega) (by omega) (L 1 (by omega)).symm
  have r2 := fld_read F 2 (by omega) fi 1 16 (by rw [← hF]; rfl) (by rw [← hF]; rfl) (by omega) (by omega) (L 2 (by omega)).symm
  have r3 := fld_read F 3 (by omega) a 1 17 (by rw [← hF]; rfl) (by rw [← hF]; rfl) (by omega) (by omega) (L 3 (by omega)).symm
  have r4 := fld_read F 4 (by omega) b 1 18 (by rw [← hF]; rfl) (by rw [← hF]; rfl) (by omega) (by omega) (L 4 (by omega)).symm
  have r5 := fld_read F 5 (by omega) c 2 19 (by rw [← hF]; rfl) (by rw [← hF]; rfl) (by omega) (by omega) (L 5 (by omega)).symm
  have r6 := fld_read F 6 (by omega) d 2 21 (by rw [← hF]; rfl) (by rw [← hF]; rfl) (by omega) (by omega) (L 6 (by omega)).symm
  rw [hF]
  have e1 : s1 ⟨hB F, 0, 0, 0, 0, 0⟩ = ⟨hB F, 4, 1, 0, 0, 0⟩ := by
    unfold s1 secS
    rw [magN, magN, magN, magN, magN, m0, m1, m2, m3]
  have e2 : s2 ⟨hB F, 0, 0, 0, 0, 0⟩ = ⟨hB F, 8, 1, 0, 0, 0⟩ := by unfold s2; rw [e1]; exact r0.1
  have e3 : s3 ⟨hB F, 0, 0, 0, 0, 0⟩ = ⟨hB F, 16, 1, 0, 0, 0⟩ := by unfold s3; rw [e2]; exact r1.1
  have e4 : s4 ⟨hB F, 0, 0, 0, 0, 0⟩ = ⟨hB F, 17, 1, 0, 0, 0⟩ := by unfold s4; rw [e3]; exact r2.1
  have cs : ∀ (p j v n : Nat), wide j = n → numS ⟨hB F, p, 1, 0, 0, 0⟩ n = ⟨hB F, p + n, 1, 0, 0, 0⟩ → numV ⟨hB F, p, 1, 0, 0, 0⟩ n = v → fineB j v = true → cntS ⟨hB F, p, 1, 0, 0, 0⟩ j = ⟨hB F, p + n, 1, 0, 0, 0⟩ := by
    intro p j v n hw h1 h2 h3
    unfold cntS
    rw [hw, h1, h2, h3]; rfl
  have c1 : cntN ⟨hB F, 17, 1, 0, 0, 0⟩ 1 = ⟨hB F, 18, 1, 0, 0, 0⟩ := by rw [cntN, cntN]; exact cs 17 0 a 1 rfl r3.1 r3.2 ha
  have c2 : cntN ⟨hB F, 17, 1, 0, 0, 0⟩ 2 = ⟨hB F, 19, 1, 0, 0, 0⟩ := by rw [cntN, c1]; exact cs 18 1 b 1 rfl r4.1 r4.2 hb
  have c3 : cntN ⟨hB F, 17, 1, 0, 0, 0⟩ 3 = ⟨hB F, 21, 1, 0, 0, 0⟩ := by rw [cntN, c2]; exact cs 19 2 c 2 rfl r5.1 r5.2 hc
  have c4 : cntN ⟨hB F, 17, 1, 0, 0, 0⟩ 4 = ⟨hB F, 23, 1, 0, 0, 0⟩ := by rw [cntN, c3]; exact cs 21 3 d 2 rfl r6.1 r6.2 hd
  have eS : rdS ⟨hB F, 0, 0, 0, 0, 0⟩ = ⟨hB F, 23, 1, 0, 0, 0⟩ := by unfold rdS; rw [e4]; exact c4
  refine ⟨eS, ?_⟩
  unfold rdV
  rw [eS, if_pos rfl]
  unfold hdT
  rw [e1, e2, e3, e4]
  unfold cntV
  rw [c1, c2, c3, r0.2, r1.2, r2.2]
  have x0 : numV (cntN ⟨hB F, 17, 1, 0, 0, 0⟩ 0) (wide 0) = a := r3.2
  have x1 : numV ⟨hB F, 18, 1, 0, 0, 0⟩ (wide 1) = b := r4.2
  have x2 : numV ⟨hB F, 19, 1, 0, 0, 0⟩ (wide 2) = c := r5.2
  have x3 : numV ⟨hB F, 21, 1, 0, 0, 0⟩ (wide 3) = d := r6.2
  rw [x0, x1, x2, x3]
end Go.Proofs.YteadednglodgpaaDoor.Hdr
