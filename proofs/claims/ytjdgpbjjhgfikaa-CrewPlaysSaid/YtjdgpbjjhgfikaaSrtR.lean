
/- The document's For: it only reads. Condition: at most a million acts. -/

import Derived.Test.YtjdgpbjjhgfikaaSrtO

namespace Go.Proofs.Ytjdgpbjjhgfikaa.Srt

open Go.RowKit Go.PlainAid Go.Proofs.Ytjdgpbjjhgfikaa.Args

set_option linter.unusedVariables false

set_option linter.unusedSimpArgs false

def FoQ (l : List A3) (s p : Int) (v : Int) (n : Nat) (w : World) (i : Value) (W : World) : Prop :=
  ∃ k : Nat, k ≤ n ∧ i = .int .i64 (k : Int) ∧ forN (l.drop k) s p = v ∧ ∃ m, W = w.drewN m
set_option maxRecDepth 4000 in
set_option maxHeartbeats 1600000 in
theorem rforq_any (A : Option Addr) (cap : Nat) (l : List A3) (s p : Int) (w : World) (h1 : AcS w A l) (hl : l.length ≤ 1000000) :
    Calls Try.prog 21 #[.slice A l.length cap, .int .i64 s, .int .i64 p] w fun e w' => e = .returned (.int .i64 (forN l s p)) ∧ ∃ m, w' = w.drewN m := by
  obtain ⟨n, hn⟩ : ∃ n, l.length = n := ⟨_, rfl⟩
  have HN := Lib.hid hn
  have H1 := Lib.hid h1
  obtain ⟨v, hv⟩ : ∃ v, forN l s p = v := ⟨_, rfl⟩
  have HV := Lib.hid hv
  have HL : Hid (n ≤ 1000000) := by show _ ≤ _; omega
  rw [hn, hv]
  clear h1 hl hn hv
  go_enter Try.func21, Try.ntmps21
  go_wp2
  go_loopw [7] (fun i W => FoQ l s p v n w i W) (fun i _ => n - (intOf i).toNat)
  case atStart => exact ⟨0, Nat.zero_le _, rfl, HV.out, 0, rfl⟩
  case round =>
    rename World => W
    obtain ⟨k, hk, rfl, hr, hb⟩ := hrel
    have HR := Lib.hid hr
    have HQW := Lib.hid hb
    have HB : Hid (Below w.heap.size w W) := by obtain ⟨m, rfl⟩ := hb; exact ⟨rfl, rfl, rfl, Nat.le_refl _, fun _ _ => rfl⟩
    clear hr hb
    by_cases hlt : k < n
    · obtain ⟨x, hx⟩ : ∃ x, l[k]? = some x := ⟨_, List.getElem?_eq_getElem (by rw [HN.out]; exact hlt)⟩
      obtain ⟨y, rfl, c1, c2, c3⟩ := (H1.out.kept HB.out) k x hx
      have HST := Lib.hid (forN_step hx s p)
      have hki : (0 : Int) ≤ k := by omega
      have hkb : (k : Int) < n := by omega
      have hk1 : IntKind.i64.wrap ((k : Int) + 1) = (k : Int) + 1 := IntWalk.i64_in _ (by have := HL.out; omega)
      obtain ⟨xs, xp, xa⟩ := x
      dsimp only at c1 c2 c3 HST
      clear hx
      rcases Decidable.em (xs = s) with h | h
      · subst h
        have t1 : (xs == xs) = true := by simp
        rcases Decidable.em (xp = p) with h' | h'
        · subst h'
          have t2 : (xp == xp) = true := by simp
          have HE : Hid (v = xa) := by show _ = _; rw [← HR.out, HST.out, if_pos ⟨rfl, rfl⟩]
          go_wp2
          go_ret
          exact ⟨by rw [HE.out]; rfl, HQW.out⟩
        · have t2 : (xp == p) = false := by simp; exact h'
          have HE : Hid (forN (l.drop (k + 1)) xs p = v) := by show _ = _; rw [← HR.out, HST.out, if_neg (by simp [h'])]
          clear h'
          go_wp2
          go_roundw
          case rel => exact ⟨k + 1, by omega, by go_num, HE.out, HQW.out⟩
          case measure => simp [intOf]; omega
      · have t1 : (xs == s) = false := by simp; exact h
        have HE : Hid (forN (l.drop (k + 1)) s p = v) := by show _ = _; rw [← HR.out, HST.out, if_neg (by simp [h])]
        clear h
        go_wp2
        go_roundw
        case rel => exact ⟨k + 1, by omega, by go_num, HE.out, HQW.out⟩
        case measure => simp [intOf]; omega
    · obtain rfl : k = n := by omega
      have HE : Hid (v = 0) := by show _ = _; rw [← HR.out, List.drop_eq_nil_of_le (by rw [HN.out]; omega)]; rfl
      go_wp2
      go_ret
      exact ⟨by rw [HE.out]; rfl, HQW.out⟩
end Go.Proofs.Ytjdgpbjjhgfikaa.Srt
