
/- What package reader's U8, U16, U32, U64 and Text do to a reader. Condition: the table of names holds what the program lays there. -/

import Derived.Test.YtplllmfbpliciaaGreatDoorRdrC

import Derived.StillTailTactics

namespace Go.Proofs.YtplllmfbpliciaaGreatDoor.Rdr

open Go.RowKit Go.PlainAid Go.Proofs.YtplllmfbpliciaaGreatDoor.Flt Go.Proofs.YtplllmfbpliciaaGreatDoor.Oct

set_option linter.unusedVariables false

theorem numV_lt (t : St) (n : Nat) (h : n = 1 ∨ n = 2 ∨ n = 4 ∨ n = 8) : numV t n < 256 ^ n := by
  have hp : 0 < 256 ^ n := Nat.pow_pos (by omega)
  unfold numV
  split
  · unfold getV
    split
    · have := getN_lt t.s (t.p : Int).toNat (n : Int).toNat
      simpa using this
    · exact hp
  · exact hp
theorem u8_le (t : St) : numV t 1 ≤ 255 := by have := numV_lt t 1 (by omega); omega
theorem u16_le (t : St) : numV t 2 ≤ 65535 := by have := numV_lt t 2 (by omega); omega
theorem u32_le (t : St) : numV t 4 ≤ 4294967295 := by have := numV_lt t 4 (by omega); omega
theorem u64_le (t : St) : numV t 8 ≤ 18446744073709551615 := by have := numV_lt t 8 (by omega); omega
def IPost (k : IntKind) (g : Nat) (t : St) (v : Nat) (w : World) (e : Ending) (w' : World) : Prop := e = .returned (.int k v) ∧ IsRdr w' g t ∧ Just g w w'
theorem u8_any (g : Nat) (t : St) (w : World) (hn : Names w) (h : IsRdr w g t) (ho : Ok t) :
    Calls Tryz.prog 25 #[.pointer (some ⟨g, 0, none⟩)] w (IPost .i64 g (numS t 1) (numV t 1) w) := by
  have HC := Lib.hid (number_any g t 1 w hn h ho (by omega))
  have hle := u8_le t
  obtain ⟨v, hv⟩ : ∃ v, numV t 1 = v := ⟨_, rfl⟩
  rw [hv] at HC hle ⊢
  clear hv hn h ho
  go_enter Tryz.func25, Tryz.ntmps25
  go_wp2_with (go_at_call 39; refine (HC.out).mono ?_; rintro e w1 ⟨rfl, hr, hj⟩)
  go_ret
  exact ⟨rfl, hr, hj⟩
theorem wrap_u32_in {v : Nat} (h : v ≤ 4294967295) : IntKind.u32.wrap (v : Int) = (v : Int) := by rw [IntKind.wrap_u32]; omega
theorem still_tail_drew {P : Program} {id : Nat} {Q : Exit → Act → World → Prop} {a : Act} {w : World} {l : List Oper} (n : Nat) (hm : P.follows .mixedOrders = true) (hB : Region.lexTailB .any l.toArray n = true)
    (h : wpStill P l.toArray w.drew (fun a' => wpList P l.toArray Q (l.drop n) a' w.drew) (l.take n) a) : (Code.region id l.toArray true).wp P Q a w := wp_region_still_tail n hm hB h
/-- The next n bytes. -/
def txtS (t : St) (n : Int) : St := if t.k = 0 then (if t.p + n.toNat ≤ t.s.size then { t with p := t.p + n.toNat } else failS t 2 t.p) else t
def txtV (t : St) (n : Int) : ByteArray := if t.k = 0 ∧ t.p + n.toNat ≤ t.s.size then t.s.extract t.p (t.p + n.toNat) else ⟨#[]⟩
def SPost (g : Nat) (t : St) (v : ByteArray) (w : World) (e : Ending) (w' : World) : Prop := e = .returned (.string v) ∧ IsRdr w' g t ∧ Just g w w'

theorem extract_none (s : ByteArray) (p : Nat) : s.extract p (p + 0) = ⟨#[]⟩ := by
  apply ByteArray.ext; simp
end Go.Proofs.YtplllmfbpliciaaGreatDoor.Rdr
