/- The function CrcParts returns true for every list of texts. Condition: none. This text: the walk through the Go text; the row is in the text without the W at its name's end. -/
import Derived.Test.YtlfhldfclleclaaArgs
import Derived.Test.YtlfhldfclleclaaCrcD
namespace Go.Proofs.Ytlfhldfclleclaa.crcParts
open Go.RowKit Go.PlainAid Go.Proofs.Ytlfhldfclleclaa.Args
set_option linter.unusedVariables false

open Go.Proofs.Ytlfhldfclleclaa.Crc
/-- The first k texts, one behind the other. -/
def cat (zs : List ByteArray) : Nat → ByteArray
  | 0 => ⟨#[]⟩
  | k + 1 => cat zs k ++ zs.getD k ByteArray.empty
theorem cat_list (a b : ByteArray) : (a ++ b).data.toList = a.data.toList ++ b.data.toList := by simp
/-- What holds at each round's head: what was taken in so far. -/
def PRel (zs : List ByteArray) (n : Nat) (g : Nat) (w : World) (all i : Value) (wr : World) : Prop :=
  ∃ k : Nat, k ≤ n ∧ i = .int .i64 k ∧ all = .string (cat zs k) ∧ (cat zs k).size ≤ 200 * k ∧ IsHash wr g (rest 4294967295 (cat zs k).data.toList) (cat zs k).size ∧ Below w.heap.size w wr
set_option maxHeartbeats 1600000 in
theorem walk (a0 : Option Addr) (len0 cap0 : Nat) (z0 : List ByteArray) (w : World) (w0 : IsStrs w a0 len0 cap0 z0) :
    Calls Try.prog 7 #[.slice a0 len0 cap0] w fun e w' => e = .returned (.bool true) ∧ Below w.heap.size w w' := by
  by_cases hl : 20 < (len0 : Int)
  · have t : decide (20 < (len0 : Int)) = true := decide_eq_true hl
    clear hl w0
    go_enter Try.func7, Try.ntmps7
    go_wp2_with (go_at_call 22; refine (awake_any _).mono ?_; rintro e w' ⟨rfl, hb⟩)
    go_ret
    exact ⟨rfl, hb⟩
  · have t : decide (20 < (len0 : Int)) = false := decide_eq_false hl
    have hcells : Hid (∀ k, k < len0 → ∃ b off, a0 = some ⟨b, off, none⟩ ∧ w.cell? ⟨b, off + k, none⟩ = some (.string (z0.getD k ByteArray.empty))) := by
      intro k hk
      rcases w0 with ⟨_, rfl, _, _⟩ | ⟨x, rfl, hlc, hm, hz, hcell, _⟩
      · omega
      · obtain ⟨b, off, spot⟩ := x
        have hspot : spot = none := by simpa [Addr.add] using World.cell?_spot (hcell 0 (by omega))
        subst hspot
        refine ⟨b, off, rfl, ?_⟩
        have := hcell k (by omega)
        have hadd : (⟨b, off, none⟩ : Addr).add k = ⟨b, off + k, none⟩ := by unfold Addr.add; split <;> simp_all
        rwa [hadd] at this
    have HL : Hid (len0 ≤ 20) := by show _ ≤ _; omega
    clear hl w0
    go_enter Try.func7, Try.ntmps7
    go_wp2_with fail
    refine (new_any _).mono ?_
    rintro e w1 ⟨g, hg, rfl, hh, hb⟩
    have HH := Lib.hid hh
    clear hh
    go_wp2
    go_loopw [4, 16] (fun all i wr => PRel z0 len0 g w all i wr) (fun _ i _ => len0 - (intOf i).toNat)
    case atStart => exact ⟨0, Nat.zero_le _, rfl, rfl, by simp [cat]; rfl, HH.out, hb⟩
    case round =>
      obtain ⟨k, hk, rfl, rfl, hcs, hhr, hbel⟩ := hrel
      obtain ⟨C, hC⟩ : ∃ C, C = cat z0 k := ⟨_, rfl⟩
      rw [← hC] at hcs hhr ⊢
      have HHR := Lib.hid hhr
      clear hhr
      by_cases hlt : k < len0
      · obtain ⟨b, off, rfl, hcell⟩ := hcells.out k hlt
        obtain ⟨s, hs⟩ : ∃ s, s = z0.getD k ByteArray.empty := ⟨_, rfl⟩
        rw [← hs] at hcell
        have hc : wr.cell? ⟨b, off + k, none⟩ = some (.string s) := (hbel.cell (block_lt_of_cell hcell)).trans hcell
        have hk20 : k ≤ 20 := by have := HL.out; omega
        have hkb : k ≤ 9223372036854775806 := by omega
        clear hcell
        by_cases h200 : 200 < (s.size : Int)
        · have ts : decide (200 < (s.size : Int)) = true := decide_eq_true h200
          clear h200 hcs hk20 hC hs
          go_wp2_with (go_at_call 22; refine (awake_any _).mono ?_; rintro e w2 ⟨rfl, hb2⟩)
          go_ret
          exact ⟨rfl, hbel.trans (hb2.mono hbel.size)⟩
        · have ts : decide (200 < (s.size : Int)) = false := decide_eq_false h200
          have hs200 : s.size ≤ 200 := by omega
          obtain ⟨T, hT⟩ : ∃ T, T = C ++ s := ⟨_, rfl⟩
          have hTs : T.size = C.size + s.size := by rw [hT, ByteArray.size_append]
          have HTS : Hid (T.size ≤ 200 * (k + 1)) := by show _ ≤ _; omega
          have HTB : Hid (T.size ≤ 2305843009213693952) := by show _ ≤ _; omega
          have HNext : Hid (cat z0 (k + 1) = T) := by show _ = _; rw [cat, ← hC, ← hs, hT]
          have hsum : ¬ 9223372036854775807 < C.size + s.size := by omega
          have hcat : C ++ s = T := hT.symm
          have hWr : Hid (∀ wx, IsHash wx g (rest 4294967295 C.data.toList) C.size → Calls Try.prog 26 #[.pointer (some ⟨g, 0, none⟩), .string s] wx fun e w' => e = .returned (.tuple #[]) ∧ IsHash w' g (rest 4294967295 T.data.toList) T.size ∧ Below g wx w') := by
            intro wx hwx
            refine (write_any g _ _ s wx (rest_lt ones_lt _) (by omega) (by omega) hwx).mono ?_
            rintro e w' ⟨rfl, h1, h2⟩
            refine ⟨rfl, ?_, h2⟩
            rw [hT, cat_list, rest_append, ByteArray.size_append]
            exact h1
          obtain ⟨V, hV⟩ : ∃ V, V = sum T.data.toList := ⟨_, rfl⟩
          have HRS : Hid (∀ w : World, Calls Try.prog 24 #[.string T] w fun e w' => e = .returned (.int .u32 V) ∧ w = w') := by intro w; rw [hV]; exact rsum_any T HTB.out w
          have HHS : Hid (∀ wx, IsHash wx g (rest 4294967295 T.data.toList) T.size → Calls Try.prog 27 #[.pointer (some ⟨g, 0, none⟩)] wx fun e w' => e = .returned (.int .u32 V) ∧ wx = w') := by
            intro wx hwx
            have h := hsum_any g _ _ wx (rest_lt ones_lt T.data.toList) hwx
            rw [hV]; exact h
          clear h200 hcs hC hs hs200 hT hTs hV hk20
          go_wp2_with fail
          refine (hWr.out _ HHR.out).mono ?_
          rintro e w2 ⟨rfl, hh2, hb2⟩
          have HH2 := Lib.hid hh2
          clear hh2
          go_wp2_with (first
            | (go_at_call 27; refine (HHS.out _ HH2.out).mono ?_; rintro e w' ⟨rfl, rfl⟩)
            | (go_at_call 28; refine (hlen_any g _ _ _ HH2.out).mono ?_; rintro e w' ⟨rfl, rfl⟩)
            | (go_at_call 24; refine (HRS.out _).mono ?_; rintro e w' ⟨rfl, rfl⟩))
          go_roundw
          case rel => exact ⟨k + 1, by omega, by go_num, by rw [HNext.out], by rw [HNext.out]; exact HTS.out, by rw [HNext.out]; exact HH2.out, hbel.trans (hb2.mono hg)⟩
          case measure => simp [intOf]; omega
      · obtain rfl : k = len0 := by omega
        clear hC hcs
        go_wp2_with (go_at_call 22; refine (awake_any _).mono ?_; rintro e w2 ⟨rfl, hb2⟩)
        go_ret
        exact ⟨rfl, hbel.trans (hb2.mono hbel.size)⟩

end Go.Proofs.Ytlfhldfclleclaa.crcParts
