
/- Windows: from where on, and up to where, one has ticks of a frame; whose a tick is. Condition: the windows' numbers may be, and the frame's. -/

import Derived.Test.YthpncnbcinfllaaDoorWinR

import Derived.Test.YthpncnbcinfllaaDoorWinA

import Derived.Test.YthpncnbcinfllaaDoorRdrE

import Derived.Test.YthpncnbcinfllaaDoorFltP

namespace Go.Proofs.YthpncnbcinfllaaDoor.Win

open Go.RowKit Go.PlainAid Go.Proofs.YthpncnbcinfllaaDoor.Oct Go.Proofs.YthpncnbcinfllaaDoor.Flt Go.Proofs.YthpncnbcinfllaaDoor.Rdr Go.Proofs.YthpncnbcinfllaaDoor.Args

open Go.Proofs.YthpncnbcinfllaaDoor.Act (A3 actL flatA ActsAt I64 Wide)

set_option linter.unusedVariables false

set_option linter.unusedSimpArgs false

set_option maxRecDepth 4000 in
theorem part_any (x : A3) (fr : Int) (hx : Num x) (hf : 0 ≤ fr ∧ fr ≤ 1048576) (w : World) :
    Calls Tryd.prog 22 #[.agg (winC x), .int .i64 fr] w fun e w' => e = .returned (.tuple #[.int .i64 (fW fr x), .int .i64 (tW fr x)]) ∧ Below w.heap.size w w' := by
  have HB1 : Hid (∀ o, Below w.heap.size w (w.alloc o)) := fun o => (Below.refl _ _).alloc (Nat.le_refl _) _
  obtain ⟨s, p, a⟩ := x
  obtain ⟨h1, h2, h3, h4⟩ := hx
  obtain ⟨f1, f2⟩ := hf
  dsimp only at h1 h2 h3 h4
  unfold fW tW winC
  dsimp only
  by_cases c1 : a < 1
  · rw [if_pos c1, if_pos c1]
    clear h1 h2 h3 h4 f1 f2
    go_enter Tryd.func22, Tryd.ntmps22
    go_wp2
    go_ret2
    exact ⟨rfl, HB1.out _⟩
  · rw [if_neg c1, if_neg c1]
    by_cases c2 : fr ≤ p
    · rw [if_pos c2, if_pos c2]
      clear h1 h2 h3 h4 f1 f2
      go_enter Tryd.func22, Tryd.ntmps22
      go_wp2
      go_ret2
      exact ⟨rfl, HB1.out _⟩
    · rw [if_neg c2, if_neg c2]
      have hw : IntKind.i64.wrap (p + a) = p + a := IntWalk.i64_in _ (by omega)
      have hm1 : max p 0 = p := by omega
      have hm2 : max fr 0 = fr := by omega
      have hm3 : max (p + a) 0 = p + a := by omega
      have hn : ¬ p + a < p := by omega
      by_cases c3 : fr < p + a
      · rw [if_pos c3]
        clear h1 h2 h3 h4 f1 f2
        go_enter Tryd.func22, Tryd.ntmps22
        go_wp2
        go_ret2
        exact ⟨by simp [hm1, hm2, hm3], HB1.out _⟩
      · rw [if_neg c3]
        clear h1 h2 h3 h4 f1 f2
        go_enter Tryd.func22, Tryd.ntmps22
        go_wp2
        go_ret2
        exact ⟨by simp [hm1, hm2, hm3], HB1.out _⟩
/-- Of two places the first is free; the ways are made shorter as they are gone. -/
def FPost (w : World) (B NB nc m : Nat) (S : Nat → Bool) (i : Nat) (e : Ending) (w' : World) : Prop :=
  ∃ (j : Nat) (nx : List Int), e = .returned (.int .i64 (j : Int)) ∧ FreeAt S m i j ∧ Ways nx S m ∧ w'.ownsRow B 3 1 (.slice (some ⟨NB, 0, none⟩) (m + 1) nc) (m + 1) (nx.map (Value.int .i64)) ∧ w.grownBy w' (some NB)
theorem grown_refl (w : World) (r : Option Nat) : w.grownBy w r := ⟨rfl, rfl, rfl, Nat.le_refl _, fun _ _ _ => rfl⟩
theorem grown_trans {a b c : World} {r : Option Nat} (h : a.grownBy b r) (k : b.grownBy c r) : a.grownBy c r := ⟨k.os.trans h.os, k.tape.trans h.tape, k.output.trans h.output, Nat.le_trans h.size k.size, fun q hq hne => (k.block q (Nat.lt_of_lt_of_le hq h.size) hne).trans (h.block q hq hne)⟩
def FRel (w : World) (B NB nc m : Nat) (S : Nat → Bool) (i : Nat) (v : Value) (wr : World) : Prop :=
  ∃ (k : Nat) (nx : List Int), v = .int .i64 (k : Int) ∧ i ≤ k ∧ k ≤ m ∧ (∀ q, i ≤ q → q < k → S q = true) ∧ Ways nx S m ∧ wr.ownsRow B 3 1 (.slice (some ⟨NB, 0, none⟩) (m + 1) nc) (m + 1) (nx.map (Value.int .i64)) ∧ w.grownBy wr (some NB)
set_option maxRecDepth 4000 in
set_option maxHeartbeats 1600000 in
theorem free_any (B NB nc m : Nat) (nx : List Int) (S : Nat → Bool) (i : Nat) (w : World) (hw : Ways nx S m) (hi : i ≤ m) (hm : m ≤ 1000) (ho : w.ownsRow B 3 1 (.slice (some ⟨NB, 0, none⟩) (m + 1) nc) (m + 1) (nx.map (Value.int .i64))) :
    Calls Tryd.prog 48 #[.slice (some ⟨NB, 0, none⟩) (m + 1) nc, .int .i64 (i : Int)] w (FPost w B NB nc m S i) := by
  have HS0 : Hid (FRel w B NB nc m S i (.int .i64 (i : Int)) w) := ⟨i, nx, rfl, Nat.le_refl _, hi, fun q h1 h2 => by omega, hw, ho, grown_refl _ _⟩
  clear hw hi ho
  go_enter Tryd.func48, Tryd.ntmps48
  go_wp2
  go_loopw [1] (fun v wr => FRel w B NB nc m S i v wr) (fun v _ => m - (intOf v).toNat)
  case atStart => exact HS0.out
  case round =>
    obtain ⟨k, nx, rfl, hik, hkm, hq, hw, ho, hg⟩ := hrel
    obtain ⟨j, e1, a1, a2, a3, a4, a5⟩ := hw.2.2 k hkm
    have HW := Lib.hid hw
    have HO := Lib.hid ho
    have HG := Lib.hid hg
    have HK := Lib.hid (And.intro hik (And.intro hkm hq))
    have hc1 : wr.cell? ⟨NB, k, none⟩ = some (.int .i64 (j : Int)) := by rw [ho.cellAt k (by omega), List.getElem?_map, e1]; rfl
    have hk0 : (0 : Int) ≤ (k : Int) := by omega
    have hkl : (k : Int) < ((m + 1 : Nat) : Int) := by omega
    have hkl2 : (k : Int) < (m : Int) + 1 := by omega
    clear hw ho hg hq
    by_cases hs : S k = true
    · have hkj := a4 hs
      obtain ⟨z, e2, b1, b2, b3, b4, b5⟩ := HW.out.2.2 j a2
      have HN := Lib.hid (ways_short HW.out hkm e1 e2)
      have hc2 : wr.cell? ⟨NB, j, none⟩ = some (.int .i64 (z : Int)) := by rw [HO.out.cellAt j (by omega), List.getElem?_map, e2]; rfl
      have hne : ((j : Int) != (k : Int)) = true := by simp; omega
      have hj0 : (0 : Int) ≤ (j : Int) := by omega
      have hjl : (j : Int) < ((m + 1 : Nat) : Int) := by omega
      have hjl2 : (j : Int) < (m : Int) + 1 := by omega
      have hz := HO.out.frozenAt k
      have hst := HO.out.stored k (.int .i64 (z : Int))
      have hst2 : ((nx.map (Value.int .i64)).set k (.int .i64 (z : Int))) = (nx.set k (z : Int)).map (Value.int .i64) := by rw [List.map_set]
      rw [hst2] at hst
      have HST := Lib.hid hst
      have hc3 : (wr.setCell ⟨NB, k, none⟩ (.int .i64 (z : Int))).cell? ⟨NB, k, none⟩ = some (.int .i64 (z : Int)) := by
        rw [hst.1.cellAt k (by omega), List.getElem?_map, List.getElem?_set_self (by have := HW.out.1; omega)]; rfl
      have HF : Hid (∀ q, k ≤ q → q < z → S q = true) := fun q h1 h2 => by
        rcases Nat.lt_or_ge q j with h | h
        · exact a5 q h1 h
        · exact b5 q h h2
      have HZ : Hid (k < z ∧ z ≤ m) := ⟨by omega, b2⟩
      clear hst hst2 e1 e2 a1 a2 a3 a4 a5 b1 b2 b3 b4 b5
      go_wp2
      go_roundw
      case rel =>
        refine ⟨z, nx.set k (z : Int), rfl, by have := HK.out.1; have := HZ.out; omega, HZ.out.2, fun q h1 h2 => ?_, HN.out, HST.out.1, grown_trans HG.out HST.out.2⟩
        rcases Nat.lt_or_ge q k with h | h
        · exact HK.out.2.2 q h1 h
        · exact HF.out q h h2
      case measure => have := HZ.out; simp [intOf]; omega
    · have hs0 : S k = false := by simpa using hs
      obtain rfl := a3 hs0
      have hne : ((j : Int) != (j : Int)) = false := by simp
      have HS1 := Lib.hid hs0
      clear a1 a2 a3 a4 a5 e1 hs hs0
      go_wp2
      go_ret
      exact ⟨j, nx, rfl, ⟨HK.out.1, HK.out.2.1, HS1.out, HK.out.2.2⟩, HW.out, HO.out, HG.out⟩
end Go.Proofs.YthpncnbcinfllaaDoor.Win
