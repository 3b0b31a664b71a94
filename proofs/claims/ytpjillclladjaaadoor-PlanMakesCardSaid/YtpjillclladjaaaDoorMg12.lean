/- Windows: their order, as the program tells it; rows of windows. No condition. Windows: from where on, and up to where, one has ticks of a frame; whose a tick is. Condition: the windows' numbers may be, and the frame's. slices.Repeat of a single number. Condition: 1 to 1,000 times. -/
import Derived.Test.YtpjillclladjaaaDoorMg11
import Derived.Test.YtpjillclladjaaaDoorMg07
import Derived.Test.YtpjillclladjaaaDoorMg09
import Derived.LoopN
import Derived.BigQuiet
import Derived.BigRegion
import Derived.Deep.RegionHeld3
import Derived.Test.YtpjillclladjaaaDoorMg08
import Derived.Test.YtpjillclladjaaaDoorMg04
import Derived.Test.YtpjillclladjaaaDoorMg05
import Derived.OwnWalk
import Derived.Laws.CopyOwn
import Derived.Laws.OwnMore
import Derived.Deep.RegionLaw
namespace Go.Proofs.YtpjillclladjaaaDoor.Win

open Go.RowKit Go.PlainAid Go.Proofs.YtpjillclladjaaaDoor.Oct Go.Proofs.YtpjillclladjaaaDoor.Flt Go.Proofs.YtpjillclladjaaaDoor.Rdr Go.Proofs.YtpjillclladjaaaDoor.Args

open Go.Proofs.YtpjillclladjaaaDoor.Act (A3 actL flatA ActsAt I64 Wide)

open Go.Sort (grow)

set_option linter.unusedVariables false

set_option linter.unusedSimpArgs false

def winC (x : A3) : Array Value := #[.int .i64 x.s, .int .i64 x.p, .int .i64 x.a]
theorem kept6 {W w2 : World} {a b c d e f : Addr} {va vb vc vd ve vf : Value} (h : W.cell? a = some va ∧ W.cell? b = some vb ∧ W.cell? c = some vc ∧ W.cell? d = some vd ∧ W.cell? e = some ve ∧ W.cell? f = some vf) (hb : Below W.heap.size W w2) : w2.cell? a = some va ∧ w2.cell? b = some vb ∧ w2.cell? c = some vc ∧ w2.cell? d = some vd ∧ w2.cell? e = some ve ∧ w2.cell? f = some vf :=
  ⟨(hb.cell (Go.block_lt_of_cell h.1)).trans h.1, (hb.cell (Go.block_lt_of_cell h.2.1)).trans h.2.1, (hb.cell (Go.block_lt_of_cell h.2.2.1)).trans h.2.2.1, (hb.cell (Go.block_lt_of_cell h.2.2.2.1)).trans h.2.2.2.1, (hb.cell (Go.block_lt_of_cell h.2.2.2.2.1)).trans h.2.2.2.2.1, (hb.cell (Go.block_lt_of_cell h.2.2.2.2.2)).trans h.2.2.2.2.2⟩
end Go.Proofs.YtpjillclladjaaaDoor.Win
namespace Go.Proofs.YtpjillclladjaaaDoor.Win

open Go.RowKit Go.PlainAid Go.Proofs.YtpjillclladjaaaDoor.Oct Go.Proofs.YtpjillclladjaaaDoor.Flt Go.Proofs.YtpjillclladjaaaDoor.Rdr Go.Proofs.YtpjillclladjaaaDoor.Args

open Go.Proofs.YtpjillclladjaaaDoor.Act (A3 actL flatA ActsAt I64 Wide)

set_option linter.unusedVariables false

set_option linter.unusedSimpArgs false

set_option maxRecDepth 4000 in
theorem part_any (x : A3) (fr : Int) (hx : Num x) (hf : 0 ≤ fr ∧ fr ≤ 1048576) (w : World) :
    Calls Tryd.prog 118 #[.agg (winC x), .int .i64 fr] w fun e w' => e = .returned (.tuple #[.int .i64 (fW fr x), .int .i64 (tW fr x)]) ∧ Below w.heap.size w w' := by
  have HB1 : Hid (∀ o, Below w.heap.size w (w.alloc o)) := fun o => (Below.refl _ _).alloc (Nat.le_refl _) _
  obtain ⟨s, p, a⟩ := x
  obtain ⟨h1, h2, h3, h4⟩ := hx
  obtain ⟨f1, f2⟩ := hf
  dsimp only at h1 h2 h3 h4
  unfold fW tW winC
  dsimp only
  by_cases c1 : a < 1
  · rw [if_pos c1, if_pos c1]
    clear h1 h2 h3 h4 f1 f2
    go_enter Tryd.func118, Tryd.ntmps118
    go_wp2
    go_ret2
    exact ⟨rfl, HB1.out _⟩
  · rw [if_neg c1, if_neg c1]
    by_cases c2 : fr ≤ p
    · rw [if_pos c2, if_pos c2]
      clear h1 h2 h3 h4 f1 f2
      go_enter Tryd.func118, Tryd.ntmps118
      go_wp2
      go_ret2
      exact ⟨rfl, HB1.out _⟩
    · rw [if_neg c2, if_neg c2]
      have hw : IntKind.i64.wrap (p + a) = p + a := IntWalk.i64_in _ (by omega)
      have hm1 : max p 0 = p := by omega
      have hm2 : max fr 0 = fr := by omega
      have hm3 : max (p + a) 0 = p + a := by omega
      have hn : ¬ p + a < p := by omega
      by_cases c3 : fr < p + a
      · rw [if_pos c3]
        clear h1 h2 h3 h4 f1 f2
        go_enter Tryd.func118, Tryd.ntmps118
        go_wp2
        go_ret2
        exact ⟨by simp [hm1, hm2, hm3], HB1.out _⟩
      · rw [if_neg c3]
        clear h1 h2 h3 h4 f1 f2
        go_enter Tryd.func118, Tryd.ntmps118
        go_wp2
        go_ret2
        exact ⟨by simp [hm1, hm2, hm3], HB1.out _⟩
/-- Of two places the first is free; the ways are made shorter as they are gone. -/
def FPost (w : World) (B NB nc m : Nat) (S : Nat → Bool) (i : Nat) (e : Ending) (w' : World) : Prop :=
  ∃ (j : Nat) (nx : List Int), e = .returned (.int .i64 (j : Int)) ∧ FreeAt S m i j ∧ Ways nx S m ∧ w'.ownsRow B 3 1 (.slice (some ⟨NB, 0, none⟩) (m + 1) nc) (m + 1) (nx.map (Value.int .i64)) ∧ w.grownBy w' (some NB)
theorem grown_refl (w : World) (r : Option Nat) : w.grownBy w r := ⟨rfl, rfl, rfl, Nat.le_refl _, fun _ _ _ => rfl⟩
theorem grown_trans {a b c : World} {r : Option Nat} (h : a.grownBy b r) (k : b.grownBy c r) : a.grownBy c r := ⟨k.os.trans h.os, k.tape.trans h.tape, k.output.trans h.output, Nat.le_trans h.size k.size, fun q hq hne => (k.block q (Nat.lt_of_lt_of_le hq h.size) hne).trans (h.block q hq hne)⟩
def FRel (w : World) (B NB nc m : Nat) (S : Nat → Bool) (i : Nat) (v : Value) (wr : World) : Prop :=
  ∃ (k : Nat) (nx : List Int), v = .int .i64 (k : Int) ∧ i ≤ k ∧ k ≤ m ∧ (∀ q, i ≤ q → q < k → S q = true) ∧ Ways nx S m ∧ wr.ownsRow B 3 1 (.slice (some ⟨NB, 0, none⟩) (m + 1) nc) (m + 1) (nx.map (Value.int .i64)) ∧ w.grownBy wr (some NB)
set_option maxRecDepth 4000 in
set_option maxHeartbeats 1600000 in
theorem free_any (B NB nc m : Nat) (nx : List Int) (S : Nat → Bool) (i : Nat) (w : World) (hw : Ways nx S m) (hi : i ≤ m) (hm : m ≤ 1000) (ho : w.ownsRow B 3 1 (.slice (some ⟨NB, 0, none⟩) (m + 1) nc) (m + 1) (nx.map (Value.int .i64))) :
    Calls Tryd.prog 121 #[.slice (some ⟨NB, 0, none⟩) (m + 1) nc, .int .i64 (i : Int)] w (FPost w B NB nc m S i) := by
  have HS0 : Hid (FRel w B NB nc m S i (.int .i64 (i : Int)) w) := ⟨i, nx, rfl, Nat.le_refl _, hi, fun q h1 h2 => by omega, hw, ho, grown_refl _ _⟩
  clear hw hi ho
  go_enter Tryd.func121, Tryd.ntmps121
  go_wp2
  go_loopw [1] (fun v wr => FRel w B NB nc m S i v wr) (fun v _ => m - (intOf v).toNat)
  case atStart => exact HS0.out
  case round =>
    obtain ⟨k, nx, rfl, hik, hkm, hq, hw, ho, hg⟩ := hrel
    obtain ⟨j, e1, a1, a2, a3, a4, a5⟩ := hw.2.2 k hkm
    have HW := Lib.hid hw
    have HO := Lib.hid ho
    have HG := Lib.hid hg
    have HK := Lib.hid (And.intro hik (And.intro hkm hq))
    have hc1 : wr.cell? ⟨NB, k, none⟩ = some (.int .i64 (j : Int)) := by rw [ho.cellAt k (by omega), List.getElem?_map, e1]; rfl
    have hk0 : (0 : Int) ≤ (k : Int) := by omega
    have hkl : (k : Int) < ((m + 1 : Nat) : Int) := by omega
    have hkl2 : (k : Int) < (m : Int) + 1 := by omega
    clear hw ho hg hq
    by_cases hs : S k = true
    · have hkj := a4 hs
      obtain ⟨z, e2, b1, b2, b3, b4, b5⟩ := HW.out.2.2 j a2
      have HN := Lib.hid (ways_short HW.out hkm e1 e2)
      have hc2 : wr.cell? ⟨NB, j, none⟩ = some (.int .i64 (z : Int)) := by rw [HO.out.cellAt j (by omega), List.getElem?_map, e2]; rfl
      have hne : ((j : Int) != (k : Int)) = true := by simp; omega
      have hj0 : (0 : Int) ≤ (j : Int) := by omega
      have hjl : (j : Int) < ((m + 1 : Nat) : Int) := by omega
      have hjl2 : (j : Int) < (m : Int) + 1 := by omega
      have hz := HO.out.frozenAt k
      have hst := HO.out.stored k (.int .i64 (z : Int))
      have hst2 : ((nx.map (Value.int .i64)).set k (.int .i64 (z : Int))) = (nx.set k (z : Int)).map (Value.int .i64) := by rw [List.map_set]
      rw [hst2] at hst
      have HST := Lib.hid hst
      have hc3 : (wr.setCell ⟨NB, k, none⟩ (.int .i64 (z : Int))).cell? ⟨NB, k, none⟩ = some (.int .i64 (z : Int)) := by
        rw [hst.1.cellAt k (by omega), List.getElem?_map, List.getElem?_set_self (by have := HW.out.1; omega)]; rfl
      have HF : Hid (∀ q, k ≤ q → q < z → S q = true) := fun q h1 h2 => by
        rcases Nat.lt_or_ge q j with h | h
        · exact a5 q h1 h
        · exact b5 q h h2
      have HZ : Hid (k < z ∧ z ≤ m) := ⟨by omega, b2⟩
      clear hst hst2 e1 e2 a1 a2 a3 a4 a5 b1 b2 b3 b4 b5
      go_wp2
      go_roundw
      case rel =>
        refine ⟨z, nx.set k (z : Int), rfl, by have := HK.out.1; have := HZ.out; omega, HZ.out.2, fun q h1 h2 => ?_, HN.out, HST.out.1, grown_trans HG.out HST.out.2⟩
        rcases Nat.lt_or_ge q k with h | h
        · exact HK.out.2.2 q h1 h
        · exact HF.out q h h2
      case measure => have := HZ.out; simp [intOf]; omega
    · have hs0 : S k = false := by simpa using hs
      obtain rfl := a3 hs0
      have hne : ((j : Int) != (j : Int)) = false := by simp
      have HS1 := Lib.hid hs0
      clear a1 a2 a3 a4 a5 e1 hs hs0
      go_wp2
      go_ret
      exact ⟨j, nx, rfl, ⟨HK.out.1, HK.out.2.1, HS1.out, HK.out.2.2⟩, HW.out, HO.out, HG.out⟩
end Go.Proofs.YtpjillclladjaaaDoor.Win

namespace Go.Proofs.YtpjillclladjaaaDoor.Win

open Go.RowKit Go.PlainAid Go.Proofs.YtpjillclladjaaaDoor.Oct Go.Proofs.YtpjillclladjaaaDoor.Flt Go.Proofs.YtpjillclladjaaaDoor.Rdr Go.Proofs.YtpjillclladjaaaDoor.Args

set_option linter.unusedVariables false

set_option linter.unusedSimpArgs false

theorem and_mask (n : Nat) (hn : n ≤ 1000) : bits .and .u64 (n : Int) 4294967295 = (n : Int) := by
  have h := u64_and_nat n 4294967295 (by omega) (by omega)
  rw [show ((4294967295 : Nat) : Int) = 4294967295 from rfl] at h
  rw [h, show (4294967295 : Nat) = 2 ^ 32 - 1 from rfl, Nat.and_two_pow_sub_one_eq_mod]
  congr 1
  omega
theorem u64_small (n : Int) (h0 : 0 ≤ n) (h1 : n ≤ 1000000) : IntKind.u64.wrap n = n := by
  unfold IntKind.wrap; simp [IntKind.bits, IntKind.signed]; omega
set_option maxRecDepth 4000 in
theorem mul_one_any (n : Nat) (hn : n ≤ 1000) (w : World) :
    Calls Tryd.prog 127 #[.int .u64 1, .int .u64 (n : Int)] w fun e w' => e = .returned (.tuple #[.int .u64 0, .int .u64 (n : Int)]) ∧ w = w' := by
  have a1 : bits .and .u64 1 4294967295 = 1 := by decide
  have a0 : bits .and .u64 0 4294967295 = 0 := by decide
  have an := and_mask n hn
  have d1 : (n : Int) / 4294967296 = 0 := by omega
  have w1 := u64_small (n : Int) (by omega) (by omega)
  have w0 : IntKind.u64.wrap 0 = 0 := by decide
  have HN : Hid (n ≤ 1000) := hn
  clear hn
  go_enter Tryd.func127, Tryd.ntmps127
  go_wp2
  go_ret2
  exact ⟨by simp [a1, an, d1, w1, a0, w0], rfl⟩
theorem info_int : (Tryd.prog.info? 3).map (fun i => (i.zero, i.size, i.bytes)) = some (some (.int .i64 0), 1, 8) := by kernel_rfl
theorem size_int : (Tryd.prog.info? 3).map (·.size) = some 1 := by kernel_rfl
/-- So many of a number, and zeros behind. -/
def rep (z : Int) (n k : Nat) : List Value := List.replicate k (.int .i64 z) ++ List.replicate (n - k) (.int .i64 0)
theorem rep_len (z : Int) {n k : Nat} (h : k ≤ n) : (rep z n k).length = n := by unfold rep; simp; omega
theorem rep_zero (z : Int) (n : Nat) : rep z n 0 = List.replicate n (.int .i64 0) := by unfold rep; simp
theorem rep_all (z : Int) (n : Nat) : rep z n n = List.replicate n (.int .i64 z) := by unfold rep; simp
theorem rep_get (z : Int) {n k j : Nat} (hj : j < k) : (rep z n k)[j]? = some (.int .i64 z) := by
  unfold rep; rw [List.getElem?_append_left (by simp; exact hj)]; simp [hj]
theorem rep_more (z : Int) {n k d : Nat} (h : k + d ≤ n) : (rep z n k).take k ++ (List.replicate d (.int .i64 z) ++ (rep z n k).drop (k + d)) = rep z n (k + d) := by
  unfold rep
  rw [List.take_left' (by simp), List.drop_append, List.drop_replicate, List.drop_replicate, List.length_replicate, show k - (k + d) = 0 by omega, show n - k - (k + d - k) = n - (k + d) by omega, List.replicate_zero, List.nil_append, ← List.append_assoc, List.replicate_append_replicate]
def RPRel (z : Int) (g n : Nat) (w : World) (v : Value) (wr : World) : Prop :=
  ∃ k : Nat, 1 ≤ k ∧ k ≤ n ∧ v = .int .i64 (k : Int) ∧ wr.heap[g]? = some (.cells (rep z n k).toArray 3 (0, 0)) ∧ Below w.heap.size w wr
set_option maxRecDepth 4000 in
set_option maxHeartbeats 1600000 in
theorem repeat_any (r : Nat) (z : Int) (n : Nat) (w : World) (h1 : 1 ≤ n) (hn : n ≤ 1000) (hr : w.cell? ⟨r, 0, none⟩ = some (.int .i64 z)) :
    Calls Tryd.prog 120 #[.slice (some ⟨r, 0, none⟩) 1 1, .int .i64 (n : Int)] w fun e w' => ∃ g, e = .returned (.slice (some ⟨g, 0, none⟩) n n) ∧ w'.ownsRow w.heap.size 3 1 (.slice (some ⟨g, 0, none⟩) n n) n (List.replicate n (.int .i64 z)) ∧ Below w.heap.size w w' := by
  obtain ⟨i0, hi, hz0, hz1, hz2⟩ := info_parts info_int
  have HM := Lib.hid (fun w => mul_one_any n hn w)
  have HR := Lib.hid hr
  have w1 := u64_small (n : Int) (by omega) (by omega)
  have w2 : IntKind.i64.wrap (n : Int) = n := IntWalk.i64_in _ (by omega)
  have c1 : ¬ (n : Int) < 0 := by omega
  have c2 : ¬ (9223372036854775807 : Int) < (n : Int) := by omega
  have HSI := Lib.hid size_int
  have HN : Hid (1 ≤ n ∧ n ≤ 1000) := ⟨h1, hn⟩
  clear hr h1 hn
  go_enter Tryd.func120, Tryd.ntmps120
  go_wp2_with (first
    | (go_at_call 127; refine (HM.out _).mono ?_; rintro e w' ⟨rfl, rfl⟩)
    | ((with_reducible show wpList _ _ _ _ _ _); refine wpList_make_full _ rfl _ _ 24 rfl w.heap.size 3 i0 (.int .i64 0) 1 Tryd.underlying24 hi hz0 hz1 .i64 .i64 _ _ n rfl rfl rfl rfl ?m1 ?m2 ?m3 ?_))
  case m1 => have := HN.out; rw [hz2]; omega
  case m2 => have := HN.out; unfold maxLen; omega
  case m3 => exact Nat.le_refl _
  intro w1 ho1 hg1
  have hb1 : Below w.heap.size w w1 := (Below.refl _ _).grown hg1 (Nat.le_refl _) (fun k hk => by cases hk)
  have hrow : w1.heap[w.heap.size]? = some (.cells (rep z n 0).toArray 3 (0, 0)) := by
    rcases ho1.2 with ⟨e, _⟩ | ⟨g, cap, cur, e, _, hg, _, _, h3, h4⟩
    · cases e
    · cases e
      have e1 : cur = (rep z n 0).toArray := by
        apply Array.ext'
        rw [rep_zero]
        simp only [List.toList_toArray]
        have h5 := toList_madeCells_one (.int .i64 0) n
        rw [h5] at h4
        rw [← h4, List.take_of_length_le (by simp; omega)]
      rw [← e1]; exact hg
  have hlt : r < w.heap.size := Go.block_lt_of_cell HR.out
  have hr1 := (hb1.cell (p := ⟨r, 0, none⟩) hlt).trans HR.out
  have HROW := Lib.hid hrow
  have HR1 := Lib.hid hr1
  have HB1 := Lib.hid hb1
  obtain ⟨g, hgg⟩ : ∃ g, w.heap.size = g := ⟨_, rfl⟩
  have HGG := Lib.hid hgg
  rw [hgg] at HROW
  rw [hgg]
  clear ho1 hg1 hrow hlt hr1 hb1 hgg
  go_wp2_with ((with_reducible show wpList _ _ _ _ _ _); refine wpList_copy_own rfl (.tmp 31) (.tmp 32) 24 24 rfl 3 Tryd.underlying24 HSI.out g 0 n n ⟨r, 0, none⟩ 1 1 rfl rfl (rep z n 0).toArray 3 HROW.out [.int .i64 z] ?k1 ?k2 ?k3 ?k4 ?_)
  case k1 => have := HN.out; simp [Nat.min_def]; omega
  case k2 =>
    intro j v hj
    have hj0 : j = 0 := by have := (List.getElem?_eq_some_iff.1 hj).1; simpa using this
    subst hj0
    have hv : Value.int .i64 z = v := by simpa using hj
    rw [← hv]
    exact HR1.out
  case k3 => have := HN.out; simp [rep_len z (Nat.zero_le n)]; omega
  case k4 => intro v hv; simp at hv; rw [hv]; rfl
  have hrow2 := setRow_heap w1 g _ (((rep z n 0).toArray.toList.take 0 ++ ([Value.int .i64 z] ++ (rep z n 0).toArray.toList.drop (0 + [Value.int .i64 z].length))).toArray) 3 (0, 0) HROW.out
  have hb2 : Below w.heap.size w (w1.setRow g (((rep z n 0).toArray.toList.take 0 ++ ([Value.int .i64 z] ++ (rep z n 0).toArray.toList.drop (0 + [Value.int .i64 z].length))).toArray)) := below_setRow HB1.out (by rw [HGG.out]; exact Nat.le_refl _) _
  have e1 : ((rep z n 0).toArray.toList.take 0 ++ ([Value.int .i64 z] ++ (rep z n 0).toArray.toList.drop (0 + [Value.int .i64 z].length))) = rep z n 1 := by
    have h := rep_more z (n := n) (k := 0) (d := 1) (by have := HN.out; omega)
    simpa using h
  rw [e1] at hrow2 hb2
  have HE : Hid (Value.int .i64 z :: (rep z n 0).tail = rep z n 1) := by show _ = _; rw [← e1]; simp
  have HR2 := Lib.hid hrow2
  have HB2 := Lib.hid hb2
  clear hrow2 hb2
  go_loopw [8] (fun v wr => RPRel z g n w v wr) (fun v _ => n - (intOf v).toNat)
  case atStart => rw [HE.out]; exact ⟨1, Nat.le_refl _, HN.out.1, rfl, HR2.out, HB2.out⟩
  case round =>
    obtain ⟨k, hk1, hkn, rfl, hrow, hb⟩ := hrel
    have HRK := Lib.hid hrow
    have HBK := Lib.hid hb
    clear hrow hb e1 HE HR2 HB2 HROW
    by_cases hlt : k < n
    · have t1 : (0 : Int) ≤ k := by omega
      have t2 : (k : Int) ≤ n := by omega
      have t3 : ¬ n = k := by omega
      have t4 : ¬ n - k = 0 := by omega
      have t5 : (k : Int) < n := by omega
      obtain ⟨d, hd⟩ : ∃ d, Nat.min k (n - k) = d := ⟨_, rfl⟩
      have hdd : 1 ≤ d ∧ d ≤ k ∧ k + d ≤ n := by rw [← hd]; simp only [Nat.min_def]; split <;> omega
      have HD := Lib.hid (And.intro hd hdd)
      clear hd hdd
      go_wp2
      have HBG : Hid (w.heap.size ≤ g) := by show _ ≤ _; rw [HGG.out]; exact Nat.le_refl _
      have HSRC : Hid (∀ j v, (List.replicate d (Value.int .i64 z))[j]? = some v → wr.cell? ((Addr.mk g 0 none).add j) = some v) := fun j v hj => by
        have hjd : j < d := by have := (List.getElem?_eq_some_iff.1 hj).1; simpa using this
        have hv : Value.int .i64 z = v := by rw [List.getElem?_replicate, if_pos hjd] at hj; exact Option.some.inj hj
        have e : (Addr.mk g 0 none).add j = ⟨g, j, none⟩ := by cases j <;> simp [Addr.add]
        rw [e, cell_of_row _ _ _ _ _ _ HRK.out, ← hv]
        have := HD.out
        simp only [List.getElem?_toArray]
        exact rep_get z (by omega)
      have HCL : Hid ((List.replicate d (Value.int .i64 z)).length = Nat.min k (n - k)) := by show _ = _; rw [List.length_replicate]; exact HD.out.1.symm
      have HFT : Hid (k + (List.replicate d (Value.int .i64 z)).length ≤ (rep z n k).length) := by show _ ≤ _; rw [List.length_replicate, rep_len z hkn]; exact HD.out.2.2.2
      have HON : Hid (∀ v ∈ List.replicate d (Value.int .i64 z), v.oneCell' = true) := fun v hv => by rw [(List.mem_replicate.1 hv).2]; rfl
      have HNEW : Hid (splice (rep z n k) k (List.replicate d (Value.int .i64 z)) = rep z n (k + d)) := by
        have h := rep_more z (n := n) (k := k) (d := d) HD.out.2.2.2
        show splice _ _ _ = _
        unfold splice
        rw [List.length_replicate]
        exact h
      have HBD : Hid (Below w.heap.size w wr.drew) := ⟨HBK.out.os, HBK.out.tape, HBK.out.output, HBK.out.size, HBK.out.block⟩
      have HCS : Hid ((List.replicate d (Value.int .i64 z)).length = d) := List.length_replicate
      obtain ⟨cur, hcur⟩ : ∃ c, rep z n k = c := ⟨_, rfl⟩
      obtain ⟨cs, hcs⟩ : ∃ c, List.replicate d (Value.int .i64 z) = c := ⟨_, rfl⟩
      rw [hcur] at HRK HFT HNEW
      rw [hcs] at HSRC HCL HFT HON HNEW HCS
      clear hcur hcs
      go_region_law (refine step_copy_splice rfl (.tmp 41) (.tmp 44) 24 24 rfl 3 Tryd.underlying24 HSI.out (some ⟨g, k, none⟩) (some ⟨g, 0, none⟩) (n - k) (n - k) k n (by simp [Act.eval, Act.put]) (by simp [Act.eval, Act.put]) g k cur 3 HRK.out cs HCL.out (fun _ => ⟨rfl, _, rfl, HSRC.out⟩) HFT.out HON.out w.heap.size w HBD.out HBG.out ?_; intro w4 hg4 hb4; have HG4 := Lib.hid hg4.out; have HB4 := Lib.hid hb4; clear hg4 hb4)
      all_goals
        have hwk : IntKind.i64.wrap ((k : Int) + (d : Int)) = (k : Int) + d := IntWalk.i64_in _ (by have := HD.out; have := HN.out; omega)
        rw [HCS.out]
        go_simp
        go_roundw
        case rel => exact ⟨.int .i64 ((k : Int) + (d : Int)), _, _, _, _, _, _, _, _, _, _, _, _, _, ⟨k + d, by omega, HD.out.2.2.2, by simp, by rw [← HNEW.out]; exact HG4.out, HB4.out⟩, rfl⟩
        case measure => have := HD.out; simp [intOf]; omega
    · obtain rfl : k = n := by omega
      rw [rep_all] at HRK
      go_wp2
      go_ret
      refine ⟨g, rfl, ⟨by simp, .inr ⟨g, k, _, rfl, ?_, HRK.out, Nat.le_refl _, ?_, by simp, by simp⟩⟩, HBK.out⟩
      · rw [HGG.out]; exact Nat.le_refl _
      · have := HN.out; unfold maxLen; omega
end Go.Proofs.YtpjillclladjaaaDoor.Win
