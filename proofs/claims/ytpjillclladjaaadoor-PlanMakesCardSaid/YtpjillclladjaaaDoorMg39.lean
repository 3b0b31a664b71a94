/- Plans: how many ticks needs take (plan.Load). Condition: at most 1,000 needs. Windows: whose a tick is. Condition: at most 1,000 windows of plain numbers, a frame of 0 to 1,048,576. -/
import Derived.Test.YtpjillclladjaaaDoorMg38
import Derived.BigQuiet
import Derived.Test.YtpjillclladjaaaDoorMg12
import Derived.OwnWalk
namespace Go.Proofs.YtpjillclladjaaaDoor.Pln

open Go.RowKit Go.PlainAid Go.Proofs.YtpjillclladjaaaDoor.Oct Go.Proofs.YtpjillclladjaaaDoor.Flt Go.Proofs.YtpjillclladjaaaDoor.Rdr Go.Proofs.YtpjillclladjaaaDoor.Args Go.Proofs.YtpjillclladjaaaDoor.Win Go.Proofs.YtpjillclladjaaaDoor.Nee

open Go.Proofs.YtpjillclladjaaaDoor.Act (A3 ActsAt I64 Wide)

set_option linter.unusedVariables false

set_option linter.unusedSimpArgs false

/-- How many ticks the first needs take. -/
def loadS (fr : Int) (l : List A3) : Nat → Int
  | 0 => 0
  | k + 1 => loadS fr l k + Int.tdiv fr (nd l k).p * (nd l k).a
theorem quo_in {fr p a : Int} (hf : 1 ≤ fr ∧ fr ≤ 4096) (hp : 1 ≤ p ∧ p ≤ 4096) (ha : 0 ≤ a ∧ a ≤ p) : 0 ≤ Int.tdiv fr p ∧ Int.tdiv fr p ≤ 4096 ∧ 0 ≤ Int.tdiv fr p * a ∧ Int.tdiv fr p * a ≤ 16777216 := by
  have h1 : Int.tdiv fr p = fr / p := Int.tdiv_eq_ediv_of_nonneg (by omega)
  have h2 := Int.ediv_nonneg (show 0 ≤ fr by omega) (show 0 ≤ p by omega)
  have h3 := Int.ediv_le_self p (show 0 ≤ fr by omega)
  rw [h1]
  have h4 := Int.mul_nonneg h2 ha.1
  have h5 : fr / p * a ≤ 4096 * 4096 := Int.mul_le_mul (by omega) (by omega) ha.1 (by omega)
  exact ⟨h2, by omega, h4, by omega⟩
theorem load_in {fr : Int} {l : List A3} (hf : 1 ≤ fr ∧ fr ≤ 4096) (hp : PerOk l) : ∀ k, k ≤ l.length → 0 ≤ loadS fr l k ∧ loadS fr l k ≤ (k : Int) * 16777216
  | 0, _ => by simp [loadS]
  | k + 1, h => by
    have ih := load_in hf hp k (by omega)
    obtain ⟨h1, h2, h3, h4⟩ := hp k (by omega)
    have h5 := quo_in hf ⟨h1, h2⟩ ⟨h3, h4⟩
    unfold loadS
    omega
theorem field_0 (a b c : Int) (w : World) : (Instr.field 40 (.agg #[.int .i64 a, .int .i64 b, .int .i64 c]) 0).run Tryd.prog w = .ok (.int .i64 a) w := by kernel_rfl
def LdRel (fr : Int) (l : List A3) (n : Nat) (w : World) (v i : Value) (W : World) : Prop :=
  ∃ k : Nat, k ≤ n ∧ i = .int .i64 (k : Int) ∧ v = .int .i64 (loadS fr l k) ∧ Below w.heap.size w W
set_option maxRecDepth 8000 in
set_option maxHeartbeats 6400000 in
theorem pload_any (fr : Int) (P : Option Addr) (pc n : Nat) (l : List A3) (w : World) (hn : Names w) (h1 : ActsAt w P l) (hw : ∀ x ∈ l, Wide x) (hl : l.length = n) (hl2 : n ≤ 1000) :
    Calls Tryd.prog 10 #[.int .i64 fr, .slice P n pc] w fun e w' => e = .returned (.tuple #[.int .i64 (if (wrP fr l).1 = 0 then loadS fr l n else 0), .int .i64 ((wrP fr l).1 : Nat)]) ∧ Below w.heap.size w w' := by
  have HWR := Lib.hid (pwrong_any fr P pc n l w hn h1 hw hl hl2)
  have HACT := Lib.hid (fun W (b : Below w.heap.size w W) => h1.kept b)
  have HL := Lib.hid hl
  have HL2 : Hid (n ≤ 1000) := hl2
  obtain ⟨q, hq⟩ : ∃ q, wrP fr l = q := ⟨_, rfl⟩
  have HQ := Lib.hid hq
  rw [hq]
  obtain ⟨qk, qi⟩ := q
  dsimp only
  obtain ⟨r, hr⟩ : ∃ r, (if qk = 0 then loadS fr l n else 0) = r := ⟨_, rfl⟩
  have HR := Lib.hid hr
  rw [hr]
  clear hn h1 hw hl hl2 hq hr
  go_enter Tryd.func10, Tryd.ntmps10
  go_wp2_with fail
  refine HWR.out.mono ?_
  rintro e w1 ⟨x1, rfl, hx1, hx2, hb1⟩
  have HB1 := Lib.hid hb1
  have HX1 := Lib.hid hx1
  have HX2 := Lib.hid hx2
  clear hx1 hx2 hb1 HWR
  by_cases c0 : fr < 1 ∨ 4096 < fr
  · have hx := HX1.out c0
    have HE : Hid (qk = 18) := by
      have h := HQ.out
      unfold wrP at h
      rw [if_pos c0] at h
      injection h with h _
      exact h.symm
    have hqk := HE.out
    subst hqk
    obtain rfl : r = 0 := by rw [← HR.out]; rfl
    have HOF := Lib.hid (of_any x1 [] 18 w1 hx (by simp))
    obtain rfl : x1 = .iface 94 (.int .i64 18) := hx
    unfold fltV at HOF
    have hf0 := fun (b c : Int) (wx : World) => field_0 18 b c wx
    clear c0 HX1 HX2
    go_wp2_with (go_at_call 12; refine HOF.out.mono ?_; rintro e w2 ⟨rfl, hb2⟩; have HB2 := Lib.hid (HB1.out.trans (hb2.mono HB1.out.size)); clear hb2)
    go_ret2
    exact ⟨rfl, HB2.out⟩
  · have hx := HX2.out c0
    have HF : Hid (1 ≤ fr ∧ fr ≤ 4096) := ⟨by omega, by omega⟩
    have HQ2 : Hid (chkP fr (-1) 0 l = (qk, qi)) := by
      have h := HQ.out
      unfold wrP at h
      rw [if_neg c0] at h
      exact h
    rw [HQ2.out] at hx
    dsimp only at hx
    rcases hx with ⟨k0, a0, rfl⟩ | ⟨k1, k2, hflt⟩
    · have HOKS := Lib.hid (perOk_of HF.out (by rw [HQ2.out]; exact k0))
      subst k0
      have HR2 : Hid (r = loadS fr l n) := by show _ = _; rw [← HR.out]; rfl
      have HS0 : Hid (LdRel fr l n w (.int .i64 0) (.int .i64 0) w1) := ⟨0, Nat.zero_le _, rfl, rfl, HB1.out⟩
      clear c0 HX1 HX2 a0 HR HQ2 HQ
      go_wp2_with fail
      go_loopw [7, 20] (fun v i W => LdRel fr l n w v i W) (fun _ i _ => n - (intOf i).toNat)
      case atStart => exact HS0.out
      case round =>
        obtain ⟨W0, hW0⟩ : ∃ X, wr = X := ⟨_, rfl⟩
        rw [hW0] at hrel
        rw [hW0]
        clear hW0 wr HS0
        obtain ⟨k, hk, rfl, rfl, hb⟩ := hrel
        have HB := Lib.hid hb
        have hl2 := HL2.out
        clear hb
        by_cases hlt : k < n
        · have hkl : k < l.length := by rw [HL.out]; exact hlt
          obtain ⟨ax, rfl, g0, g1, g2⟩ := HACT.out W0 HB.out k _ (nd_at hkl)
          obtain ⟨u1, u2, u3, u4⟩ := HOKS.out.1 k hkl
          have hst : loadS fr l (k + 1) = loadS fr l k + Int.tdiv fr (nd l k).p * (nd l k).a := rfl
          have hin := load_in HF.out HOKS.out.1 k (by omega)
          have hqi := quo_in HF.out ⟨u1, u2⟩ ⟨u3, u4⟩
          obtain ⟨x, hx⟩ : ∃ x, nd l k = x := ⟨_, rfl⟩
          rw [hx] at g0 g1 g2 u1 u2 u3 u4 hst hqi
          obtain ⟨s, p, a⟩ := x
          dsimp only at g0 g1 g2 u1 u2 u3 u4 hst hqi
          obtain ⟨m, hm⟩ : ∃ m, Int.tdiv fr p = m := ⟨_, rfl⟩
          rw [hm] at hst hqi
          obtain ⟨ma, hma⟩ : ∃ x, m * a = x := ⟨_, rfl⟩
          rw [hma] at hst hqi
          obtain ⟨ls, hls⟩ : ∃ x, loadS fr l k = x := ⟨_, rfl⟩
          rw [hls] at hst hin
          rw [hls]
          have HST := Lib.hid hst
          have hw1 : IntKind.i64.wrap m = m := IntWalk.i64_in _ (by omega)
          have hw2 : IntKind.i64.wrap (m * a) = ma := by rw [hma]; exact IntWalk.i64_in _ (by omega)
          have hw3 : IntKind.i64.wrap (ls + ma) = ls + ma := IntWalk.i64_in _ (by omega)
          have hki : (0 : Int) ≤ k := by omega
          have hkb : (k : Int) < n := by omega
          have hk1 : IntKind.i64.wrap ((k : Int) + 1) = (k : Int) + 1 := IntWalk.i64_in _ (by omega)
          have hp0 : ¬ p = 0 := by omega
          have hp1 : (p == 0) = false := by simp [hp0]
          have hb1 : Below W0.heap.size W0 (W0.alloc (.cells #[.int .i64 s, .int .i64 p, .int .i64 a] 44)) := (Below.refl _ _).alloc (Nat.le_refl _) _
          have hx1 := heap_alloc_new W0 (.cells #[.int .i64 s, .int .i64 p, .int .i64 a] 44)
          have HB1' := Lib.hid (HB.out.trans (hb1.mono HB.out.size))
          have HKN : Hid (k < n) := hlt
          clear hst hin hqi hx u1 u2 u3 u4 hma hls hb1 hx1 hk hkl
          go_wp2_with fail
          go_quiet (fail)
          go_wp2
          go_roundw
          case rel => exact ⟨k + 1, by have := HKN.out; omega, by go_num, by rw [HST.out], ⟨HB1'.out.os, HB1'.out.tape, HB1'.out.output, HB1'.out.size, HB1'.out.block⟩⟩
          case measure => have := HKN.out; simp [intOf]; omega
        · obtain rfl : k = n := by omega
          rw [← HR2.out]
          go_wp2
          go_ret2
          exact ⟨rfl, HB.out⟩
    · obtain ⟨u, y, hif⟩ : ∃ u y, x1 = .iface u y := wrongA_if (.inr ⟨k1, k2, hflt⟩) (by omega)
      obtain rfl : r = 0 := by rw [← HR.out, if_neg (by omega)]
      have HOF := Lib.hid (of_any x1 [(false, qi)] qk w1 hflt (by simp))
      subst hif
      unfold fltV at HOF
      have hf0 := fun (b c : Int) (wx : World) => field_0 (qk : Int) b c wx
      clear hflt k1 k2 c0 HX1 HX2 HR HQ2 HQ
      go_wp2_with (go_at_call 12; refine HOF.out.mono ?_; rintro e w2 ⟨rfl, hb2⟩; have HB2 := Lib.hid (HB1.out.trans (hb2.mono HB1.out.size)); clear hb2)
      go_ret2
      exact ⟨rfl, HB2.out⟩
end Go.Proofs.YtpjillclladjaaaDoor.Pln
namespace Go.Proofs.YtpjillclladjaaaDoor.Win

open Go.RowKit Go.PlainAid Go.Proofs.YtpjillclladjaaaDoor.Oct Go.Proofs.YtpjillclladjaaaDoor.Flt Go.Proofs.YtpjillclladjaaaDoor.Rdr Go.Proofs.YtpjillclladjaaaDoor.Args

open Go.Proofs.YtpjillclladjaaaDoor.Act (A3 actL flatA ActsAt I64 Wide row_beside row_base)

set_option linter.unusedVariables false

set_option linter.unusedSimpArgs false

def OnRel (xs : Array Value) (fr t r : Int) (l : List A3) (w : World) (i : Value) (wr : World) : Prop :=
  ∃ k : Nat, k ≤ l.length ∧ i = .int .i64 (k : Int) ∧ ownT fr (l.drop k) t = r ∧ wr.heap[w.heap.size]? = some (.cells xs 31 (0, 0)) ∧ Below w.heap.size w wr
end Go.Proofs.YtpjillclladjaaaDoor.Win
