
/- Acts: no acts at all, sorted; a row of the call's own, compacted. Condition: at most a million acts. -/

import Derived.Test.YtjdgpbjjhgfikaaSrtH

import Derived.Test.YtjdgpbjjhgfikaaSrtI

namespace Go.Proofs.Ytjdgpbjjhgfikaa.Srt

open Go.RowKit Go.PlainAid

open Go.Proofs.Ytjdgpbjjhgfikaa.Cel (Two two_below own_slice)

set_option linter.unusedVariables false

set_option linter.unusedSimpArgs false

theorem insertion_nil (F : Value) (w : World) :
    Calls Try.prog 90 #[.slice none 0 0, .int .i64 0, .int .i64 0, F] w fun e w' => e = .returned (.tuple #[]) ∧ w = w' := by
  go_enter Try.func90, Try.ntmps90
  go_wp2_with fail
  go_loopw [8] (fun i W => i = .int .i64 1 ∧ w = W) (fun i _ => 0)
  case atStart => exact ⟨rfl, rfl⟩
  case round =>
    obtain ⟨rfl, rfl⟩ := hrel
    go_wp2
    simp [bodyPost, results, Try.results90, go_sem]
theorem stable_nil (F : Value) (w : World) :
    Calls Try.prog 88 #[.slice none 0 0, .int .i64 0, F] w fun e w' => e = .returned (.tuple #[]) ∧ w = w' := by
  go_enter Try.func88, Try.ntmps88
  go_wp2_with fail
  go_loopw [7, 8] (fun u v W => u = .int .i64 0 ∧ v = .int .i64 20 ∧ w = W) (fun _ _ _ => 0)
  case atStart => exact ⟨rfl, rfl, rfl⟩
  case round =>
    obtain ⟨rfl, rfl, rfl⟩ := hrel
    go_wp2_with fail
    refine (insertion_nil F w).mono ?_
    rintro e w6 ⟨rfl, rfl⟩
    go_wp2_with fail
    go_loopw [6] (fun u W => u = .int .i64 20 ∧ w = W) (fun _ _ => 0)
    case atStart => exact ⟨rfl, rfl⟩
    case round =>
      obtain ⟨rfl, rfl⟩ := hrel
      go_wp2
      simp [bodyPost, results, Try.results88, go_sem]
theorem sortStable_nil (F : Value) (w : World) :
    Calls Try.prog 81 #[.slice none 0 0, F] w fun e w' => e = .returned (.tuple #[]) ∧ w = w' := by
  go_enter Try.func81, Try.ntmps81
  go_wp2_with fail
  refine (stable_nil F w).mono ?_
  rintro e w6 ⟨rfl, rfl⟩
  go_wp2
  simp [bodyPost, results, Try.results81, go_sem]
theorem compact_nil (F : Value) (w : World) :
    Calls Try.prog 82 #[.slice none 0 0, F] w fun e w' => e = .returned (.slice none 0 0) ∧ w = w' := by
  go_enter Try.func82, Try.ntmps82
  go_wp2
  go_ret
  exact ⟨rfl, rfl⟩
theorem zeroAct (w : World) : (zeroValue 84).run Try.prog w = .ok (.agg #[.int .i64 0, .int .i64 0, .int .i64 0]) w := by kernel_rfl
theorem compact_own (L : List A3) (g n cap : Nat) (tl : List Value) (w : World) (hr : Row g tl L w) (hn : L.length = n) (hc : n ≤ cap) (hl : n ≤ 1000000) :
    Calls Try.prog 82 #[.slice (some ⟨g, 0, none⟩) n cap, .func (.func 83) #[] #[]] w fun e w' => e = .returned (.slice (some ⟨g, 0, none⟩) (compL L).length cap) ∧ (∃ tl', Row g tl' (compL L) w') ∧ Two g none w w' :=
  compact_any L g n cap tl w hr hn hc hl (fun W k m c cur hm hg hf => run_clear3 (P := Try.prog) W 23 84 (.agg #[.int .i64 0, .int .i64 0, .int .i64 0]) [.int .i64 0, .int .i64 0, .int .i64 0] Try.underlying23 zeroAct rfl rfl (by intro v hv; simp at hv; rw [hv]; rfl) g (k * 3) m c hm cur 84 hg hf)
/-- Acts in their order, the first of each alone: a row of the call's own, or nil. -/
def SoPost (L : List A3) (w : World) (e : Ending) (w' : World) : Prop :=
  ∃ M, Stab L M ∧ ((e = .returned (.slice none 0 0) ∧ M = []) ∨ ∃ g c tl, e = .returned (.slice (some ⟨g, 0, none⟩) (compL M).length c) ∧ w.heap.size ≤ g ∧ (compL M).length ≤ c ∧ Row g tl (compL M) w') ∧ Below w.heap.size w w'
theorem cmpR_len : ∀ (l : List A3) (p : A3), (cmpR p l).length ≤ l.length
  | [], _ => Nat.le_refl _
  | x :: l, p => by
    simp only [cmpR]
    split
    · have := cmpR_len l x; simp; omega
    · have := cmpR_len l x; simp; omega
theorem compL_len (l : List A3) : (compL l).length ≤ l.length := by
  cases l with
  | nil => exact Nat.le_refl _
  | cons x l => have := cmpR_len l x; simp [compL]; exact this
theorem sort_any (A : Option Addr) (cap : Nat) (L : List A3) (w : World) (hx : FlatAt w A L) (hnil : A = none → cap = 0) (hlc : L.length ≤ cap) (hl : L.length ≤ 1000000) :
    Calls Try.prog 66 #[.slice A L.length cap] w (SoPost L w) := by
  have HC := Lib.hid (clone_any A cap L w hx hnil hlc (by omega))
  have HL : Hid (L.length ≤ 1000000) := hl
  obtain ⟨n, hn⟩ : ∃ n, L.length = n := ⟨_, rfl⟩
  have HN := Lib.hid hn
  rw [hn] at HC
  rw [hn]
  clear hx hnil hlc hl hn
  go_enter Try.func66, Try.ntmps66
  go_wp2_with fail
  refine HC.out.mono ?_
  rintro e w1 ⟨V, rfl, ho, hb⟩
  rw [HN.out] at ho
  obtain ⟨A1, c1, rfl⟩ := own_slice ho
  have HB := Lib.hid hb
  rcases own_row ho HN.out with ⟨rfl, hn0, rfl⟩ | ⟨g, tl, rfl, hg, hnc, hcm, hrow⟩
  · have hL0 : L = [] := List.eq_nil_of_length_eq_zero (by have := HN.out; omega)
    have HL0 := Lib.hid hL0
    subst hn0
    clear ho hb hL0
    go_wp2_with fail
    refine (sortStable_nil _ w1).mono ?_
    rintro e w2 ⟨rfl, rfl⟩
    go_wp2_with fail
    refine (compact_nil _ w1).mono ?_
    rintro e w3 ⟨rfl, rfl⟩
    go_wp2
    go_ret
    exact ⟨[], by rw [HL0.out]; exact Stab.refl List.Pairwise.nil, .inl ⟨rfl, rfl⟩, HB.out⟩
  · have HS := Lib.hid (sortStable_any L g n c1 tl w1 hrow HN.out hnc (by have := HN.out; have := HL.out; omega))
    have HG : Hid (w.heap.size ≤ g ∧ n ≤ c1) := ⟨hg, hnc⟩
    clear ho hb hg hnc hcm hrow
    go_wp2_with fail
    refine HS.out.mono ?_
    rintro e w2 ⟨rfl, ⟨M, hM, hr2⟩, ht2⟩
    have HM := Lib.hid hM
    have hr2' : Row g tl M w2 := by simpa using hr2
    have HK := Lib.hid (compact_own M g n c1 tl w2 hr2' (by rw [hM.length]; exact HN.out) HG.out.2 (by have := HN.out; have := HL.out; omega))
    have HB2 := Lib.hid (Two.below HB.out ht2 HB.out.size HG.out.1 (fun _ h => by cases h))
    have HML : Hid (M.length = n) := by show _ = _; rw [hM.length]; exact HN.out
    clear hM hr2 hr2' ht2 HS
    go_wp2_with fail
    refine HK.out.mono ?_
    rintro e w3 ⟨rfl, ⟨tl', hr3⟩, ht3⟩
    have HR3 := Lib.hid hr3
    have HB3 := Lib.hid (Two.below HB2.out ht3 HB2.out.size HG.out.1 (fun _ h => by cases h))
    clear hr3 ht3 HK
    go_wp2
    go_ret
    exact ⟨M, HM.out, .inr ⟨g, c1, tl', rfl, HG.out.1, Nat.le_trans (compL_len M) (by have := HML.out; have := HG.out; omega), HR3.out⟩, HB3.out⟩
end Go.Proofs.Ytjdgpbjjhgfikaa.Srt
