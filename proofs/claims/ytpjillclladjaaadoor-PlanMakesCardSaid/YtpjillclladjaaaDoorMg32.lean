/- Plans: the windows of a word, as the document tells them; the longest row without an owner; the chapter's example. Condition: at most 1,048,576 ticks. -/
import Derived.Test.YtpjillclladjaaaDoorMg30
import Derived.Test.YtpjillclladjaaaDoorMg31
import Derived.BigQuiet
namespace Go.Proofs.YtpjillclladjaaaDoor.Pln

open Go.RowKit Go.PlainAid Go.Proofs.YtpjillclladjaaaDoor.Oct Go.Proofs.YtpjillclladjaaaDoor.Flt Go.Proofs.YtpjillclladjaaaDoor.Rdr Go.Proofs.YtpjillclladjaaaDoor.Args Go.Proofs.YtpjillclladjaaaDoor.Win Go.Proofs.YtpjillclladjaaaDoor.Nee

open Go.Proofs.YtpjillclladjaaaDoor.Act (A3 actL flatA flatA_snoc flatA_get flatA_len ActsAt I64 Wide row_beside row_base)

set_option linter.unusedVariables false

set_option linter.unusedSimpArgs false

def RwO (n : Nat) (l : List Int) (w : World) (v i : Value) (W : World) : Prop :=
  ∃ (k : Nat) (A : Option Addr) (c : Nat), k ≤ n ∧ i = .int .i64 (k : Int) ∧ (wst l k).2 = k ∧ v = .slice A (wst l k).1.length c ∧ W.ownsRow w.heap.size 82 3 (.slice A (wst l k).1.length c) (wst l k).1.length (flatA (wst l k).1) ∧ Below w.heap.size w W
def RwI (n : Nat) (l : List Int) (k : Nat) (W0 : World) (v : Value) (W : World) : Prop :=
  ∃ m : Nat, 1 ≤ m ∧ k + m ≤ n ∧ v = .int .i64 (m : Int) ∧ (∀ j, j + 1 < m → goesB l (k + j) = true) ∧ Below W0.heap.size W0 W
theorem win_lit (w : World) : w.heap.size ≤ w.heap.size → (w.alloc (.cells #[] 82)).ownsRow w.heap.size 82 3 (.slice (some ⟨w.heap.size, 0, none⟩) 0 0) 0 [] := fun _ => by
  refine ⟨rfl, .inr ⟨w.heap.size, 0, _, rfl, Nat.le_refl _, heap_alloc_new _ _, Nat.le_refl _, by unfold maxLen; omega, rfl, rfl⟩⟩
set_option maxRecDepth 8000 in
set_option maxHeartbeats 6400000 in
theorem rwins_any (P : Option Addr) (pc : Nat) (l : List Int) (n : Nat) (w : World) (h : WAt w P l) (hn : l.length = n) (hl : n ≤ 1048576) :
    Calls Tryd.prog 18 #[.slice P n pc] w fun e w' => ∃ A c, e = .returned (.slice A (winsL l).length c) ∧ w'.ownsRow w.heap.size 82 3 (.slice A (winsL l).length c) (winsL l).length (flatA (winsL l)) ∧ Below w.heap.size w w' := by
  obtain ⟨i0, hi, hz0, hz1, hz2⟩ := info_parts infoWin2
  have HW := Lib.hid (fun W (b : Below w.heap.size w W) => h.kept b)
  have HN := Lib.hid hn
  have HL : Hid (n ≤ 1048576) := hl
  have hb0 : Below w.heap.size w (w.alloc (.cells #[] 82)) := (Below.refl _ _).alloc (Nat.le_refl _) _
  have HS0 : Hid (RwO n l w (.slice (some ⟨w.heap.size, 0, none⟩) 0 0) (.int .i64 0) (w.alloc (.cells #[] 82))) := ⟨0, some ⟨w.heap.size, 0, none⟩, 0, Nat.zero_le _, rfl, rfl, rfl, win_lit w (Nat.le_refl _), hb0⟩
  clear h hn hl hb0
  go_enter Tryd.func18, Tryd.ntmps18
  go_wp2_with fail
  go_loopw [3, 4] (fun v i W => RwO n l w v i W) (fun _ i _ => n - (intOf i).toNat)
  case atStart => exact HS0.out
  case round =>
    obtain ⟨W0, hW0⟩ : ∃ X, wr = X := ⟨_, rfl⟩
    rw [hW0] at hrel
    rw [hW0]
    clear hW0 wr HS0
    obtain ⟨k, A, c, hk, rfl, hk2, rfl, ho, hb⟩ := hrel
    have HK2 := Lib.hid hk2
    have hwl := wst_le l k
    obtain ⟨L, hLX⟩ : ∃ X, (wst l k).1 = X := ⟨_, rfl⟩
    have HLX := Lib.hid hLX
    rw [hLX] at ho hwl
    rw [hLX]
    obtain ⟨M, hM⟩ : ∃ m, L.length = m := ⟨_, rfl⟩
    have HLN := Lib.hid hM
    rw [hM] at ho hwl
    rw [hM]
    have HMK : Hid (M ≤ n) := by show _ ≤ _; omega
    have HO := Lib.hid ho
    have HB := Lib.hid hb
    have hll := HL.out
    clear ho hb hwl hk2 hLX hM
    by_cases hlt : k < n
    · obtain ⟨y, rfl, c0⟩ := HW.out W0 HB.out k (by rw [HN.out]; exact hlt)
      obtain ⟨v, hv⟩ : ∃ v, vz l k = v := ⟨_, rfl⟩
      have HV := Lib.hid hv
      have HKT : Hid (k < n) := hlt
      have hki : (0 : Int) ≤ k := by omega
      have hkb : (k : Int) < n := by omega
      have HS1 : Hid (RwI n l k W0 (.int .i64 1) W0) := ⟨1, Nat.le_refl _, hlt, rfl, fun j hj => by omega, Below.refl _ _⟩
      clear hv c0 hk
      go_wp2_with fail
      go_loopw [5] (fun u W => RwI n l k W0 u W) (fun u _ => n - (intOf u).toNat)
      case atStart => exact HS1.out
      case round =>
        obtain ⟨W1, hW1⟩ : ∃ X, wr = X := ⟨_, rfl⟩
        rw [hW1] at hrel
        rw [hW1]
        clear hW1 wr HS1
        obtain ⟨m, hm1, hmn, rfl, hgo, hb1⟩ := hrel
        have HM1 : Hid (1 ≤ m ∧ k + m ≤ n) := ⟨hm1, hmn⟩
        have HGO := Lib.hid hgo
        have HB1 := Lib.hid hb1
        have HBW := Lib.hid (HB.out.trans (hb1.mono HB.out.size))
        have hll2 := HL.out
        have hs1 : IntKind.i64.wrap ((k : Int) + (m : Int)) = ((k + m : Nat) : Int) := IntWalk.i64_in _ (by omega)
        have hm2 : IntKind.i64.wrap ((m : Int) + 1) = (m : Int) + 1 := IntWalk.i64_in _ (by omega)
        have hvr := vz_run l k (m - 1) (fun j hj => hgo j (by omega))
        rw [HV.out] at hvr
        have hge : goesB l (k + (m - 1)) = (decide (k + m < n) && (vz l (k + m) == v)) := by
          unfold goesB
          rw [hvr, HN.out, show k + (m - 1) + 1 = k + m by omega]
        obtain ⟨s, hs⟩ : ∃ s, k + m = s := ⟨_, rfl⟩
        rw [hs] at hge hs1
        have HSS := Lib.hid hs
        clear hgo hb1 hvr hm1 hmn
        by_cases q1 : s < n
        · obtain ⟨y1, e1, c1⟩ := HW.out W1 HBW.out s (by rw [HN.out]; exact q1)
          obtain rfl := Option.some.inj e1
          obtain ⟨y2, e2, c2⟩ := HW.out W1 HBW.out k (by rw [HN.out]; omega)
          obtain rfl := Option.some.inj e2
          obtain ⟨u, hu⟩ : ∃ u, vz l s = u := ⟨_, rfl⟩
          rw [HV.out] at c2
          rw [hu] at c1 hge
          rw [decide_eq_true q1, Bool.true_and] at hge
          have q2 : (s : Int) < n := by omega
          have q3 : (0 : Int) ≤ s := by omega
          by_cases q4 : u = v
          · have q5 : (u == v) = true := by simp [q4]
            rw [q5] at hge
            have HNX : Hid (∀ j, j + 1 < m + 1 → goesB l (k + j) = true) := fun j hj => by
              rcases Nat.lt_or_ge (j + 1) m with h | h
              · exact HGO.out j h
              · obtain rfl : j = m - 1 := by omega
                exact hge
            have HQ1 : Hid (s < n) := q1
            clear q4 e1 e2 hu hs hge q1
            go_wp2_with fail
            go_quiet (fail)
            go_wp2
            go_roundw
            case rel => exact ⟨m + 1, by omega, by have := HQ1.out; have := HSS.out; omega, by go_num, HNX.out, ⟨HB1.out.os, HB1.out.tape, HB1.out.output, HB1.out.size, HB1.out.block⟩⟩
            case measure => have := HQ1.out; have := HSS.out; simp [intOf]; omega
          · have q5 : (u == v) = false := by simp [q4]
            rw [q5] at hge
            have HGF : Hid (goesB l (k + (m - 1)) = false) := hge
            clear q4 e1 e2 hu hs hge q1
            go_wp2_with fail
            go_quiet (fail)
            obtain ⟨W2, hW2⟩ : ∃ X, W1.drewN nq = X := ⟨_, rfl⟩
            have HB2 : Hid (Below W0.heap.size W0 W2) := by show Below _ _ _; rw [← hW2]; exact ⟨HB1.out.os, HB1.out.tape, HB1.out.output, HB1.out.size, HB1.out.block⟩
            rw [hW2]
            clear hW2 c1 c2 HB1 HBW
            have HST := Lib.hid (wst_run l k m HM1.out.1 HGO.out HGF.out HK2.out)
            rw [HV.out, HLX.out] at HST
            have HKM : Hid (M ≤ n ∧ k + m ≤ n ∧ n ≤ 1048576 ∧ 1 ≤ m) := ⟨HMK.out, HM1.out.2, HL.out, HM1.out.1⟩
            have HOX := Lib.hid (owns_kept HO.out HB2.out)
            have HBX := Lib.hid (HB.out.trans (HB2.out.mono HB.out.size))
            have hmw : IntKind.i64.wrap ((m : Int) - 1) = (m : Int) - 1 := IntWalk.i64_in _ (by have := HKM.out; omega)
            have hmx : IntKind.i64.wrap ((k : Int) + ((m : Int) - 1)) = (k : Int) + ((m : Int) - 1) := IntWalk.i64_in _ (by have := HKM.out; omega)
            have hmy : IntKind.i64.wrap ((k : Int) + ((m : Int) - 1) + 1) = ((k + m : Nat) : Int) := by rw [show (k : Int) + ((m : Int) - 1) + 1 = ((k + m : Nat) : Int) by omega]; exact IntWalk.i64_in _ (by have := HKM.out; omega)
            obtain ⟨yK, eK, cK⟩ := HW.out W2 HBX.out k (by have := HKM.out; rw [HN.out]; omega)
            obtain rfl := Option.some.inj eK
            rw [HV.out] at cK
            clear eK HGO HGF HK2 HB2 HO HB
            by_cases q5 : v = -1
            · have q6 : (v != -1) = false := by simp [q5]
              rw [if_pos q5] at HST
              clear q5
              go_wp2
              go_roundw
              case rel =>
                refine ⟨k + m, A, c, by have := HKM.out; omega, rfl, ?_, ?_, ?_, HBX.out⟩
                · rw [HST.out]
                · rw [HST.out]; dsimp only; rw [HLN.out]
                · rw [HST.out]; dsimp only; rw [HLN.out]; exact HOX.out
              case measure => have := HKM.out; simp [intOf]; omega
            · have q6 : (v != -1) = true := by simp [q5]
              rw [if_neg q5] at HST
              have hba : Below W2.heap.size W2 (W2.alloc (.cells #[.int .i64 v, .int .i64 (k : Int), .int .i64 (m : Int)] 82)) := (Below.refl _ _).alloc (Nat.le_refl _) _
              have HOA := Lib.hid (owns_kept HOX.out hba)
              have HBA := Lib.hid (HBX.out.trans (hba.mono HBX.out.size))
              have HNB := Lib.hid (heap_alloc_new W2 (.cells #[.int .i64 v, .int .i64 (k : Int), .int .i64 (m : Int)] 82))
              clear hba HOX HBX q5
              go_wp2_with (at_builtin; refine wpList_append_own _ rfl _ _ 29 rfl w.heap.size 82 i0 (.agg #[.int .i64 0, .int .i64 0, .int .i64 0]) 3 24 Tryd.underlying29 hi hz0 hz1 hz2 rfl (by decide) _ M _ rfl HOA.out ⟨W2.heap.size, 0, none⟩ 1 1 [.int .i64 v, .int .i64 (k : Int), .int .i64 (m : Int)] rfl rfl ?c1 ?c2 ?c3 ?c4 ?c5 ?_)
              case c1 =>
                intro j u hj
                have e : (Addr.mk W2.heap.size 0 none).add j = ⟨W2.heap.size, j, none⟩ := by cases j <;> simp [Addr.add]
                rw [e, cell_of_row _ _ _ _ _ _ HNB.out, ← hj]
                simp
              case c2 => first | exact one3W _ _ _ | exact ⟨rfl, rfl, rfl⟩
              case c3 => have := HKM.out; unfold maxLen; omega
              case c4 => have := HKM.out; omega
              case c5 => first | exact HBA.out.size | (simpa using HBA.out.size)
              intro v' w8 ho8 hg8 _
              obtain ⟨A9, c9, rfl⟩ := row_slice3 ho8
              have HO8 := Lib.hid ho8
              have HB8 : Hid (Below w.heap.size w w8) := HBA.out.grown hg8 HBA.out.size (fun q hq => (HOA.out.lt q hq).1)
              clear ho8 hg8 HOA HBA HNB
              go_wp2
              go_roundw
              case rel =>
                refine ⟨k + m, A9, c9, by have := HKM.out; omega, rfl, ?_, ?_, ?_, HB8.out⟩
                · rw [HST.out]
                · rw [HST.out]; dsimp only; rw [List.length_append, List.length_singleton, HLN.out]
                · rw [HST.out]; dsimp only; rw [List.length_append, List.length_singleton, HLN.out, flatA_snoc]; exact HO8.out
              case measure => have := HKM.out; simp [intOf]; omega
        · have q2 : ¬ (s : Int) < n := by omega
          have q3 : decide ((s : Int) < (n : Int)) = false := decide_eq_false q2
          have q4 : decide (s < n) = false := decide_eq_false q1
          rw [decide_eq_false q1, Bool.false_and] at hge
          have HGF : Hid (goesB l (k + (m - 1)) = false) := hge
          clear hs hge
          go_wp2_with fail
          go_quiet (fail)
          obtain ⟨W2, hW2⟩ : ∃ X, W1.drewN nq = X := ⟨_, rfl⟩
          have HB2 : Hid (Below W0.heap.size W0 W2) := by show Below _ _ _; rw [← hW2]; exact ⟨HB1.out.os, HB1.out.tape, HB1.out.output, HB1.out.size, HB1.out.block⟩
          rw [hW2]
          clear hW2 HB1 HBW
          have HST := Lib.hid (wst_run l k m HM1.out.1 HGO.out HGF.out HK2.out)
          rw [HV.out, HLX.out] at HST
          have HKM : Hid (M ≤ n ∧ k + m ≤ n ∧ n ≤ 1048576 ∧ 1 ≤ m) := ⟨HMK.out, HM1.out.2, HL.out, HM1.out.1⟩
          have HOX := Lib.hid (owns_kept HO.out HB2.out)
          have HBX := Lib.hid (HB.out.trans (HB2.out.mono HB.out.size))
          have hmw : IntKind.i64.wrap ((m : Int) - 1) = (m : Int) - 1 := IntWalk.i64_in _ (by have := HKM.out; omega)
          have hmx : IntKind.i64.wrap ((k : Int) + ((m : Int) - 1)) = (k : Int) + ((m : Int) - 1) := IntWalk.i64_in _ (by have := HKM.out; omega)
          have hmy : IntKind.i64.wrap ((k : Int) + ((m : Int) - 1) + 1) = ((k + m : Nat) : Int) := by rw [show (k : Int) + ((m : Int) - 1) + 1 = ((k + m : Nat) : Int) by omega]; exact IntWalk.i64_in _ (by have := HKM.out; omega)
          obtain ⟨yK, eK, cK⟩ := HW.out W2 HBX.out k (by have := HKM.out; rw [HN.out]; omega)
          obtain rfl := Option.some.inj eK
          rw [HV.out] at cK
          clear eK HGO HGF HK2 HB2 HO HB
          by_cases q5 : v = -1
          · have q6 : (v != -1) = false := by simp [q5]
            rw [if_pos q5] at HST
            clear q5
            go_wp2
            go_roundw
            case rel =>
              refine ⟨k + m, A, c, by have := HKM.out; omega, rfl, ?_, ?_, ?_, HBX.out⟩
              · rw [HST.out]
              · rw [HST.out]; dsimp only; rw [HLN.out]
              · rw [HST.out]; dsimp only; rw [HLN.out]; exact HOX.out
            case measure => have := HKM.out; simp [intOf]; omega
          · have q6 : (v != -1) = true := by simp [q5]
            rw [if_neg q5] at HST
            have hba : Below W2.heap.size W2 (W2.alloc (.cells #[.int .i64 v, .int .i64 (k : Int), .int .i64 (m : Int)] 82)) := (Below.refl _ _).alloc (Nat.le_refl _) _
            have HOA := Lib.hid (owns_kept HOX.out hba)
            have HBA := Lib.hid (HBX.out.trans (hba.mono HBX.out.size))
            have HNB := Lib.hid (heap_alloc_new W2 (.cells #[.int .i64 v, .int .i64 (k : Int), .int .i64 (m : Int)] 82))
            clear hba HOX HBX q5
            go_wp2_with (at_builtin; refine wpList_append_own _ rfl _ _ 29 rfl w.heap.size 82 i0 (.agg #[.int .i64 0, .int .i64 0, .int .i64 0]) 3 24 Tryd.underlying29 hi hz0 hz1 hz2 rfl (by decide) _ M _ rfl HOA.out ⟨W2.heap.size, 0, none⟩ 1 1 [.int .i64 v, .int .i64 (k : Int), .int .i64 (m : Int)] rfl rfl ?d1 ?d2 ?d3 ?d4 ?d5 ?_)
            case d1 =>
              intro j u hj
              have e : (Addr.mk W2.heap.size 0 none).add j = ⟨W2.heap.size, j, none⟩ := by cases j <;> simp [Addr.add]
              rw [e, cell_of_row _ _ _ _ _ _ HNB.out, ← hj]
              simp
            case d2 => first | exact one3W _ _ _ | exact ⟨rfl, rfl, rfl⟩
            case d3 => have := HKM.out; unfold maxLen; omega
            case d4 => have := HKM.out; omega
            case d5 => first | exact HBA.out.size | (simpa using HBA.out.size)
            intro v' w8 ho8 hg8 _
            obtain ⟨A9, c9, rfl⟩ := row_slice3 ho8
            have HO8 := Lib.hid ho8
            have HB8 : Hid (Below w.heap.size w w8) := HBA.out.grown hg8 HBA.out.size (fun q hq => (HOA.out.lt q hq).1)
            clear ho8 hg8 HOA HBA HNB
            go_wp2
            go_roundw
            case rel =>
              refine ⟨k + m, A9, c9, by have := HKM.out; omega, rfl, ?_, ?_, ?_, HB8.out⟩
              · rw [HST.out]
              · rw [HST.out]; dsimp only; rw [List.length_append, List.length_singleton, HLN.out]
              · rw [HST.out]; dsimp only; rw [List.length_append, List.length_singleton, HLN.out, flatA_snoc]; exact HO8.out
            case measure => have := HKM.out; simp [intOf]; omega
    · obtain rfl : k = n := by omega
      have hw : wst l k = wst l l.length := by rw [HN.out]
      have e : L = winsL l := by rw [← HLX.out, hw]; rfl
      have e2 : M = (winsL l).length := by rw [← HLN.out, e]
      rw [e, e2] at HO
      rw [e2]
      have HOF := Lib.hid HO.out
      have HBF := Lib.hid HB.out
      clear HO HB hw e e2 HMK HLN HLX
      go_wp2
      go_ret
      exact ⟨A, c, rfl, HOF.out, HBF.out⟩
end Go.Proofs.YtpjillclladjaaaDoor.Pln
