
/- Windows: the gaps of a word, as the document tells it. Condition: at most 2,000,000 ticks. -/

import Derived.Test.YteefmdelacihfaaDoorWinAC

import Derived.Test.YteefmdelacihfaaDoorWinAD

import Derived.Test.YteefmdelacihfaaDoorWinL

import Derived.OwnWalk

namespace Go.Proofs.YteefmdelacihfaaDoor.Win

open Go.RowKit Go.PlainAid Go.Proofs.YteefmdelacihfaaDoor.Oct Go.Proofs.YteefmdelacihfaaDoor.Flt Go.Proofs.YteefmdelacihfaaDoor.Rdr Go.Proofs.YteefmdelacihfaaDoor.Args

open Go.Proofs.YteefmdelacihfaaDoor.Act (A3 actL flatA flatA_snoc flatA_len ActsAt I64 Wide row_beside row_base)

set_option linter.unusedVariables false

set_option linter.unusedSimpArgs false

def RgRel (ws : List Int) (n : Nat) (w : World) (t v : Value) (wr : World) : Prop :=
  ∃ (k : Nat) (L : List A3), k ≤ n + 1 ∧ t = .int .i64 (k : Int) ∧ L.length ≤ k ∧ L ++ gapG k 0 (ws.drop k) = gapG 0 0 ws ∧ NW L v w wr
def RgIn (ws : List Int) (n k : Nat) (v : Value) : Prop :=
  ∃ d : Nat, k + d ≤ n ∧ v = .int .i64 (d : Int) ∧ gapG k 0 (ws.drop k) = gapG (k + d) d (ws.drop (k + d))
theorem gap_out {ws : List Int} {n k d : Nat} (hn : ws.length = n) (h : gapG k 0 (ws.drop k) = gapG (k + d) d (ws.drop (k + d))) (hs : k + d = n ∨ ∃ v, ws[k + d]? = some v ∧ v ≠ -1) : gapG k 0 (ws.drop k) = gapE (k + d) d ++ gapG (k + d + 1) 0 (ws.drop (k + d + 1)) := by
  rw [h]
  rcases hs with hs | ⟨v, hv, hne⟩
  · rw [List.drop_of_length_le (by omega), List.drop_of_length_le (by omega)]
    simp [gapG, gapE]
  · obtain ⟨hl, e⟩ := List.getElem?_eq_some_iff.1 hv
    rw [List.drop_eq_getElem_cons hl, e, gapG, if_neg hne]
theorem gap_in {ws : List Int} {k d : Nat} (h : gapG k 0 (ws.drop k) = gapG (k + d) d (ws.drop (k + d))) (hv : ws[k + d]? = some (-1)) : gapG k 0 (ws.drop k) = gapG (k + (d + 1)) (d + 1) (ws.drop (k + (d + 1))) := by
  rw [h]
  obtain ⟨hl, e⟩ := List.getElem?_eq_some_iff.1 hv
  rw [List.drop_eq_getElem_cons hl, e, gapG, if_pos rfl]
  rfl
theorem gapE_pos {t n : Nat} (h : 0 < n) : gapE (t + n) n = [⟨-1, (t : Int), (n : Int)⟩] := by
  unfold gapE
  rw [if_neg (by omega), show t + n - n = t by omega]
theorem gapE_zero (t : Nat) : gapE t 0 = [] := by simp [gapE]
set_option maxRecDepth 8000 in
set_option maxHeartbeats 6400000 in
theorem rgaps_any (ws : List Int) (g n c B : Nat) (w : World) (ho : w.ownsRow B 3 1 (.slice (some ⟨g, 0, none⟩) n c) n (ws.map (Value.int .i64))) (hn : ws.length = n) (hl : n ≤ 2000000) :
    Calls Tryd.prog 17 #[.slice (some ⟨g, 0, none⟩) n c] w fun e w' => ∃ V, e = .returned V ∧ w'.ownsRow w.heap.size 50 3 V (gapG 0 0 ws).length (flatA (gapG 0 0 ws)) ∧ Below w.heap.size w w' := by
  obtain ⟨i0, hi, hz0, hz1, hz2⟩ := info_parts infoWin2
  have hgl := (ho.lt g rfl).2
  have hcell : ∀ (wr : World), Below w.heap.size w wr → ∀ j v, ws[j]? = some v → wr.cell? ⟨g, j, none⟩ = some (.int .i64 v) := fun wr hb j v hv => by
    have hj : j < n := by have := (List.getElem?_eq_some_iff.1 hv).1; omega
    have hc := ho.cellAt j (by omega)
    rw [List.getElem?_map, hv] at hc
    exact (hb.cell (p := ⟨g, j, none⟩) hgl).trans hc
  have HC := Lib.hid hcell
  have HN := Lib.hid hn
  have HL : Hid (n ≤ 2000000) := hl
  have hb0 : Below w.heap.size w (w.alloc (.cells #[] 50)) := (Below.refl _ _).alloc (Nat.le_refl _) _
  have HS0 : Hid (RgRel ws n w (.int .i64 0) (.slice (some ⟨w.heap.size, 0, none⟩) 0 0) (w.alloc (.cells #[] 50))) := ⟨0, [], Nat.zero_le _, rfl, Nat.zero_le _, by simp, World.ownsRow_lit w #[] 0 (Nat.le_refl _) (Nat.zero_le _) rfl, hb0⟩
  clear ho hn hl hgl hcell hb0
  go_enter Tryd.func17, Tryd.ntmps17
  go_wp2_with fail
  go_loopw [4, 3] (fun t v wr => RgRel ws n w t v wr) (fun t _ _ => n + 1 - (intOf t).toNat)
  case atStart => exact HS0.out
  case round =>
    obtain ⟨k, L, hk, rfl, hlk, hg, hnw⟩ := hrel
    have HNW := Lib.hid hnw
    have HG := Lib.hid hg
    have HLK := Lib.hid hlk
    have hl := HL.out
    clear hnw hg HS0 hlk
    by_cases hlt : k < n
    · have hki : (0 : Int) ≤ k := by omega
      have hkb : (k : Int) < n := by omega
      go_wp2_with fail
      go_loopw [5] (fun v W => RgIn ws n k v ∧ W = wr) (fun v _ => n - (intOf v).toNat)
      case atStart => exact ⟨⟨0, by omega, rfl, rfl⟩, rfl⟩
      case round =>
        obtain ⟨⟨d, hd, rfl, hgd⟩, hWW⟩ := hrel
        subst hWW
        have HGD := Lib.hid hgd
        obtain ⟨q, hq⟩ : ∃ q : Nat, k + d = q := ⟨_, rfl⟩
        have hkd : IntKind.i64.wrap ((k : Int) + (d : Int)) = (q : Int) := by rw [← hq]; exact IntWalk.i64_in _ (by omega)
        have hq0 : (0 : Int) ≤ q := by omega
        have hqle : q ≤ n := by omega
        have hd1 : IntKind.i64.wrap ((d : Int) + 1) = ((d + 1 : Nat) : Int) := IntWalk.i64_in _ (by omega)
        clear hgd
        have hstop : (q = n ∨ ∃ v, ws[q]? = some v ∧ v ≠ -1) → gapG k 0 (ws.drop k) = gapE (k + d) d ++ gapG (k + d + 1) 0 (ws.drop (k + d + 1)) := fun h => gap_out HN.out HGD.out (by rw [hq]; exact h)
        have HST := Lib.hid hstop
        have HQ := Lib.hid hq
        clear hstop
        by_cases hqn : q < n
        · obtain ⟨v, hv⟩ : ∃ v, ws[q]? = some v := ⟨_, List.getElem?_eq_getElem (by rw [HN.out]; exact hqn)⟩
          have hqb : (q : Int) < n := by omega
          have hqd : decide ((q : Int) < n) = true := decide_eq_true hqb
          have hc := HC.out wr HNW.out.below q v hv
          by_cases hvm : v = -1
          · subst hvm
            have HGI := Lib.hid (gap_in HGD.out (by rw [hq]; exact hv))
            clear hv hq
            go_wp2
            go_roundw
            case rel => exact ⟨⟨d + 1, by have := HQ.out; omega, by first | rfl | rw [hd1] | go_num, HGI.out⟩, by first | trivial | rfl⟩
            case measure => have := HQ.out; simp [intOf]; omega
          · have hvb : (v == -1) = false := by simp [hvm]
            have HGO := Lib.hid (HST.out (.inr ⟨v, hv, hvm⟩))
            clear hv hq hvm HST
            rcases Nat.eq_zero_or_pos d with hd0 | hd0
            · subst hd0
              rw [gapE_zero] at HGO
              have hkq : k = q := by have := HQ.out; omega
              subst hkq
              go_wp2
              go_roundw
              case rel => exact ⟨k + 1, L, by omega, by go_num, by have := HLK.out; omega, by rw [← HG.out, HGO.out]; simp, HNW.out⟩
              case measure => simp [intOf]; omega
            · rw [gapE_pos hd0] at HGO
              have hdd : (0 : Int) < d := by omega
              have HD := Lib.hid hd0
              have HR := Lib.hid (HNW.out.keep ((Below.refl _ _).alloc (Nat.le_refl _) (.cells #[.int .i64 (-1), .int .i64 (k : Int), .int .i64 (d : Int)] 50)))
              have hkd1 : IntKind.i64.wrap ((q : Int) + 1) = ((q + 1 : Nat) : Int) := IntWalk.i64_in _ (by omega)
              clear hd0
              go_wp2_with (at_builtin; refine wpList_append_own _ rfl _ _ 22 rfl _ 50 i0 (.agg #[.int .i64 0, .int .i64 0, .int .i64 0]) 3 24 Tryd.underlying22 hi hz0 hz1 hz2 rfl (by decide) _ _ _ rfl HR.out.own ⟨wr.heap.size, 0, none⟩ 1 1 [.int .i64 (-1), .int .i64 (k : Int), .int .i64 (d : Int)] rfl rfl ?c1 ?c2 ?c3 ?c4 ?c5 ?_)
              case c1 =>
                intro j u hj
                have hrow := heap_alloc_new wr (.cells #[.int .i64 (-1), .int .i64 (k : Int), .int .i64 (d : Int)] 50)
                have e : (Addr.mk wr.heap.size 0 none).add j = ⟨wr.heap.size, j, none⟩ := by cases j <;> simp [Addr.add]
                rw [e, cell_of_row _ _ _ _ _ _ hrow, ← hj]
                simp
              case c2 => intro u hu; simp at hu; rcases hu with rfl | rfl | rfl <;> rfl
              case c3 => have := HLK.out; unfold maxLen; omega
              case c4 => have := HLK.out; omega
              case c5 => exact HR.out.below.size
              intro V4 W4 ho4 hg4 _
              have HF4 := Lib.hid (HR.out.grown (x := ⟨-1, (k : Int), (d : Int)⟩) hg4 _ (by simp) ho4)
              clear ho4 hg4
              go_wp2
              go_roundw
              case rel => exact ⟨k + d + 1, L ++ [⟨-1, (k : Int), (d : Int)⟩], by omega, by have := HQ.out; first | (rw [hkd1, ← HQ.out]) | go_num, by rw [List.length_append, List.length_singleton]; have := HLK.out; have := HD.out; omega, by rw [← HG.out, HGO.out, List.append_assoc], HF4.out⟩
              case measure => have := HD.out; have := HQ.out; simp only [intOf, hkd1]; omega
        · have hqn' : q = n := by omega
          have hqd : decide ((q : Int) < n) = false := decide_eq_false (by omega)
          have hqd2 : decide (q < n) = false := decide_eq_false hqn
          have HGO := Lib.hid (HST.out (.inl hqn'))
          clear hq HST hqn'
          rcases Nat.eq_zero_or_pos d with hd0 | hd0
          · exfalso; have := HQ.out; omega
          · rw [gapE_pos hd0] at HGO
            have hdd : (0 : Int) < d := by omega
            have HD := Lib.hid hd0
            have HR := Lib.hid (HNW.out.keep ((Below.refl _ _).alloc (Nat.le_refl _) (.cells #[.int .i64 (-1), .int .i64 (k : Int), .int .i64 (d : Int)] 50)))
            have hkd1 : IntKind.i64.wrap ((q : Int) + 1) = ((q + 1 : Nat) : Int) := IntWalk.i64_in _ (by omega)
            clear hd0
            go_wp2_with (at_builtin; refine wpList_append_own _ rfl _ _ 22 rfl _ 50 i0 (.agg #[.int .i64 0, .int .i64 0, .int .i64 0]) 3 24 Tryd.underlying22 hi hz0 hz1 hz2 rfl (by decide) _ _ _ rfl HR.out.own ⟨wr.heap.size, 0, none⟩ 1 1 [.int .i64 (-1), .int .i64 (k : Int), .int .i64 (d : Int)] rfl rfl ?c1 ?c2 ?c3 ?c4 ?c5 ?_)
            case c1 =>
              intro j u hj
              have hrow := heap_alloc_new wr (.cells #[.int .i64 (-1), .int .i64 (k : Int), .int .i64 (d : Int)] 50)
              have e : (Addr.mk wr.heap.size 0 none).add j = ⟨wr.heap.size, j, none⟩ := by cases j <;> simp [Addr.add]
              rw [e, cell_of_row _ _ _ _ _ _ hrow, ← hj]
              simp
            case c2 => intro u hu; simp at hu; rcases hu with rfl | rfl | rfl <;> rfl
            case c3 => have := HLK.out; unfold maxLen; omega
            case c4 => have := HLK.out; omega
            case c5 => exact HR.out.below.size
            intro V4 W4 ho4 hg4 _
            have HF4 := Lib.hid (HR.out.grown (x := ⟨-1, (k : Int), (d : Int)⟩) hg4 _ (by simp) ho4)
            clear ho4 hg4
            go_wp2
            go_roundw
            case rel => exact ⟨k + d + 1, L ++ [⟨-1, (k : Int), (d : Int)⟩], by omega, by have := HQ.out; first | (rw [hkd1, ← HQ.out]) | go_num, by rw [List.length_append, List.length_singleton]; have := HLK.out; have := HD.out; omega, by rw [← HG.out, HGO.out, List.append_assoc], HF4.out⟩
            case measure => have := HD.out; have := HQ.out; simp only [intOf, hkd1]; omega
    · by_cases hkn : k = n
      · have e : ws.drop k = [] := List.drop_of_length_le (by rw [HN.out]; omega)
        have HLE : Hid (L = gapG 0 0 ws) := by
          show _ = _
          rw [← HG.out, e]; simp [gapG, gapE]
        have hkd : decide ((k : Int) < n) = false := decide_eq_false (by omega)
        clear e
        go_wp2
        go_ret
        exact ⟨_, rfl, by rw [← HLE.out]; exact HNW.out.own, HNW.out.below⟩
      · have e : ws.drop k = [] := List.drop_of_length_le (by rw [HN.out]; omega)
        have HLE : Hid (L = gapG 0 0 ws) := by
          show _ = _
          rw [← HG.out, e]; simp [gapG, gapE]
        have hkd : decide ((k : Int) < n) = false := decide_eq_false (by omega)
        clear e
        go_wp2
        go_ret
        exact ⟨_, rfl, by rw [← HLE.out]; exact HNW.out.own, HNW.out.below⟩
end Go.Proofs.YteefmdelacihfaaDoor.Win
