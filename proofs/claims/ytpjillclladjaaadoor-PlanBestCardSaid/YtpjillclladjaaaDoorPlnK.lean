
/- Plans: the longest row without an owner (plan.Spread). Condition: at most 1,048,576 ticks. -/

import Derived.Test.YtpjillclladjaaaDoorPlnA

namespace Go.Proofs.YtpjillclladjaaaDoor.Pln

open Go.RowKit Go.PlainAid Go.Proofs.YtpjillclladjaaaDoor.Oct Go.Proofs.YtpjillclladjaaaDoor.Flt Go.Proofs.YtpjillclladjaaaDoor.Rdr Go.Proofs.YtpjillclladjaaaDoor.Args Go.Proofs.YtpjillclladjaaaDoor.Win Go.Proofs.YtpjillclladjaaaDoor.Nee

set_option linter.unusedVariables false

set_option linter.unusedSimpArgs false

theorem wat_addr {W : World} {P : Option Addr} {xs : List Int} (h : WAt W P xs) (h0 : 0 < xs.length) : ∃ b o, P = some ⟨b, o, none⟩ ∧ ∀ j, j < xs.length → W.cell? ⟨b, o + j, none⟩ = some (.int .i64 (vz xs j)) := by
  obtain ⟨y, rfl, c0⟩ := h 0 h0
  obtain ⟨b, o, sp⟩ := y
  have hsp : sp = none := by
    cases sp with
    | none => rfl
    | some s =>
      exfalso
      simp only [Addr.add, if_pos, World.cell?] at c0
      cases hh : W.heap[b]? with
      | none => simp [hh] at c0
      | some ob => cases ob <;> simp [hh] at c0
  subst hsp
  refine ⟨b, o, rfl, fun j hj => ?_⟩
  obtain ⟨y, e, c⟩ := h j hj
  obtain rfl := Option.some.inj e
  rw [show (Addr.mk b o none).add j = ⟨b, o + j, none⟩ from by cases j <;> simp [Addr.add]] at c
  exact c
theorem index1_any (P : Option Addr) (pc n : Nat) (xs : List Int) (z : Int) (W : World) (h : WAt W P xs) (hn : xs.length = n) (hl : n ≤ 1048576) :
    Calls Tryd.prog 47 #[.slice P n pc, .int .i64 z] W fun e w' => e = .returned (.int .i64 (Lib.idxOf xs z)) ∧ w' = W := by
  rcases Nat.eq_zero_or_pos n with h0 | h0
  · subst h0
    obtain rfl : xs = [] := List.eq_nil_of_length_eq_zero hn
    exact Tryd.slices_Index_int_empty P pc z W
  · obtain ⟨b, o, rfl, hc⟩ := wat_addr h (by omega)
    have hh := Tryd.slices_Index_int b o n pc xs z W (by omega) (by omega) (fun j hj => by
      have e : vz xs j = xs.getD j 0 := by unfold vz; rw [List.getD]
      rw [hc j hj, e])
    rw [List.take_of_length_le (by omega)] at hh
    exact hh
set_option maxRecDepth 8000 in
set_option maxHeartbeats 6400000 in
theorem spread_any (P : Option Addr) (pc : Nat) (l : List Int) (n : Nat) (z : Int) (w : World) (h : WAt w P l) (hn : l.length = n) (hl : n ≤ 1048576) :
    Calls Tryd.prog 24 #[.slice P n pc, .int .i64 z] w fun e w' => e = .returned (.int .i64 (bestD z l n : Nat)) ∧ w' = w := by
  have HIX := Lib.hid (index1_any P pc n l z w h hn hl)
  have HW := Lib.hid h
  have HN := Lib.hid hn
  have HL : Hid (n ≤ 1048576) := hl
  obtain ⟨bd, hbd⟩ : ∃ b, bestD z l n = b := ⟨_, rfl⟩
  have HBD := Lib.hid hbd
  rw [hbd]
  clear h hl hbd
  by_cases hz : z ∈ l
  · obtain ⟨f, hf, hfz, hfi⟩ := idx_some hz
    rw [hfi] at HIX
    have hbs := spread_is z l f hfz
    rw [hn, HBD.out] at hbs
    have hnl : nextI l f < l.length := Nat.mod_lt _ (by omega)
    have hrl := rot_len l (nextI l f) (by omega)
    rw [hn] at hrl
    have HRG : Hid (∀ k, k < n → (rotZ l (nextI l f))[k]? = l[(f + 1 + k) % n]?) := fun k hk => by
      rw [rot_get l (nextI l f) k hnl (by omega)]
      unfold nextI
      rw [hn, Nat.mod_add_mod]
    obtain ⟨r, hr⟩ : ∃ r, rotZ l (nextI l f) = r := ⟨_, rfl⟩
    rw [hr] at hbs hrl HRG
    have HBS := Lib.hid hbs
    have HRL := Lib.hid hrl
    have HFN : Hid (f < n) := by show _ < _; omega
    have q1 : ¬ (f : Int) < 0 := by omega
    clear hz hf hfz hfi hbs hnl hrl hr hn
    go_enter Tryd.func24, Tryd.ntmps24
    go_wp2_with fail
    refine HIX.out.mono ?_
    rintro e w3 ⟨rfl, rfl⟩
    go_wp2
    go_loop [18, 7, 6] (fun i row lg => BkRel z r i row lg) (fun i _ _ => n - (intOf i).toNat)
    case atStart => exact ⟨0, Nat.zero_le _, rfl, rfl, rfl⟩
    case round =>
      obtain ⟨k, hk, rfl, rfl, rfl⟩ := hrel
      have hkn : k ≤ n := by rw [← HRL.out]; exact hk
      have hll := HL.out
      have hff := HFN.out
      have hin := fold_in z r k
      by_cases hlt : k < n
      · have hql : (f + 1 + k) % n < n := Nat.mod_lt _ (by omega)
        obtain ⟨y, rfl, hc⟩ := HW.out ((f + 1 + k) % n) (by rw [HN.out]; exact hql)
        have hv : r[k]? = some (vz l ((f + 1 + k) % n)) := by rw [HRG.out k hlt]; exact vz_at (by rw [HN.out]; exact hql)
        have hm := fold_more z r k _ hv
        obtain ⟨v, hvv⟩ : ∃ v, vz l ((f + 1 + k) % n) = v := ⟨_, rfl⟩
        rw [hvv] at hm hc
        obtain ⟨s, hs⟩ : ∃ s, (r.take k).foldl (rowF z) (0, 0) = s := ⟨_, rfl⟩
        rw [hs] at hm hin
        rw [hs]
        have hki : (0 : Int) ≤ k := by omega
        have hkb : (k : Int) < n := by omega
        have hk1 : IntKind.i64.wrap ((k : Int) + 1) = (k : Int) + 1 := IntWalk.i64_in _ (by omega)
        have hs1 : IntKind.i64.wrap ((s.1 : Int) + 1) = ((s.1 + 1 : Nat) : Int) := IntWalk.i64_in _ (by omega)
        have hf1 : IntKind.i64.wrap ((f : Int) + 1) = (f : Int) + 1 := IntWalk.i64_in _ (by omega)
        have hf2 : IntKind.i64.wrap ((f : Int) + 1 + (k : Int)) = (f : Int) + 1 + (k : Int) := IntWalk.i64_in _ (by omega)
        have hmd : Int.tmod ((f : Int) + 1 + (k : Int)) (n : Int) = (((f + 1 + k) % n : Nat) : Int) := by
          have e : (f : Int) + 1 + (k : Int) = ((f + 1 + k : Nat) : Int) := by omega
          rw [Int.tmod_eq_emod_of_nonneg (by omega), e]; rfl
        obtain ⟨p, hp⟩ : ∃ p, (f + 1 + k) % n = p := ⟨_, rfl⟩
        rw [hp] at hmd hql hc
        have hqw : IntKind.i64.wrap (p : Int) = (p : Int) := IntWalk.i64_in _ (by omega)
        have hq0 : (0 : Int) ≤ p := by omega
        have hqn : (p : Int) < n := by omega
        have hn0 : ¬ n = 0 := by omega
        have hn1 : ¬ (n : Int) = 0 := by omega
        have HM := Lib.hid hm
        have HKN : Hid (k < n) := hlt
        clear hv hm hs hk hvv hp
        by_cases hvz : v = z
        · have hvb : (v == z) = true := by simp [hvz]
          have hmx : max (s.2 : Int) 0 = (s.2 : Int) := by omega
          have hmx2 : max (s.2 : Int) ((0 : Nat) : Int) = (s.2 : Int) := by omega
          have e3 : rowF z s v = (0, s.2) := by unfold rowF; rw [if_pos hvz]; simp
          rw [e3] at HM
          clear hvz e3
          go_wp2
          go_round
          case rel => exact ⟨k + 1, by rw [HRL.out]; omega, by go_num, by rw [HM.out]; first | done | rfl, by rw [HM.out]; first | done | rfl | simp⟩
          case measure => simp [intOf]; omega
        · have hvb : (v == z) = false := by simp [hvz]
          have hmx : max (s.2 : Int) ((s.1 + 1 : Nat) : Int) = ((max s.2 (s.1 + 1) : Nat) : Int) := by omega
          have e3 : rowF z s v = (s.1 + 1, max s.2 (s.1 + 1)) := by unfold rowF; rw [if_neg hvz]
          rw [e3] at HM
          clear hvz e3
          go_wp2
          go_round
          case rel => exact ⟨k + 1, by rw [HRL.out]; omega, by go_num, by rw [HM.out]; first | done | rfl | go_num | simp, by rw [HM.out]; first | done | rfl | (dsimp only; go_num) | (dsimp only; congr 1; omega) | simp⟩
          case measure => simp [intOf]; omega
      · obtain rfl : k = n := by omega
        have e : ((r.take k).foldl (rowF z) (0, 0)).2 = bd := by rw [List.take_of_length_le (by rw [HRL.out]; exact Nat.le_refl _), fold_best0, HBS.out]
        rw [e]
        clear e
        go_wp2
        go_ret
        exact ⟨rfl, rfl⟩
  · have hi := idx_none hz
    rw [hi] at HIX
    have hbn := best_none z l hz
    rw [hn, HBD.out] at hbn
    have HBN := Lib.hid hbn
    clear hz hi hbn hn
    go_enter Tryd.func24, Tryd.ntmps24
    go_wp2_with fail
    refine HIX.out.mono ?_
    rintro e w3 ⟨rfl, rfl⟩
    go_wp2
    go_ret
    exact ⟨by rw [HBN.out]; rfl, rfl⟩
end Go.Proofs.YtpjillclladjaaaDoor.Pln
