/- The function RelationStrong returns true for every slice of pairs and every slice of ids. Condition: none. This text: the walk through the Go text; the row is in the text without the W at its name's end. -/
import Derived.Test.YtnngldkpkhabeaaMg01
import Derived.Test.YtnngldkpkhabeaaMi03
import Derived.Deep.RegionHeld3
namespace Go.Proofs.Ytnngldkpkhabeaa.relationStrong

open Go.RowKit Go.PlainAid Go.Proofs.Ytnngldkpkhabeaa.Args

set_option linter.unusedVariables false

open Go.Proofs.Ytnngldkpkhabeaa.Rel

open Go.Proofs.Ytnngldkpkhabeaa.Win (IntsBelow)

open Go.Proofs.Ytnngldkpkhabeaa.Pai (P2 PairsAt Wide pairs_of own_keepP own_some below_drewN)

set_option linter.unusedSimpArgs false

theorem ints_in2 {w : World} {a : Option Addr} {len cap : Nat} {z : List Int} (h : IsRow .i64 w a len cap z) : (z.take len).length = len ∧ IntsBelow w.heap.size w (.slice a len cap) (z.take len) ∧ ∀ x ∈ z.take len, Mpv.I64 x := by
  rcases h with ⟨rfl, rfl, rfl, rfl⟩ | ⟨y, rfl, h1, h2, h3, h4, h5⟩
  · exact ⟨rfl, .inl ⟨rfl, rfl⟩, fun x hx => by simp at hx⟩
  · have hl : (z.take len).length = len := by rw [List.length_take]; omega
    refine ⟨hl, ?_, fun x hx => bounds_i64 (h5 x (List.mem_of_mem_take hx))⟩
    refine .inr ⟨y, cap, by rw [hl], fun h0 => ?_, fun j hj => ?_⟩
    · have := Go.block_lt_of_cell (h4 0 (by rw [hl] at h0; omega))
      rw [Go.Proofs.Ytnngldkpkhabeaa.Win.add_block] at this
      exact this
    · rw [hl] at hj
      rw [h4 j (by omega)]
      simp [List.getD, List.getElem?_take_of_lt hj]
set_option maxRecDepth 16000 in
set_option maxHeartbeats 12800000 in
theorem walk (a0 : Option Addr) (len0 cap0 : Nat) (a1 : Option Addr) (len1 cap1 : Nat) (z1 : List Int) (w : World) (w0 : IsRecs w a0 len0 cap0 [.int .i64, .int .i64]) (w1 : IsRow .i64 w a1 len1 cap1 z1) :
    Calls Try.prog 5 #[.slice a0 len0 cap0, .slice a1 len1 cap1] w fun e w' => e = .returned (.bool true) ∧ Below w.heap.size w w' := by
  obtain ⟨L, hll, hprs, hwide, hlc, hcm⟩ := pairs_of w0
  obtain ⟨hzl, hints, hi64⟩ := ints_in2 w1
  obtain ⟨ids, hids⟩ : ∃ ids, z1.take len1 = ids := ⟨_, rfl⟩
  rw [hids] at hzl hints hi64
  by_cases hbig : 20 < len0 ∨ 20 < len1
  · clear w0 w1 hprs hwide hints hzl hids hll hlc hcm hi64
    have hcase : decide ((20 : Int) < (len0 : Int)) = true ∨ (decide ((20 : Int) < (len0 : Int)) = false ∧ decide ((20 : Int) < (len1 : Int)) = true) := by
      rcases Nat.lt_or_ge 20 len0 with h | h
      · exact .inl (decide_eq_true (by omega))
      · exact .inr ⟨decide_eq_false (by omega), decide_eq_true (by omega)⟩
    clear hbig
    rcases hcase with t0 | ⟨t0, t1⟩
    all_goals
      go_enter Try.func5, Try.ntmps5
      go_wp2_with (go_at_call 20; refine (awake15 _).mono ?_; rintro e w' ⟨rfl, hbel⟩)
      go_ret
      exact ⟨rfl, hbel⟩
  have t1 : decide ((20 : Int) < (len0 : Int)) = false := decide_eq_false (by omega)
  have t2 : decide ((20 : Int) < (len1 : Int)) = false := decide_eq_false (by omega)
  have hl0 : len0 ≤ 20 := by omega
  have hil : ids.length ≤ 20 := by omega
  have H1 := Lib.hid (strong_any a0 len0 cap0 L a1 len1 cap1 ids w hprs hwide hll (by omega) hints (by omega) hi64)
  have H2 : Hid (∀ W, Below w.heap.size w W → Calls Try.prog 28 #[.slice a0 len0 cap0, .slice a1 len1 cap1] W (SgPost L ids W)) := fun W b => dstrong_any a0 len0 cap0 L a1 len1 cap1 ids W (hprs.kept b) hll hl0 ((hints.below b).mono b.size) hil hzl.symm
  have HIL : Hid (ids.length ≤ 20) := hil
  clear w0 w1 hprs hwide hints hzl hids hll hlc hcm hi64 hbig hl0 hil
  go_enter Try.func5, Try.ntmps5
  go_wp2_with fail
  refine H1.out.mono ?_
  rintro e w2 ⟨GV, rs, B1, rfl, hrows, hgr, hB1, hb2⟩
  obtain ⟨AG, cG, rfl⟩ := slice_of hgr.g
  have HR1 := Lib.hid hrows
  have HG1 := Lib.hid hgr
  have HB2 := Lib.hid hb2
  have H2' := Lib.hid (H2.out w2 hb2)
  clear hrows hgr hB1 hb2 H1 H2
  go_wp2_with fail
  refine H2'.out.mono ?_
  rintro e w3 ⟨GV2, rs2, B2, rfl, hrows2, hgr2, hB2, hb3⟩
  obtain ⟨AG2, cG2, rfl⟩ := slice_of hgr2.g
  have HR2 := Lib.hid hrows2
  have HG2 := Lib.hid hgr2
  have HG13 := Lib.hid (HG1.out.keep hb3)
  have HB3 := Lib.hid (HB2.out.trans (hb3.mono HB2.out.size))
  have hlen : rs2.length = rs.length := by
    have h1 := congrArg List.length HR1.out
    have h2 := congrArg List.length HR2.out
    rw [List.length_map] at h1 h2
    omega
  rw [hlen]
  have HLEN := Lib.hid hlen
  have HRL : Hid (rs.length ≤ 20 ∧ ∀ p ∈ rs, p.2.length ≤ 20) := by
    have hz : (risZ ids).length ≤ 20 := by have := risZ_len ids; have := HIL.out; omega
    have hfo := frs_ok L _ (risZ ids) rfl
    have hnd : (frs L (risZ ids)).Nodup := by
      rw [List.nodup_iff_pairwise_ne, List.pairwise_iff_getElem]
      intro i j hi hj hij e
      have := hfo.pw i j _ _ (List.getElem?_eq_getElem hi) (List.getElem?_eq_getElem hj) (by rw [e]; exact sB_refl L _)
      omega
    have h1 := congrArg List.length HR1.out
    simp [rowsG] at h1
    refine ⟨by have := Pai.sub_len _ _ hnd hfo.mem; omega, fun p hp => ?_⟩
    have h2 : p.2 ∈ rowsG L (risZ ids) (frs L (risZ ids)) := by rw [← HR1.out]; exact List.mem_map.2 ⟨p, hp, rfl⟩
    unfold rowsG at h2
    obtain ⟨a, _, h3⟩ := List.mem_map.1 h2
    rw [← h3]
    exact Nat.le_trans (List.length_filter_le _ _) hz
  clear hrows2 hgr2 hB2 hb3 H2' hlen HB2 HG1
  obtain ⟨n, hn⟩ : ∃ n, rs.length = n := ⟨_, rfl⟩
  have HN := Lib.hid hn
  rw [hn]
  have tne : ((n : Int) != (n : Int)) = false := by simp
  have HRR : Hid (rs.map Prod.snd = rs2.map Prod.snd) := HR1.out.trans HR2.out.symm
  clear hn
  go_wp2_with fail
  go_loopw [30] (fun i W => ∃ k : Nat, k ≤ n ∧ i = .int .i64 (k : Int) ∧ Below w3.heap.size w3 W) (fun i _ => n - (intOf i).toNat)
  case atStart => exact ⟨0, Nat.zero_le _, rfl, Below.refl _ _⟩
  case round =>
    obtain ⟨W, hW⟩ : ∃ X, wr = X := ⟨_, rfl⟩
    rw [hW] at hrel
    rw [hW]
    clear hW wr
    obtain ⟨k, hk, rfl, hbw⟩ := hrel
    have HBW := Lib.hid hbw
    have HK : Hid (k ≤ n) := hk
    clear hbw hk
    by_cases hlt : k < n
    · obtain ⟨⟨V1, L1⟩, h1⟩ : ∃ p, rs[k]? = some p := ⟨_, List.getElem?_eq_getElem (by have := HN.out; omega)⟩
      obtain ⟨⟨V2, L2⟩, h2⟩ : ∃ p, rs2[k]? = some p := ⟨_, List.getElem?_eq_getElem (by have := HN.out; have := HLEN.out; omega)⟩
      have hl12 : L2 = L1 := by
        have h := congrArg (fun l => l[k]?) HRR.out
        simp [h1, h2] at h
        exact h.symm
      subst hl12
      have g1 := own_keepP HG13.out.g HBW.out
      have g2 := own_keepP HG2.out.g HBW.out
      have o1 := own_keepP (HG13.out.r _ (List.mem_of_getElem? h1)) HBW.out.drew
      have o2 := own_keepP (HG2.out.r _ (List.mem_of_getElem? h2)) HBW.out.drew
      have hll : L2.length ≤ 20 := HRL.out.2 _ (List.mem_of_getElem? h1)
      have HSA := Lib.hid (sameI_yes W.drew V1 V2 L2 (by omega) ⟨_, o1⟩ ⟨_, o2⟩)
      obtain ⟨b1, hb1⟩ : ∃ g, AG = some ⟨g, 0, none⟩ := by
        rcases g1.2 with ⟨_, h0⟩ | ⟨g, cap, _, e, _⟩
        · have := HN.out; omega
        · injection e with e1 _ _; exact ⟨g, e1⟩
      obtain ⟨b2, hb2⟩ : ∃ g, AG2 = some ⟨g, 0, none⟩ := by
        rcases g2.2 with ⟨_, h0⟩ | ⟨g, cap, _, e, _⟩
        · have := HN.out; have := HLEN.out; omega
        · injection e with e1 _ _; exact ⟨g, e1⟩
      subst hb1 hb2
      rw [HN.out] at g1
      rw [HLEN.out, HN.out] at g2
      have s1 : W.cell? ⟨b1, k, none⟩ = some V1 := by rw [g1.cellAt k (by omega), List.getElem?_map, h1]; rfl
      have s2 : W.cell? ⟨b2, k, none⟩ = some V2 := by rw [g2.cellAt k (by omega), List.getElem?_map, h2]; rfl
      have HCD : Hid (W.drew.cell? ⟨b1, k, none⟩ = some V1 ∧ W.drew.cell? ⟨b2, k, none⟩ = some V2) := ⟨s1, s2⟩
      have HBD : Hid (Below w3.heap.size w3 W.drew) := HBW.out.drew
      have hki : (0 : Int) ≤ k := by omega
      have hkb : (k : Int) < n := by omega
      have hk1 : IntKind.i64.wrap ((k : Int) + 1) = (k : Int) + 1 := IntWalk.i64_in _ (by have := HN.out; have := HRL.out.1; omega)
      clear h1 h2 g1 g2 o1 o2 hll
      go_upto_region 9 with fail
      go_region_held3 (fun wx => wx.cell? ⟨b1, k, none⟩ = some V1 ∧ wx.cell? ⟨b2, k, none⟩ = some V2)
        (first | (go_keep; done) | exact HCD.out | exact HKP.out | (refine ⟨?_, ?_⟩ <;> assumption))
        ((go_at_call 12; refine HSA.out.mono ?_; rintro e w6 ⟨rfl, hb6⟩; have HB6 := Lib.hid (HBD.out.trans (hb6.mono HBD.out.size)); have HKP := Lib.hid (And.intro ((hb6.cell (Go.block_lt_of_cell HCD.out.1)).trans HCD.out.1) ((hb6.cell (Go.block_lt_of_cell HCD.out.2)).trans HCD.out.2)); clear hb6))
      clear s1 s2 HSA
      go_wp2
      go_roundw
      case rel => exact ⟨k + 1, by omega, by go_num, HB6.out⟩
      case measure => simp [intOf]; omega
    · obtain rfl : k = n := by have := HK.out; omega
      go_wp2_with fail
      refine (awake15 W).mono ?_
      rintro e w7 ⟨rfl, hb7⟩
      have HB7 := Lib.hid ((HB3.out.trans (HBW.out.mono HB3.out.size)).trans (hb7.mono (Nat.le_trans HB3.out.size HBW.out.size)))
      clear hb7
      go_wp2
      go_ret
      exact ⟨rfl, HB7.out⟩
end Go.Proofs.Ytnngldkpkhabeaa.relationStrong
