/- The function RelationReaches returns true for every slice of pairs, every slice of ids and every two numbers. Condition: none. This text: the walk through the Go text; the row is in the text without the W at its name's end. -/
import Derived.Test.YtnngldkpkhabeaaMg01
import Derived.Test.YtnngldkpkhabeaaMh03
import Derived.Deep.RegionHeld3
namespace Go.Proofs.Ytnngldkpkhabeaa.relationReaches

open Go.RowKit Go.PlainAid Go.Proofs.Ytnngldkpkhabeaa.Args

set_option linter.unusedVariables false

open Go.Proofs.Ytnngldkpkhabeaa.Rel

open Go.Proofs.Ytnngldkpkhabeaa.Win (IntsBelow)

open Go.Proofs.Ytnngldkpkhabeaa.Pai (P2 PairsAt Wide pairs_of Clo Ord Rch Conn Dist tgt srtD srtD_ord rclosed10_any rsort10_any tos10_any same10_yes own_keepP own_some below_drewN Prs PuPost ClPost IntPost NP conn_len sq_576 tgt_len box_kept infoPair hasP pairL flatP flatP_snoc)

set_option linter.unusedSimpArgs false

theorem ints_in2 {w : World} {a : Option Addr} {len cap : Nat} {z : List Int} (h : IsRow .i64 w a len cap z) : (z.take len).length = len ∧ IntsBelow w.heap.size w (.slice a len cap) (z.take len) ∧ ∀ x ∈ z.take len, Mpv.I64 x := by
  rcases h with ⟨rfl, rfl, rfl, rfl⟩ | ⟨y, rfl, h1, h2, h3, h4, h5⟩
  · exact ⟨rfl, .inl ⟨rfl, rfl⟩, fun x hx => by simp at hx⟩
  · have hl : (z.take len).length = len := by rw [List.length_take]; omega
    refine ⟨hl, ?_, fun x hx => bounds_i64 (h5 x (List.mem_of_mem_take hx))⟩
    refine .inr ⟨y, cap, by rw [hl], fun h0 => ?_, fun j hj => ?_⟩
    · have := Go.block_lt_of_cell (h4 0 (by rw [hl] at h0; omega))
      rw [Go.Proofs.Ytnngldkpkhabeaa.Win.add_block] at this
      exact this
    · rw [hl] at hj
      rw [h4 j (by omega)]
      simp [List.getD, List.getElem?_take_of_lt hj]
/-- What the law calls stranded, final. -/
def strP (D : List P2) (a : Int) (x : Int) : Bool := (x != a) && !hasB D ⟨a, x⟩
def finP (L : List P2) (x : Int) : Bool := decide ((tgt L x).length = 0)
def LRel (D L : List P2) (a : Int) (z : List Int) (w5 : World) (v1 v2 i : Value) (W : World) : Prop := ∃ k : Nat, k ≤ z.length ∧ i = .int .i64 (k : Int) ∧ TR w5 v1 ((z.take k).filter (strP D a)) v2 ((z.take k).filter (finP L)) W
def BRel (L C : List P2) (w5 : World) (v i : Value) (W : World) : Prop := ∃ k : Nat, k ≤ C.length ∧ i = .int .i64 (k : Int) ∧ NP ((C.take k).filter (bothQ L)) v w5 W
theorem str_eq {L D : List P2} {a : Int} {R : List Int} (hD : Clo L D) (hR : Rch L a R) (x : Int) : strQ a R x = strP D a x := by
  unfold strQ strP
  have h : Go.Proofs.Ytnngldkpkhabeaa.Win.memB R x = hasB D ⟨a, x⟩ := by
    have h1 : Go.Proofs.Ytnngldkpkhabeaa.Win.memB R x = true ↔ hasB D ⟨a, x⟩ = true := by
      unfold Go.Proofs.Ytnngldkpkhabeaa.Win.memB
      rw [decide_eq_true_iff, hR.mem x]
      exact ((Pai.hasP_iff D ⟨a, x⟩).trans (hD.mem ⟨a, x⟩)).symm
    exact Bool.eq_iff_iff.2 h1
  rw [h]
  by_cases hx : x = a
  · simp [hx]
  · cases hasB D ⟨a, x⟩ <;> simp [hx, bne]
set_option maxRecDepth 16000 in
set_option maxHeartbeats 12800000 in
theorem walk (a0 : Option Addr) (len0 cap0 : Nat) (a1 : Option Addr) (len1 cap1 : Nat) (z1 : List Int) (a2 : Int) (a3 : Int) (w : World) (w0 : IsRecs w a0 len0 cap0 [.int .i64, .int .i64]) (w1 : IsRow .i64 w a1 len1 cap1 z1) (w2 : (Lit.int .i64 a2).wf = true) (w3 : (Lit.int .i64 a3).wf = true) :
    Calls Try.prog 4 #[.slice a0 len0 cap0, .slice a1 len1 cap1, .int .i64 a2, .int .i64 a3] w fun e w' => e = .returned (.bool true) ∧ Below w.heap.size w w' := by
  obtain ⟨i0, hi, hz0, hz1, hz2⟩ := info_parts infoInt2
  obtain ⟨i2, hi2, hy0, hy1, hy2⟩ := info_parts infoPair
  obtain ⟨L, hll, hprs, hwide, hlc, hcm⟩ := pairs_of w0
  obtain ⟨hzl, hints, hi64⟩ := ints_in2 w1
  obtain ⟨ids, hids⟩ : ∃ ids, z1.take len1 = ids := ⟨_, rfl⟩
  rw [hids] at hzl hints hi64
  have hnil : a0 = none → cap0 = 0 := fun e => by
    rcases w0 with ⟨_, _, h⟩ | ⟨y, h, _⟩
    · exact h
    · rw [e] at h; cases h
  have ha2 := bounds_i64 w2
  by_cases hbig : 20 < len0 ∨ 20 < len1
  · clear w0 w1 w2 w3 hprs hwide hints hzl hids hll hlc hcm hnil ha2 hi64
    have hcase : decide ((20 : Int) < (len0 : Int)) = true ∨ (decide ((20 : Int) < (len0 : Int)) = false ∧ decide ((20 : Int) < (len1 : Int)) = true) := by
      rcases Nat.lt_or_ge 20 len0 with h | h
      · exact .inl (decide_eq_true (by omega))
      · exact .inr ⟨decide_eq_false (by omega), decide_eq_true (by omega)⟩
    clear hbig
    rcases hcase with t0 | ⟨t0, t1⟩
    all_goals
      go_enter Try.func4, Try.ntmps4
      go_wp2_with (go_at_call 20; refine (awake15 _).mono ?_; rintro e w' ⟨rfl, hbel⟩)
      go_ret
      exact ⟨rfl, hbel⟩
  have t1 : decide ((20 : Int) < (len0 : Int)) = false := decide_eq_false (by omega)
  have t2 : decide ((20 : Int) < (len1 : Int)) = false := decide_eq_false (by omega)
  have hl0 : len0 ≤ 20 := by omega
  have hil : ids.length ≤ 20 := by omega
  have HLL : Hid (L.length = len0 ∧ len0 ≤ 20 ∧ ids.length ≤ 20) := ⟨hll, hl0, hil⟩
  have HPRS := Lib.hid hprs
  have H8 := Lib.hid (rclosed10_any a0 cap0 len0 L w hprs hll (by omega))
  have H21 : Hid (∀ W, Below w.heap.size w W → Calls Try.prog 21 #[.slice a1 len1 cap1] W (IPost (risZ ids) W)) := fun W b => rrising_any a1 len1 cap1 ids W ((hints.below b).mono b.size) hil hzl.symm
  have H7 : Hid (∀ W, Below w.heap.size w W → Calls Try.prog 7 #[.slice a0 len0 cap0] W (PuPost (srtD L) W)) := fun W b => rsort10_any a0 cap0 len0 L W (hprs.kept b) hll (by omega)
  have HTOSA : Hid (∀ x W, Below w.heap.size w W → Calls Try.prog 14 #[.slice a0 len0 cap0, .int .i64 x] W (IntPost (tgt L x) W)) := fun x W b => tos10_any a0 cap0 len0 L x W (hprs.kept b) hll (by omega)
  have HHASA : Hid (∀ f t W, Below w.heap.size w W → Calls Try.prog 17 #[.slice a0 len0 cap0, .agg #[.int .i64 f, .int .i64 t]] W fun e w' => e = .returned (.bool (hasB L ⟨f, t⟩)) ∧ Below W.heap.size W w') := fun f t W b => has10_any a0 cap0 len0 L ⟨f, t⟩ W (hprs.kept b) hll (by omega)
  have H22 : Hid (∀ W, Below w.heap.size w W → _) := fun W b => psteps_any a0 len0 cap0 L a2 a3 W (hprs.kept b) hll hl0 hwide ha2
  have H23 : Hid (∀ W, Below w.heap.size w W → _) := fun W b => rsteps_any a0 len0 cap0 L a2 a3 W (hprs.kept b) hll hl0
  have H24 : Hid (∀ W, Below w.heap.size w W → _) := fun W b => stranded_any a0 len0 cap0 L a1 len1 cap1 ids a2 W (hprs.kept b) hnil hlc hll hl0 hwide ((hints.below b).mono b.size) hil
  have H25 : Hid (∀ W, Below w.heap.size w W → _) := fun W b => final_any a0 len0 cap0 L a1 len1 cap1 ids W (hprs.kept b) hll hl0 hwide ((hints.below b).mono b.size) hil hi64
  have H26 : Hid (∀ W, Below w.heap.size w W → _) := fun W b => both_any a0 len0 cap0 L W (hprs.kept b) hnil hlc hll hl0 hwide
  clear w0 w1 w2 w3 hprs hwide hints hzl hids hll hlc hcm hnil ha2 hi64 hbig hl0 hil
  go_enter Try.func4, Try.ntmps4
  go_wp2_with fail
  refine H8.out.mono ?_
  rintro e w4 ⟨D, V9, hD, rfl, hp9, hb4⟩
  have HD := Lib.hid hD
  have HP9 := Lib.hid hp9
  have HB4 := Lib.hid hb4
  have HDL : Hid (D.length ≤ 400) := Nat.le_trans (conn_len hD.rise fun x hx => (hD.mem x).1 hx) (by
    rw [HLL.out.1]
    exact Nat.mul_le_mul HLL.out.2.1 HLL.out.2.1)
  obtain ⟨A9, c9, rfl, hp9a, _, _⟩ := hp9
  have HP9A := Lib.hid hp9a
  clear hD hb4 hp9a H8
  go_wp2_with fail
  refine (H21.out w4 HB4.out).mono ?_
  rintro e w5 ⟨V32, rfl, ho32, hb5⟩
  obtain ⟨A32, c32, rfl⟩ := Cel.own_slice ho32
  have HO32 := Lib.hid ho32
  have HB5 := Lib.hid (HB4.out.trans (hb5.mono HB4.out.size))
  have HB45 := Lib.hid hb5
  have up : ∀ W, Below w5.heap.size w5 W → Below w.heap.size w W := fun W b => HB5.out.trans (b.mono HB5.out.size)
  have HTOS : Hid (∀ x W, Below w5.heap.size w5 W → _) := fun x W b => HTOSA.out x W (up W b)
  have HHASD : Hid (∀ f t W, Below w5.heap.size w5 W → Calls Try.prog 17 #[.slice A9 D.length c9, .agg #[.int .i64 f, .int .i64 t]] W fun e w' => e = .returned (.bool (hasB D ⟨f, t⟩)) ∧ Below W.heap.size W w') := fun f t W b => has10_any A9 c9 D.length D ⟨f, t⟩ W (HP9A.out.kept (HB45.out.trans (b.mono HB45.out.size))) rfl (by have := HDL.out; omega)
  have HZL : Hid ((risZ ids).length ≤ 20) := by have := risZ_len ids; have := HLL.out; show _ ≤ _; omega
  obtain ⟨z, hz⟩ : ∃ z, risZ ids = z := ⟨_, rfl⟩
  have HZ := Lib.hid hz
  rw [hz] at HO32 HZL
  rw [hz]
  obtain ⟨m, hm⟩ : ∃ m, z.length = m := ⟨_, rfl⟩
  have HM := Lib.hid hm
  rw [hm]
  have HI0 : Hid (LRel D L a2 z w5 (.slice none 0 0) (.slice none 0 0) (.int .i64 0) w5) := ⟨0, Nat.zero_le _, rfl, World.ownsRow_nil _ _ _ _, World.ownsRow_nil _ _ _ _, fun j h => by simp [Value.ownBlock] at h, Below.refl _ _⟩
  clear ho32 hb5 H21 hz hm up
  obtain ⟨nD, hnD⟩ : ∃ nD, D.length = nD := ⟨_, rfl⟩
  have HND := Lib.hid hnD
  rw [hnD] at HHASD
  rw [hnD]
  clear hnD
  go_wp2_with fail
  go_loopw [10, 11, 34] (fun v1 v2 i W => LRel D L a2 z w5 v1 v2 i W) (fun _ _ i _ => m - (intOf i).toNat)
  case atStart => exact HI0.out
  case round =>
    obtain ⟨W, hW⟩ : ∃ X, wr = X := ⟨_, rfl⟩
    rw [hW] at hrel
    rw [hW]
    clear hW wr HI0
    obtain ⟨k, hk, rfl, htr⟩ := hrel
    have HTR := Lib.hid htr
    have hmm := HM.out
    by_cases hlt : k < m
    · obtain ⟨x, hx⟩ : ∃ x, z[k]? = some x := ⟨_, List.getElem?_eq_getElem (by omega)⟩
      have ho := own_keepP HO32.out htr.bel
      rw [HM.out] at ho
      obtain ⟨g32, c33, e, _, _, _⟩ := own_some ho (by omega)
      simp only [Value.slice.injEq] at e
      obtain ⟨rfl, _, rfl⟩ := e
      have r0 : W.cell? ⟨g32, k, none⟩ = some (.int .i64 x) := (ho.cellAt k (by omega)).trans (by simp [hx])
      have htk : z.take (k + 1) = z.take k ++ [x] := by rw [List.take_add_one, hx]; rfl
      have HTK := Lib.hid htk
      have hki : (0 : Int) ≤ k := by omega
      have hkb : (k : Int) < m := by omega
      have hzl := HZL.out
      have hk1 : IntKind.i64.wrap ((k : Int) + 1) = (k : Int) + 1 := IntWalk.i64_in _ (by omega)
      have HKN : Hid (k + 1 ≤ z.length ∧ k < m) := ⟨by omega, hlt⟩
      have HFL1 : Hid (((z.take k).filter (strP D a2)).length ≤ 20) := Nat.le_trans (List.length_filter_le _ _) (by rw [List.length_take]; omega)
      have HFL2 : Hid (((z.take k).filter (finP L)).length ≤ 20) := Nat.le_trans (List.length_filter_le _ _) (by rw [List.length_take]; omega)
      clear hx ho htk hmm hlt hk htr hzl
      by_cases hne : x = a2
      · have tne : (x != a2) = false := by simp [hne]
        have hst : strP D a2 x = false := by unfold strP; simp [hne]
        have HS1 : Hid ((z.take (k + 1)).filter (strP D a2) = (z.take k).filter (strP D a2)) := by show _ = _; rw [HTK.out, List.filter_append]; simp [hst]
        clear hne hst
        go_wp2_with fail
        have htos := HTOS.out x W HTR.out.bel
        have HTOS2 := Lib.hid htos
        clear htos
        go_wp2_with fail
        refine HTOS2.out.mono ?_
        rintro e wt ⟨VT, rfl, hot, hbt⟩
        obtain ⟨AT, cT, rfl⟩ := Cel.own_slice hot
        have HTT := Lib.hid (HTR.out.keep hbt)
        clear hot hbt HTOS2
        obtain ⟨nt, hnt⟩ : ∃ nt, (tgt L x).length = nt := ⟨_, rfl⟩
        have HNT := Lib.hid hnt
        rw [hnt]
        clear hnt
        by_cases hz0' : nt = 0
        · have tz : ((nt : Int) == 0) = true := by simp [hz0']
          have hfs : finP L x = true := by unfold finP; rw [HNT.out]; exact decide_eq_true hz0'
          have HS2 : Hid ((z.take (k + 1)).filter (finP L) = (z.take k).filter (finP L) ++ [x]) := by show _ = _; rw [HTK.out, List.filter_append]; simp [hfs]
          have HTS := Lib.hid HTT.out.swap
          clear hz0' hfs
          have htacd := HTS.out.keep ((Below.refl _ _).alloc (Nat.le_refl _) (.cells #[.int .i64 x] 3))
          have HTAcd := Lib.hid htacd
          clear htacd
          go_wp2_with (at_builtin; refine wpList_append_own_at _ rfl _ _ 29 rfl w5.heap.size 3 i0 (.int .i64 0) 1 8 Try.underlying29 hi hz0 hz1 hz2 rfl (by decide) _ _ _ rfl HTAcd.out.r1 ⟨wt.heap.size, 0, none⟩ 1 1 [.int .i64 x] rfl rfl (cell_one_new _ _ _) ?cd2 ?cd3 ?cd4 ?cd5 ?_)
          case cd2 => intro z hz; simp at hz; subst hz; rfl
          case cd3 => have := HFL2.out; unfold maxLen; omega
          case cd4 => have := HFL2.out; omega
          case cd5 => have h := HTAcd.out.bel.size; first | exact h | (rw [World.size_alloc] at h; exact h)
          intro vcd wcd hocd hgcd _ hatcd
          have HTBcd := Lib.hid (HTAcd.out.more hgcd hocd (by rw [World.size_alloc]; exact hatcd))
          clear hocd hgcd hatcd
          have HNX : Hid (LRel D L a2 z w5 _ _ (.int .i64 ((k : Int) + 1)) wcd) := ⟨k + 1, HKN.out.1, by go_num, by rw [HS1.out, HS2.out]; exact HTBcd.out.swap⟩
          go_wp2
          go_roundw
          case rel => exact HNX.out
          case measure => have := HKN.out; simp [intOf]; omega
        · have tz : ((nt : Int) == 0) = false := by simp; omega
          have hfs : finP L x = false := by unfold finP; rw [HNT.out]; exact decide_eq_false hz0'
          have HS2 : Hid ((z.take (k + 1)).filter (finP L) = (z.take k).filter (finP L)) := by show _ = _; rw [HTK.out, List.filter_append]; simp [hfs]
          have HNX : Hid (LRel D L a2 z w5 _ _ (.int .i64 ((k : Int) + 1)) wt) := ⟨k + 1, HKN.out.1, by go_num, by rw [HS1.out, HS2.out]; exact HTT.out⟩
          clear hz0' hfs
          go_wp2
          go_roundw
          case rel => exact HNX.out
          case measure => have := HKN.out; simp [intOf]; omega
      · have tne : (x != a2) = true := by simp [hne]
        have hhas := HHASD.out a2 x W HTR.out.bel
        cases hh : hasB D ⟨a2, x⟩ with
        | true =>
          rw [hh] at hhas
          have HHS := Lib.hid hhas
          have hst : strP D a2 x = false := by unfold strP; rw [hh]; simp
          have HS1 : Hid ((z.take (k + 1)).filter (strP D a2) = (z.take k).filter (strP D a2)) := by show _ = _; rw [HTK.out, List.filter_append]; simp [hst]
          clear hhas hst hne
          go_wp2_with fail
          refine HHS.out.mono ?_
          rintro e wh ⟨rfl, hbh⟩
          have HTR2 := Lib.hid (HTR.out.keep hbh)
          clear hbh HHS
          go_wp2_with fail
          have htos := HTOS.out x wh HTR2.out.bel
          have HTOS2 := Lib.hid htos
          clear htos
          go_wp2_with fail
          refine HTOS2.out.mono ?_
          rintro e wt ⟨VT, rfl, hot, hbt⟩
          obtain ⟨AT, cT, rfl⟩ := Cel.own_slice hot
          have HTT := Lib.hid (HTR2.out.keep hbt)
          clear hot hbt HTOS2
          obtain ⟨nt, hnt⟩ : ∃ nt, (tgt L x).length = nt := ⟨_, rfl⟩
          have HNT := Lib.hid hnt
          rw [hnt]
          clear hnt
          by_cases hz0' : nt = 0
          · have tz : ((nt : Int) == 0) = true := by simp [hz0']
            have hfs : finP L x = true := by unfold finP; rw [HNT.out]; exact decide_eq_true hz0'
            have HS2 : Hid ((z.take (k + 1)).filter (finP L) = (z.take k).filter (finP L) ++ [x]) := by show _ = _; rw [HTK.out, List.filter_append]; simp [hfs]
            have HTS := Lib.hid HTT.out.swap
            clear hz0' hfs
            have htacf := HTS.out.keep ((Below.refl _ _).alloc (Nat.le_refl _) (.cells #[.int .i64 x] 3))
            have HTAcf := Lib.hid htacf
            clear htacf
            go_wp2_with (at_builtin; refine wpList_append_own_at _ rfl _ _ 29 rfl w5.heap.size 3 i0 (.int .i64 0) 1 8 Try.underlying29 hi hz0 hz1 hz2 rfl (by decide) _ _ _ rfl HTAcf.out.r1 ⟨wt.heap.size, 0, none⟩ 1 1 [.int .i64 x] rfl rfl (cell_one_new _ _ _) ?cf2 ?cf3 ?cf4 ?cf5 ?_)
            case cf2 => intro z hz; simp at hz; subst hz; rfl
            case cf3 => have := HFL2.out; unfold maxLen; omega
            case cf4 => have := HFL2.out; omega
            case cf5 => have h := HTAcf.out.bel.size; first | exact h | (rw [World.size_alloc] at h; exact h)
            intro vcf wcf hocf hgcf _ hatcf
            have HTBcf := Lib.hid (HTAcf.out.more hgcf hocf (by rw [World.size_alloc]; exact hatcf))
            clear hocf hgcf hatcf
            have HNX : Hid (LRel D L a2 z w5 _ _ (.int .i64 ((k : Int) + 1)) wcf) := ⟨k + 1, HKN.out.1, by go_num, by rw [HS1.out, HS2.out]; exact HTBcf.out.swap⟩
            go_wp2
            go_roundw
            case rel => exact HNX.out
            case measure => have := HKN.out; simp [intOf]; omega
          · have tz : ((nt : Int) == 0) = false := by simp; omega
            have hfs : finP L x = false := by unfold finP; rw [HNT.out]; exact decide_eq_false hz0'
            have HS2 : Hid ((z.take (k + 1)).filter (finP L) = (z.take k).filter (finP L)) := by show _ = _; rw [HTK.out, List.filter_append]; simp [hfs]
            have HNX : Hid (LRel D L a2 z w5 _ _ (.int .i64 ((k : Int) + 1)) wt) := ⟨k + 1, HKN.out.1, by go_num, by rw [HS1.out, HS2.out]; exact HTT.out⟩
            clear hz0' hfs
            go_wp2
            go_roundw
            case rel => exact HNX.out
            case measure => have := HKN.out; simp [intOf]; omega
        | false =>
          rw [hh] at hhas
          have HHS := Lib.hid hhas
          have hst : strP D a2 x = true := by unfold strP; rw [hh]; simp [hne]
          have HS1 : Hid ((z.take (k + 1)).filter (strP D a2) = (z.take k).filter (strP D a2) ++ [x]) := by show _ = _; rw [HTK.out, List.filter_append]; simp [hst]
          clear hhas hst hne
          go_wp2_with fail
          refine HHS.out.mono ?_
          rintro e wh ⟨rfl, hbh⟩
          have HTR2 := Lib.hid (HTR.out.keep hbh)
          clear hbh HHS
          have htada := HTR2.out.keep ((Below.refl _ _).alloc (Nat.le_refl _) (.cells #[.int .i64 x] 3))
          have HTAda := Lib.hid htada
          clear htada
          go_wp2_with (at_builtin; refine wpList_append_own_at _ rfl _ _ 29 rfl w5.heap.size 3 i0 (.int .i64 0) 1 8 Try.underlying29 hi hz0 hz1 hz2 rfl (by decide) _ _ _ rfl HTAda.out.r1 ⟨wh.heap.size, 0, none⟩ 1 1 [.int .i64 x] rfl rfl (cell_one_new _ _ _) ?da2 ?da3 ?da4 ?da5 ?_)
          case da2 => intro z hz; simp at hz; subst hz; rfl
          case da3 => have := HFL1.out; unfold maxLen; omega
          case da4 => have := HFL1.out; omega
          case da5 => have h := HTAda.out.bel.size; first | exact h | (rw [World.size_alloc] at h; exact h)
          intro vda wda hoda hgda _ hatda
          have HTBda := Lib.hid (HTAda.out.more hgda hoda (by rw [World.size_alloc]; exact hatda))
          clear hoda hgda hatda
          go_wp2_with fail
          have htos := HTOS.out x wda HTBda.out.bel
          have HTOS2 := Lib.hid htos
          clear htos
          go_wp2_with fail
          refine HTOS2.out.mono ?_
          rintro e wt ⟨VT, rfl, hot, hbt⟩
          obtain ⟨AT, cT, rfl⟩ := Cel.own_slice hot
          have HTT := Lib.hid (HTBda.out.keep hbt)
          clear hot hbt HTOS2
          obtain ⟨nt, hnt⟩ : ∃ nt, (tgt L x).length = nt := ⟨_, rfl⟩
          have HNT := Lib.hid hnt
          rw [hnt]
          clear hnt
          by_cases hz0' : nt = 0
          · have tz : ((nt : Int) == 0) = true := by simp [hz0']
            have hfs : finP L x = true := by unfold finP; rw [HNT.out]; exact decide_eq_true hz0'
            have HS2 : Hid ((z.take (k + 1)).filter (finP L) = (z.take k).filter (finP L) ++ [x]) := by show _ = _; rw [HTK.out, List.filter_append]; simp [hfs]
            have HTS := Lib.hid HTT.out.swap
            clear hz0' hfs
            have htach := HTS.out.keep ((Below.refl _ _).alloc (Nat.le_refl _) (.cells #[.int .i64 x] 3))
            have HTAch := Lib.hid htach
            clear htach
            go_wp2_with (at_builtin; refine wpList_append_own_at _ rfl _ _ 29 rfl w5.heap.size 3 i0 (.int .i64 0) 1 8 Try.underlying29 hi hz0 hz1 hz2 rfl (by decide) _ _ _ rfl HTAch.out.r1 ⟨wt.heap.size, 0, none⟩ 1 1 [.int .i64 x] rfl rfl (cell_one_new _ _ _) ?ch2 ?ch3 ?ch4 ?ch5 ?_)
            case ch2 => intro z hz; simp at hz; subst hz; rfl
            case ch3 => have := HFL2.out; unfold maxLen; omega
            case ch4 => have := HFL2.out; omega
            case ch5 => have h := HTAch.out.bel.size; first | exact h | (rw [World.size_alloc] at h; exact h)
            intro vch wch hoch hgch _ hatch
            have HTBch := Lib.hid (HTAch.out.more hgch hoch (by rw [World.size_alloc]; exact hatch))
            clear hoch hgch hatch
            have HNX : Hid (LRel D L a2 z w5 _ _ (.int .i64 ((k : Int) + 1)) wch) := ⟨k + 1, HKN.out.1, by go_num, by rw [HS1.out, HS2.out]; exact HTBch.out.swap⟩
            go_wp2
            go_roundw
            case rel => exact HNX.out
            case measure => have := HKN.out; simp [intOf]; omega
          · have tz : ((nt : Int) == 0) = false := by simp; omega
            have hfs : finP L x = false := by unfold finP; rw [HNT.out]; exact decide_eq_false hz0'
            have HS2 : Hid ((z.take (k + 1)).filter (finP L) = (z.take k).filter (finP L)) := by show _ = _; rw [HTK.out, List.filter_append]; simp [hfs]
            have HNX : Hid (LRel D L a2 z w5 _ _ (.int .i64 ((k : Int) + 1)) wt) := ⟨k + 1, HKN.out.1, by go_num, by rw [HS1.out, HS2.out]; exact HTT.out⟩
            clear hz0' hfs
            go_wp2
            go_roundw
            case rel => exact HNX.out
            case measure => have := HKN.out; simp [intOf]; omega
    · obtain rfl : k = m := by omega
      have htk : z.take k = z := List.take_of_length_le (by omega)
      rw [htk] at HTR
      clear htk hmm hk htr
      have HBA : Hid (Below w.heap.size w W) := HB5.out.trans (HTR.out.bel.mono HB5.out.size)
      go_wp2_with fail
      refine (H7.out W HBA.out).mono ?_
      rintro e w6 ⟨V64, rfl, hp64, hb6⟩
      obtain ⟨A64, c64, rfl, hp64a, _, _⟩ := hp64
      have HP64 := Lib.hid hp64a
      have HTR6 := Lib.hid (HTR.out.keep hb6)
      have HB6 := Lib.hid (HBA.out.trans (hb6.mono HBA.out.size))
      have HC6 := Lib.hid (srtD_ord L)
      obtain ⟨C, hC⟩ : ∃ C, srtD L = C := ⟨_, rfl⟩
      rw [hC] at HP64 HC6
      rw [hC]
      have HCL : Hid (C.length ≤ 20) := by have := HC6.out.len; have := HLL.out; show _ ≤ _; omega
      obtain ⟨nC, hnC⟩ : ∃ nC, C.length = nC := ⟨_, rfl⟩
      have HNC := Lib.hid hnC
      rw [hnC]
      have HI2 : Hid (BRel L C w6 (.slice none 0 0) (.int .i64 0) w6) := ⟨0, Nat.zero_le _, rfl, World.ownsRow_nil _ _ _ _, Below.refl _ _⟩
      clear hp64a hb6 hC hnC
      go_wp2_with fail
      go_loopw [14, 66] (fun v i W2 => BRel L C w6 v i W2) (fun _ i _ => nC - (intOf i).toNat)
      case atStart => exact HI2.out
      case round =>
        obtain ⟨W2, hW2⟩ : ∃ X, wr = X := ⟨_, rfl⟩
        rw [hW2] at hrel
        rw [hW2]
        clear hW2 wr HI2
        obtain ⟨j, hj, rfl, hnp⟩ := hrel
        have HNP := Lib.hid hnp
        have HBN := Lib.hid (HB6.out.trans (hnp.below.mono HB6.out.size))
        have hnc := HNC.out
        by_cases hlt : j < nC
        · obtain ⟨x, hx⟩ : ∃ x, C[j]? = some x := ⟨_, List.getElem?_eq_getElem (by omega)⟩
          obtain ⟨y, rfl, c0, c1⟩ := (HP64.out.kept hnp.below) j x hx
          have htk : C.take (j + 1) = C.take j ++ [x] := by rw [List.take_add_one, hx]; rfl
          have HTK := Lib.hid htk
          have hji : (0 : Int) ≤ j := by omega
          have hjb : (j : Int) < nC := by omega
          have hcl := HCL.out
          have hj1 : IntKind.i64.wrap ((j : Int) + 1) = (j : Int) + 1 := IntWalk.i64_in _ (by omega)
          have HJN : Hid (j + 1 ≤ C.length ∧ j < nC) := ⟨by omega, hlt⟩
          have HFL : Hid (((C.take j).filter (bothQ L)).length ≤ 20) := Nat.le_trans (List.length_filter_le _ _) (by rw [List.length_take]; omega)
          have hba : Below W2.heap.size W2 (W2.alloc (.cells #[.int .i64 x.f, .int .i64 x.t] 24)) := (Below.refl _ _).alloc (Nat.le_refl _) _
          have hrow := heap_alloc_new W2 (.cells #[.int .i64 x.f, .int .i64 x.t] 24)
          obtain ⟨W4, hW4⟩ : ∃ W4, W2.alloc (.cells #[.int .i64 x.f, .int .i64 x.t] 24) = W4 := ⟨_, rfl⟩
          obtain ⟨bq, hbq⟩ : ∃ bq, W2.heap.size = bq := ⟨_, rfl⟩
          rw [hW4] at hba hrow
          rw [hbq] at hrow
          have HW4 := Lib.hid hW4
          have HBQ := Lib.hid hbq
          have HROW := Lib.hid hrow
          have HNP4 := Lib.hid (HNP.out.keep hba)
          have hhas := HHASA.out x.t x.f W4 (HBN.out.trans (hba.mono HBN.out.size))
          have y0 := cell_of_row _ _ 0 _ _ _ hrow
          have y1 := cell_of_row _ _ 1 _ _ _ hrow
          simp only [List.getElem?_toArray, List.getElem?_cons_zero, List.getElem?_cons_succ] at y0 y1
          cases hh : hasB L ⟨x.t, x.f⟩ with
          | true =>
            rw [hh] at hhas
            have HHS := Lib.hid hhas
            have hbq2 : bothQ L x = true := hh
            have HS : Hid ((C.take (j + 1)).filter (bothQ L) = (C.take j).filter (bothQ L) ++ [x]) := by show _ = _; rw [HTK.out, List.filter_append]; simp [hbq2]
            clear hx htk hcl hba hrow hW4 hbq hhas hh hbq2 hnc hlt hj hnp
            go_upto_region 17 with fail
            rw [HW4.out, HBQ.out]
            go_wp2_with fail
            refine HHS.out.mono ?_
            rintro e w8 ⟨rfl, hb8⟩
            have HNP8 := Lib.hid (HNP4.out.keep hb8)
            have hrow8 := box_kept HROW.out hb8
            have HNP9 := Lib.hid (HNP8.out.keep ((Below.refl _ _).alloc (Nat.le_refl _) (.cells #[.int .i64 x.f, .int .i64 x.t] 24)))
            clear hb8 HHS y0 y1
            have y0 := cell_of_row _ _ 0 _ _ _ hrow8
            have y1 := cell_of_row _ _ 1 _ _ _ hrow8
            simp only [List.getElem?_toArray, List.getElem?_cons_zero, List.getElem?_cons_succ] at y0 y1
            clear hrow8
            go_wp2_with (at_builtin; refine wpList_append_own _ rfl _ _ 22 rfl w6.heap.size 24 i2 (.agg #[.int .i64 0, .int .i64 0]) 2 16 Try.underlying22 hi2 hy0 hy1 hy2 rfl (by decide) _ _ _ rfl HNP9.out.own ⟨w8.heap.size, 0, none⟩ 1 1 [.int .i64 x.f, .int .i64 x.t] rfl rfl ?z1 ?z2 ?z3 ?z4 ?z5 ?_)
            case z1 =>
              intro j u hj
              have hrow := heap_alloc_new w8 (.cells #[.int .i64 x.f, .int .i64 x.t] 24)
              have e : (Addr.mk w8.heap.size 0 none).add j = ⟨w8.heap.size, j, none⟩ := by cases j <;> simp [Addr.add]
              rw [e, cell_of_row _ _ _ _ _ _ hrow, ← hj]
              simp
            case z2 => first | (intro u hu; simp at hu; rcases hu with rfl | rfl <;> rfl) | exact ⟨rfl, rfl⟩
            case z3 => have := HFL.out; unfold maxLen; omega
            case z4 => have := HFL.out; omega
            case z5 => have h := HNP9.out.below.size; first | exact h | (rw [World.size_alloc] at h; exact h)
            intro v9 w9 ho9 hg9 _
            have HNF := Lib.hid (HNP9.out.grown (x := x) hg9 _ rfl ho9)
            have HNX : Hid (BRel L C w6 v9 (.int .i64 ((j : Int) + 1)) w9) := ⟨j + 1, HJN.out.1, by go_num, by rw [HS.out]; exact HNF.out⟩
            clear ho9 hg9
            go_wp2
            go_roundw
            case rel => exact HNX.out
            case measure => have := HJN.out; simp [intOf]; omega
          | false =>
            rw [hh] at hhas
            have HHS := Lib.hid hhas
            have hbq2 : bothQ L x = false := hh
            have HS : Hid ((C.take (j + 1)).filter (bothQ L) = (C.take j).filter (bothQ L)) := by show _ = _; rw [HTK.out, List.filter_append]; simp [hbq2]
            clear hx htk hcl hba hrow hW4 hbq hhas hh hbq2 hnc hlt hj hnp
            go_upto_region 17 with fail
            rw [HW4.out, HBQ.out]
            go_wp2_with fail
            refine HHS.out.mono ?_
            rintro e w8 ⟨rfl, hb8⟩
            have HNP8 := Lib.hid (HNP4.out.keep hb8)
            have HNX : Hid (BRel L C w6 u14 (.int .i64 ((j : Int) + 1)) w8) := ⟨j + 1, HJN.out.1, by go_num, by rw [HS.out]; exact HNP8.out⟩
            clear hb8 HHS y0 y1
            go_wp2
            go_roundw
            case rel => exact HNX.out
            case measure => have := HJN.out; simp [intOf]; omega
        · obtain rfl : j = nC := by omega
          have htk : C.take j = C := List.take_of_length_le (by omega)
          rw [htk] at HNP
          have hnp2 := hnp.below
          have HTR7 := Lib.hid (HTR6.out.keep hnp2)
          clear htk hnc hj hnp hnp2
          go_wp2_with fail
          refine (H22.out W2 HBN.out).mono ?_
          rintro e w10 ⟨o, ho10, rfl, hb10⟩
          have HO10 := Lib.hid ho10
          have HB10 := Lib.hid (HBN.out.trans (hb10.mono HBN.out.size))
          have HB210 := Lib.hid hb10
          clear ho10 hb10
          go_wp2_with fail
          refine (H23.out w10 HB10.out).mono ?_
          rintro e w11 ⟨o', ho11, rfl, hb11⟩
          obtain rfl := HO10.out.one ho11
          have HB11 := Lib.hid (HB10.out.trans (hb11.mono HB10.out.size))
          have HB211 := Lib.hid (HB210.out.trans (hb11.mono HB210.out.size))
          have hor : (∃ q : Nat, otV o = (q : Int) ∧ stV o = (q : Int) ∧ o.isSome = true) ∨ (otV o = 0 ∧ stV o = -1 ∧ o.isSome = false) := by
            cases o with
            | none => exact .inr ⟨rfl, rfl, rfl⟩
            | some q => exact .inl ⟨q, rfl, rfl, rfl⟩
          have HTA := Lib.hid (HTR7.out.keep HB211.out)
          have HNA := Lib.hid (HNP.out.keep HB211.out)
          clear ho11 hb11
          rcases hor with ⟨q, e1, e2, e3⟩ | ⟨e1, e2, e3⟩
          · have tq : decide ((0 : Int) ≤ (q : Int)) = true := decide_eq_true (by omega)
            have tqn : ((q : Int) != (q : Int)) = false := by simp
            rw [e1, e2, e3]
            clear e1 e2 e3
            have HSTR := Lib.hid (H24.out w11 HB11.out)
            go_wp2_with fail
            refine HSTR.out.mono ?_
            rintro e w12 ⟨R, hR, V116, rfl, ho12, hb12⟩
            have hfe : (risZ ids).filter (strQ a2 R) = z.filter (strP D a2) := by rw [HZ.out]; exact List.filter_congr fun x _ => str_eq HD.out hR x
            rw [hfe] at ho12
            have HB12 := Lib.hid (HB11.out.trans (hb12.mono HB11.out.size))
            have HTB := Lib.hid (HTA.out.keep hb12)
            have HNB := Lib.hid (HNA.out.keep hb12)
            have HSI := Lib.hid (sameI_yes w12 V116 _ _ (Nat.le_trans (List.length_filter_le _ _) (by have h1 := HM.out; have h2 := HZL.out; omega)) ⟨_, ho12⟩ ⟨_, HTB.out.r1⟩)
            clear hR ho12 hb12 hfe HSTR
            go_wp2_with fail
            refine HSI.out.mono ?_
            rintro e w13 ⟨rfl, hb13⟩
            have HB13 := Lib.hid (HB12.out.trans (hb13.mono HB12.out.size))
            have HTC := Lib.hid (HTB.out.keep hb13)
            have HNC2 := Lib.hid (HNB.out.keep hb13)
            clear hb13 HSI
            go_wp2_with fail
            refine (H25.out w13 HB13.out).mono ?_
            rintro e w14 ⟨V122, rfl, ho14, hb14⟩
            have hfe : (risZ ids).filter (finQ L) = z.filter (finP L) := by rw [HZ.out]; rfl
            rw [hfe] at ho14
            have HB14 := Lib.hid (HB13.out.trans (hb14.mono HB13.out.size))
            have HTD := Lib.hid (HTC.out.keep hb14)
            have HND2 := Lib.hid (HNC2.out.keep hb14)
            have HSI := Lib.hid (sameI_yes w14 V122 _ _ (Nat.le_trans (List.length_filter_le _ _) (by have h1 := HM.out; have h2 := HZL.out; omega)) ⟨_, ho14⟩ ⟨_, HTD.out.r2⟩)
            clear ho14 hb14 hfe
            go_wp2_with fail
            refine HSI.out.mono ?_
            rintro e w15 ⟨rfl, hb15⟩
            have HB15 := Lib.hid (HB14.out.trans (hb15.mono HB14.out.size))
            have HNE := Lib.hid (HND2.out.keep hb15)
            clear hb15 HSI
            go_wp2_with fail
            refine (H26.out w15 HB15.out).mono ?_
            rintro e w16 ⟨C', hC', V128, rfl, hp16, hb16⟩
            obtain rfl := hC'.one HC6.out
            have HB16 := Lib.hid (HB15.out.trans (hb16.mono HB15.out.size))
            obtain ⟨A128, c128, rfl, p1, _, _⟩ := hp16
            obtain ⟨A129, c129, hv129, p2, _, _⟩ := (HNE.out.keep hb16).prs
            have HSP := Lib.hid (same10_yes A128 A129 c128 c129 _ w16 p1 p2 (Nat.le_trans (List.length_filter_le _ _) (by have := HCL.out; unfold maxLen; omega)))
            rw [← hv129] at HSP
            clear hb16 p1 p2 hC' hv129
            go_wp2_with fail
            refine HSP.out.mono ?_
            rintro e w17 ⟨rfl, nn, rfl⟩
            have HB17 := Lib.hid (below_drewN HB16.out nn)
            clear HSP
            go_wp2_with fail
            refine (awake15 _).mono ?_
            rintro e w18 ⟨rfl, hb18⟩
            have HB18 := Lib.hid (HB17.out.trans (hb18.mono HB17.out.size))
            clear hb18
            go_wp2
            go_ret
            exact ⟨rfl, HB18.out⟩
          · have tq : decide ((0 : Int) ≤ (-1 : Int)) = false := by decide
            rw [e1, e2, e3]
            clear e1 e2 e3
            have HSTR := Lib.hid (H24.out w11 HB11.out)
            go_wp2_with fail
            refine HSTR.out.mono ?_
            rintro e w12 ⟨R, hR, V116, rfl, ho12, hb12⟩
            have hfe : (risZ ids).filter (strQ a2 R) = z.filter (strP D a2) := by rw [HZ.out]; exact List.filter_congr fun x _ => str_eq HD.out hR x
            rw [hfe] at ho12
            have HB12 := Lib.hid (HB11.out.trans (hb12.mono HB11.out.size))
            have HTB := Lib.hid (HTA.out.keep hb12)
            have HNB := Lib.hid (HNA.out.keep hb12)
            have HSI := Lib.hid (sameI_yes w12 V116 _ _ (Nat.le_trans (List.length_filter_le _ _) (by have h1 := HM.out; have h2 := HZL.out; omega)) ⟨_, ho12⟩ ⟨_, HTB.out.r1⟩)
            clear hR ho12 hb12 hfe HSTR
            go_wp2_with fail
            refine HSI.out.mono ?_
            rintro e w13 ⟨rfl, hb13⟩
            have HB13 := Lib.hid (HB12.out.trans (hb13.mono HB12.out.size))
            have HTC := Lib.hid (HTB.out.keep hb13)
            have HNC2 := Lib.hid (HNB.out.keep hb13)
            clear hb13 HSI
            go_wp2_with fail
            refine (H25.out w13 HB13.out).mono ?_
            rintro e w14 ⟨V122, rfl, ho14, hb14⟩
            have hfe : (risZ ids).filter (finQ L) = z.filter (finP L) := by rw [HZ.out]; rfl
            rw [hfe] at ho14
            have HB14 := Lib.hid (HB13.out.trans (hb14.mono HB13.out.size))
            have HTD := Lib.hid (HTC.out.keep hb14)
            have HND2 := Lib.hid (HNC2.out.keep hb14)
            have HSI := Lib.hid (sameI_yes w14 V122 _ _ (Nat.le_trans (List.length_filter_le _ _) (by have h1 := HM.out; have h2 := HZL.out; omega)) ⟨_, ho14⟩ ⟨_, HTD.out.r2⟩)
            clear ho14 hb14 hfe
            go_wp2_with fail
            refine HSI.out.mono ?_
            rintro e w15 ⟨rfl, hb15⟩
            have HB15 := Lib.hid (HB14.out.trans (hb15.mono HB14.out.size))
            have HNE := Lib.hid (HND2.out.keep hb15)
            clear hb15 HSI
            go_wp2_with fail
            refine (H26.out w15 HB15.out).mono ?_
            rintro e w16 ⟨C', hC', V128, rfl, hp16, hb16⟩
            obtain rfl := hC'.one HC6.out
            have HB16 := Lib.hid (HB15.out.trans (hb16.mono HB15.out.size))
            obtain ⟨A128, c128, rfl, p1, _, _⟩ := hp16
            obtain ⟨A129, c129, hv129, p2, _, _⟩ := (HNE.out.keep hb16).prs
            have HSP := Lib.hid (same10_yes A128 A129 c128 c129 _ w16 p1 p2 (Nat.le_trans (List.length_filter_le _ _) (by have := HCL.out; unfold maxLen; omega)))
            rw [← hv129] at HSP
            clear hb16 p1 p2 hC' hv129
            go_wp2_with fail
            refine HSP.out.mono ?_
            rintro e w17 ⟨rfl, nn, rfl⟩
            have HB17 := Lib.hid (below_drewN HB16.out nn)
            clear HSP
            go_wp2_with fail
            refine (awake15 _).mono ?_
            rintro e w18 ⟨rfl, hb18⟩
            have HB18 := Lib.hid (HB17.out.trans (hb18.mono HB17.out.size))
            clear hb18
            go_wp2
            go_ret
            exact ⟨rfl, HB18.out⟩

end Go.Proofs.Ytnngldkpkhabeaa.relationReaches
