
/- The function NeedShares returns true for every schedule and every number. Condition: none. This text: the walk through the Go text; the row is in the text without the W at its name's end. -/

import Derived.Test.YteefmdelacihfaaArgs

import Derived.Test.YteefmdelacihfaaNeeM

import Derived.Test.YteefmdelacihfaaWinB

import Derived.Test.YteefmdelacihfaaWinY

import Derived.Deep.RegionHeld3

namespace Go.Proofs.Yteefmdelacihfaa.needShares

open Go.RowKit Go.PlainAid Go.Proofs.Yteefmdelacihfaa.Args

set_option linter.unusedVariables false

open Go.Proofs.Yteefmdelacihfaa.Flt Go.Proofs.Yteefmdelacihfaa.Rdr Go.Proofs.Yteefmdelacihfaa.Oct Go.Proofs.Yteefmdelacihfaa.Win Go.Proofs.Yteefmdelacihfaa.Nee

open Go.Proofs.Yteefmdelacihfaa.Act (A3 ActsAt I64 Wide acts_of)

open Go.Proofs.Yteefmdelacihfaa.Scd (SC scC rgS rgS_in rowB)

set_option linter.unusedSimpArgs false

/-- A schedule that came in by value. -/
theorem sched_in2 {w : World} {a : Array Value} (h : IsAgg w [.one (.int .i64), .one (.int .i64), .recs [.int .i64, .int .i64, .int .i64], .recs [.int .i64, .int .i64, .int .i64]] a) :
    ∃ (x : SC) (B : Option Addr) (cb : Nat) (C : Option Addr) (cc : Nat), a = scC x B cb C cc ∧ ActsAt w B x.ws ∧ (∀ y ∈ x.ws, Wide y) ∧ I64 x.fr ∧ ActsAt w C x.ns ∧ x.ws.length ≤ maxLen ∧ x.ns.length ≤ maxLen := by
  obtain ⟨hs, hf⟩ := h
  obtain ⟨v0, e0, id, rfl, w0⟩ := hf 0 _ rfl
  obtain ⟨v1, e1, fr, rfl, w1⟩ := hf 1 _ rfl
  obtain ⟨v2, e2, B, bl, bc, rfl, w2⟩ := hf 2 _ rfl
  obtain ⟨v3, e3, C, cl, cc, rfl, w3⟩ := hf 3 _ rfl
  obtain ⟨ws, hw1, hw2, hw3, hw4, hw5⟩ := acts_of w2
  obtain ⟨ns, hn1, hn2, hn3, hn4, hn5⟩ := acts_of w3
  refine ⟨⟨id, fr, ws, ns⟩, B, bc, C, cc, ?_, hw2, hw3, bounds_i64 w1, hn2, by dsimp only; omega, by dsimp only; omega⟩
  have hs4 : a.size = 4 := hs
  unfold scC
  apply Array.ext_getElem?
  intro i
  rcases (show i = 0 ∨ i = 1 ∨ i = 2 ∨ i = 3 ∨ 4 ≤ i by omega) with rfl | rfl | rfl | rfl | h
  · exact e0
  · exact e1
  · rw [e2, ← hw1]; rfl
  · rw [e3, ← hn1]; rfl
  · rw [Array.getElem?_eq_none (by omega), Array.getElem?_eq_none (by simp; omega)]
/-- The schedule's box. -/
structure NB (b : Nat) (xs : Array Value) (w W : World) : Prop where
  box : W.heap[b]? = some (.cells xs 25 (0, 0))
  below : Below w.heap.size w W
theorem NB.keep {b : Nat} {xs : Array Value} {w W W' : World} (f : NB b xs w W) (k : Below W.heap.size W W') : NB b xs w W' :=
  ⟨(k.block _ (lt_of_block f.box)).trans f.box, f.below.trans (k.mono f.below.size)⟩
theorem NB.cells {b : Nat} {c0 c1 c2 c3 : Value} {w W : World} (f : NB b #[c0, c1, c2, c3] w W) :
    W.cell? ⟨b, 0, none⟩ = some c0 ∧ W.cell? ⟨b, 1, none⟩ = some c1 ∧ W.cell? ⟨b, 2, none⟩ = some c2 ∧ W.cell? ⟨b, 3, none⟩ = some c3 := by
  refine ⟨?_, ?_, ?_, ?_⟩
  all_goals (rw [cell_of_row W _ _ _ _ _ f.box]; rfl)
set_option maxRecDepth 8000 in
set_option maxHeartbeats 6400000 in
theorem walk (a0 : Array Value) (a1 : Int) (w : World) (w0 : IsAgg w [.one (.int .i64), .one (.int .i64), .recs [.int .i64, .int .i64, .int .i64], .recs [.int .i64, .int .i64, .int .i64]] a0) (w1 : (Lit.int .i64 a1).wf = true) :
    Calls Try.prog 4 #[.agg a0, .int .i64 a1] w fun e w' => e = .returned (.bool true) ∧ Below w.heap.size w w' := by
  obtain ⟨x, P, pc, C, cc, rfl, hacts, hwide, hfr, hns, hl1, hl2⟩ := sched_in2 w0
  have hb0 : Below w.heap.size w (w.alloc (.cells (scC x P pc C cc) 25)) := (Below.refl _ _).alloc (Nat.le_refl _) _
  have HBX : Hid (NB w.heap.size (scC x P pc C cc) w (w.alloc (.cells (scC x P pc C cc) 25))) := ⟨heap_alloc_new _ _, hb0⟩
  have HLG := Lib.hid (large_any x P pc C cc _ (hacts.kept hb0) (hns.kept hb0) hl1 hl2)
  obtain ⟨lg, hlg⟩ : ∃ b, lgB x = b := ⟨_, rfl⟩
  rw [hlg] at HLG
  have HLGB := Lib.hid hlg
  have HACT := Lib.hid hacts
  have HNS := Lib.hid hns
  obtain ⟨id, fr, l, ns⟩ := x
  unfold scC at HBX HLG ⊢
  dsimp only at HBX HLG HACT HNS ⊢
  obtain ⟨nl, hnl⟩ : ∃ n, l.length = n := ⟨_, rfl⟩
  have HNL := Lib.hid hnl
  obtain ⟨nn, hnn⟩ : ∃ n, ns.length = n := ⟨_, rfl⟩
  have HNNL := Lib.hid hnn
  rw [hnl] at HBX HLG ⊢
  rw [hnn] at HBX HLG ⊢
  clear w0 hacts hwide hfr hns hl1 hl2 hb0 hlg hnl hnn
  go_enter Try.func4, Try.ntmps4
  obtain ⟨y0, y1, y2, y3⟩ := HBX.out.cells
  go_wp2_with fail
  refine HLG.out.mono ?_
  rintro e w2 ⟨rfl, hb2⟩
  have HR2 := Lib.hid (HBX.out.keep hb2)
  clear hb2 HLG HBX y0 y1 y2 y3
  obtain ⟨y0, y1, y2, y3⟩ := HR2.out.cells
  cases lg with
  | true =>
    go_wp2_with (go_at_call 6; refine (awake14 _).mono ?_; rintro e w' ⟨rfl, hb⟩; have HB2 := Lib.hid (HR2.out.below.trans (hb.mono HR2.out.below.size)); clear hb)
    go_ret
    exact ⟨rfl, HB2.out⟩
  | false =>
    have hlg := HLGB.out
    unfold lgB at hlg
    simp only [Bool.or_eq_false_iff, decide_eq_false_iff_not] at hlg
    obtain ⟨⟨hrg, h200⟩, h30⟩ := hlg
    obtain ⟨hi1, hi2, hi3, hi4, hi5, hi6⟩ := rgS_in (Decidable.not_not.1 hrg)
    dsimp only at hi1 hi2 hi3 hi4 hi5 hi6 h200 h30
    have hnum : ∀ x ∈ l, Num x := fun x hx => (num_of (hi4 x hx)).1
    obtain ⟨fn, rfl⟩ : ∃ n : Nat, fr = (n : Int) := ⟨fr.toNat, by omega⟩
    have hf3 : fn ≤ 200 := by omega
    have hf1 : 1 ≤ fn := by omega
    have HWA := Lib.hid (fun (W : World) (b : Below w.heap.size w W) => word_at id fn P C l pc nn cc W (HACT.out.kept b) hnum ⟨hf1, by omega⟩ (by omega))
    have HRWD := Lib.hid (fun (W : World) (b : Below w.heap.size w W) => rword_any id fn P pc l C nn cc W (HACT.out.kept b) hnum (by omega) (by omega))
    have hwl0 : (ticksL (ownT (fn : Int) l) 0 fn).length = fn := ticks_len _ _ _
    obtain ⟨ws, hws⟩ : ∃ ws, ticksL (ownT (fn : Int) l) 0 fn = ws := ⟨_, rfl⟩
    rw [HNL.out, hws] at HWA HRWD
    rw [hws] at hwl0
    have HWL := Lib.hid hwl0
    have HF : Hid (1 ≤ fn ∧ fn ≤ 200) := ⟨hf1, hf3⟩
    have hnns : ∀ x ∈ ns, Num x := fun x hx => (num_of (hi6 x hx)).1
    have HNUM := Lib.hid hnns
    have HN32 : Hid (nn ≤ 32) := by show _ ≤ _; rw [← HNNL.out]; exact hi5
    have hcs := cutsOf_cuts (fn : Int) l (by omega) hnum
    have hc2 := cutsOf_two (fn : Int) l (by omega) hnum
    obtain ⟨m, hm⟩ : ∃ m, (cutsOf (fn : Int) l).length = m + 1 := ⟨(cutsOf (fn : Int) l).length - 1, by omega⟩
    have hmf : ∀ x ∈ l, fW (fn : Int) x ∈ cutsOf fn l := fun x hx => (cutsOf_mem _ _ _).2 (.inr (.inr ⟨x, hx, .inl rfl⟩))
    have hmt : ∀ x ∈ l, tW (fn : Int) x ∈ cutsOf fn l := fun x hx => (cutsOf_mem _ _ _).2 (.inr (.inr ⟨x, hx, .inr rfl⟩))
    have hwd : wordL (rowsL (fn : Int) l (cutsOf fn l) m) = ws := by
      have h := rows_word hcs hm hmf hmt
      rw [show ((fn : Int)).toNat = fn from rfl, hws] at h
      exact h
    have hpos := rows_pos (l := l) hcs hm
    obtain ⟨cz, hcz⟩ : ∃ n, cntZ a1 ws = n := ⟨_, rfl⟩
    have htk : tickS a1 (rowsL (fn : Int) l (cutsOf fn l) m) = (cz : Int) := by rw [← cnt_word a1 _ (fun x hx => Int.le_of_lt (hpos x hx)), hwd, hcz]
    have hcf : cz ≤ fn := by rw [← hcz, ← HWL.out]; exact cntZ_le _ _
    have HTK : Hid (∀ W, Below w.heap.size w W → Calls Try.prog 26 #[.agg #[.int .i64 id, .int .i64 (fn : Int), .slice P nl pc, .slice C nn cc], .int .i64 a1] W fun e w' => e = .returned (.int .i64 (cz : Int)) ∧ Below W.heap.size W w') := fun W b => by
      have h := ticks_any a1 id fn P pc l C nn cc W (HACT.out.kept b) hnum ⟨hf1, by omega⟩ (by omega) m hm
      rw [HNL.out, htk] at h
      exact h
    have HSH := Lib.hid (fun (W : World) (b : Below w.heap.size w W) => share_any id a1 P C nl pc nn cc cz fn W (fun W' b' => HTK.out W' (b.trans (b'.mono b.size))) hcf hf1 (by omega))
    have HCN : Hid (∀ (VB c B : Nat) (W : World), W.ownsRow B 3 1 (.slice (some ⟨VB, 0, none⟩) fn c) fn (ws.map (Value.int .i64)) → Calls Try.prog 15 #[.slice (some ⟨VB, 0, none⟩) fn c, .int .i64 a1] W fun e w' => e = .returned (.int .i64 (cz : Int)) ∧ W = w') := fun VB c B W h => by
      have h := rcount_any a1 ws VB fn c B W h HWL.out (by omega)
      rw [hcz] at h
      exact h
    have HDI := Lib.hid (fun (W : World) => rdivisor_any cz fn (by omega) hf1 (by omega) W)
    have HSLK : Hid (∀ W, Below w.heap.size w W → Calls Try.prog 17 #[.agg #[.int .i64 id, .int .i64 (fn : Int), .slice P nl pc, .slice C nn cc]] W fun e w' => ∃ NB, e = .returned (.slice (some ⟨NB, 0, none⟩) nn nn) ∧ w'.ownsRow W.heap.size 3 1 (.slice (some ⟨NB, 0, none⟩) nn nn) nn ((ns.map (slV ws fn)).map (Value.int .i64)) ∧ Below W.heap.size W w') := fun W b => by
      have h := slack_any id P nl pc ns C cc ws fn W (HNS.out.kept b) hnns (by omega) (by rw [HNNL.out]; exact HWA.out W b) HWL.out hf1 (by omega)
      rw [HNNL.out] at h
      exact h
    have hg0 : 0 < Nat.gcd cz fn := Nat.gcd_pos_of_pos_right cz (by omega)
    obtain ⟨g, hg⟩ : ∃ g, Nat.gcd cz fn = g := ⟨_, rfl⟩
    rw [hg] at HSH HDI hg0
    have hq1 : Int.tdiv (cz : Int) (g : Int) = ((cz / g : Nat) : Int) := by rw [Int.tdiv_eq_ediv_of_nonneg (by omega)]; rfl
    have hq2 : Int.tdiv (fn : Int) (g : Int) = ((fn / g : Nat) : Int) := by rw [Int.tdiv_eq_ediv_of_nonneg (by omega)]; rfl
    have hl1 : cz / g ≤ cz := Nat.div_le_self _ _
    have hl2 : fn / g ≤ fn := Nat.div_le_self _ _
    obtain ⟨u, hu⟩ : ∃ u, cz / g = u := ⟨_, rfl⟩
    obtain ⟨v, hv⟩ : ∃ v, fn / g = v := ⟨_, rfl⟩
    rw [hu] at hq1 hl1 HSH
    rw [hv] at hq2 hl2 HSH
    have hw1 : IntKind.i64.wrap (u : Int) = (u : Int) := IntWalk.i64_in _ (by omega)
    have hw2 : IntKind.i64.wrap (v : Int) = (v : Int) := IntWalk.i64_in _ (by omega)
    have hgn : ¬ g = 0 := by omega
    have hgb : ((g : Int) == 0) = false := by simp; omega
    clear hrg h200 h30 hi1 hi2 hi3 hi4 hi5 hi6 hnum hnns hws hwl0 hcs hc2 hm hmf hmt hwd hpos hcz htk hcf hg hu hv hg0 hl1 hl2 HTK HWA
    go_wp2_with fail
    refine (HRWD.out _ HR2.out.below).mono ?_
    rintro e w3 ⟨VB, vc, rfl, ho3, hb3⟩
    have HR3 := Lib.hid (HR2.out.keep hb3)
    have HO3 := Lib.hid (ho3.mono HR2.out.below.size)
    clear hb3 ho3 HRWD HR2 y0 y1 y2 y3
    obtain ⟨y0, y1, y2, y3⟩ := HR3.out.cells
    go_wp2_with fail
    refine (HSH.out _ HR3.out.below).mono ?_
    rintro e w4 ⟨rfl, hb4⟩
    have HR4 := Lib.hid (HR3.out.keep hb4)
    have HO4 := Lib.hid (owns_kept HO3.out hb4)
    clear hb4 HSH HR3 HO3 y0 y1 y2 y3
    obtain ⟨y0, y1, y2, y3⟩ := HR4.out.cells
    go_wp2_with fail
    refine (HCN.out VB vc _ _ HO4.out).mono ?_
    rintro e w5 ⟨rfl, rfl⟩
    go_wp2_with fail
    refine (HDI.out _).mono ?_
    rintro e w5 ⟨rfl, rfl⟩
    go_wp2_with fail
    refine (HSLK.out _ HR4.out.below).mono ?_
    rintro e w6 ⟨NB, rfl, ho6, hb6⟩
    have HNB0 := (ho6.lt NB rfl).1
    have HS6 : Hid (SL w.heap.size #[.int .i64 id, .int .i64 (fn : Int), .slice P nl pc, .slice C nn cc] VB fn vc ws NB nn (ns.map (slV ws fn)) w w6) :=
      ⟨(HR4.out.keep hb6).box, owns_kept HO4.out hb6, ho6.mono HR4.out.below.size, by have := (HO4.out.lt VB rfl).2; omega, by have := lt_of_block HR4.out.box; omega, HR4.out.below.trans (hb6.mono HR4.out.below.size)⟩
    clear ho6 hb6 HNB0 HSLK HR4 HO4 HCN HDI y0 y1 y2 y3
    have y1 := cell_of_row _ _ 1 _ _ _ HS6.out.box
    have y3 := cell_of_row _ _ 3 _ _ _ HS6.out.box
    simp only [List.getElem?_toArray, List.getElem?_cons_zero, List.getElem?_cons_succ] at y1 y3
    go_wp2_with fail
    clear y1 y3 hq1 hq2 hw1 hw2 hgn hgb
    go_loopw [58] (fun i wr => ∃ k : Nat, k ≤ nn ∧ i = .int .i64 (k : Int) ∧ SL w.heap.size #[.int .i64 id, .int .i64 (fn : Int), .slice P nl pc, .slice C nn cc] VB fn vc ws NB nn (ns.map (slV ws fn)) w wr) (fun i _ => nn - (intOf i).toNat)
    case atStart => exact ⟨0, Nat.zero_le _, rfl, HS6.out⟩
    case round =>
      obtain ⟨k, hka, rfl, hsl⟩ := hrel
      have HSL := Lib.hid hsl
      clear hsl HS6
      by_cases hlt : k < nn
      · obtain ⟨x, hx⟩ : ∃ x, ns[k]? = some x := ⟨_, List.getElem?_eq_getElem (by rw [HNNL.out]; exact hlt)⟩
        obtain ⟨ax, rfl, c1, c2, c3⟩ := (HNS.out.kept HSL.out.below) k x hx
        have HMX := Lib.hid (HNUM.out x (List.mem_of_getElem? hx))
        have hb5 : Below wr.heap.size wr (wr.alloc (.cells (winC x) 43)) := (Below.refl _ _).alloc (Nat.le_refl _) _
        have HX5 := Lib.hid (heap_alloc_new wr (.cells (winC x) 43))
        have HS5 := Lib.hid (HSL.out.keep hb5)
        have HVC : Hid ((ns.map (slV ws fn))[k]? = some (slV ws fn x)) := by show _ = _; rw [List.getElem?_map, hx]; rfl
        have HLS : Hid (divB x.p fn = true → ∀ W, ∀ ys, SL w.heap.size #[.int .i64 id, .int .i64 (fn : Int), .slice P nl pc, .slice (some ax) nn cc] VB fn vc ws NB nn ys w W → Calls Try.prog 13 #[.slice (some ⟨VB, 0, none⟩) fn vc, .int .i64 x.s, .int .i64 x.p] W fun e w' => e = .returned (.int .i64 (lsV x.s x.p ws fn : Nat)) ∧ W = w') := fun hd W ys h => by
          obtain ⟨hq1, hqn⟩ := divB_true hd
          obtain ⟨p, hp⟩ : ∃ p : Nat, x.p = (p : Int) := ⟨x.p.toNat, by omega⟩
          unfold lsV
          rw [if_pos hd, hp, Int.toNat_natCast]
          rw [hp, Int.toNat_natCast] at hqn
          have hp3 : p ≤ 1048576 := by have := HMX.out; unfold Num at this; omega
          have hh := rleast_any x.s ws ⟨VB, 0, none⟩ p (fn / p) vc W (own_zat h.word HWL.out) (by rw [HWL.out, hqn]) (by omega) (by rw [hqn]; have := HF.out; omega) (by omega)
          rw [hqn] at hh
          exact hh
        have hlb : ((lsV x.s x.p ws fn : Nat) : Int) ≤ 1048576 := by
          have := HMX.out
          unfold Num at this
          unfold lsV
          split
          · have := minC_le x.s ws x.p.toNat x.p.toNat (fn / x.p.toNat)
            omega
          · omega
        obtain ⟨s1, p1, b1⟩ := x
        unfold winC at HX5 HS5
        dsimp only at c1 c2 c3 HX5 HS5 HLS hlb
        obtain ⟨dv, hdv⟩ : ∃ b, divB p1 fn = b := ⟨_, rfl⟩
        obtain ⟨ls, hls⟩ : ∃ m, lsV s1 p1 ws fn = m := ⟨_, rfl⟩
        have hsv2 : slV ws fn ⟨s1, p1, b1⟩ = if dv = true then (ls : Int) - b1 else 0 := by unfold slV; dsimp only; rw [hdv, hls]
        have HDV : Hid (dv = (decide (1 ≤ p1) && ((fn : Int) % p1 == 0))) := by show _ = _; rw [← hdv]; rfl
        rw [hdv] at HLS
        rw [hls] at HLS hlb
        rw [hsv2] at HVC
        have hmx := HMX.out
        unfold Num at hmx
        dsimp only at hmx
        have hki : (0 : Int) ≤ k := by omega
        have hkb : (k : Int) < nn := by omega
        have hk1 : IntKind.i64.wrap ((k : Int) + 1) = (k : Int) + 1 := IntWalk.i64_in _ (by have := HN32.out; omega)
        have hws : IntKind.i64.wrap ((ls : Int) - b1) = (ls : Int) - b1 := IntWalk.i64_in _ (by omega)
        clear hb5 hsv2 hdv hls hlb hmx hx HSL
        go_upto_region 14 with fail
        obtain ⟨W, hW⟩ : ∃ W, wr.alloc (.cells #[.int .i64 s1, .int .i64 p1, .int .i64 b1] 43) = W := ⟨_, rfl⟩
        obtain ⟨X, hX⟩ : ∃ X, wr.heap.size = X := ⟨_, rfl⟩
        rw [hW] at HX5 HS5
        rw [hX] at HX5
        rw [hW, hX]
        have x0 := cell_of_row _ _ 0 _ _ _ HX5.out
        have x1 := cell_of_row _ _ 1 _ _ _ HX5.out
        have x2 := cell_of_row _ _ 2 _ _ _ HX5.out
        have y1 := cell_of_row _ _ 1 _ _ _ HS5.out.box
        simp only [List.getElem?_toArray, List.getElem?_cons_zero, List.getElem?_cons_succ] at x0 x1 x2 y1
        have hcl := HS5.out.out.cellAt k (by omega)
        rw [List.getElem?_map, HVC.out] at hcl
        simp only [Option.map_some] at hcl
        clear c1 c2 c3 hW hX
        by_cases h1 : p1 < 1
        · have t1 : decide (1 ≤ p1) = false := decide_eq_false (by omega)
          obtain rfl : dv = false := by rw [HDV.out, t1]; rfl
          rw [if_neg (by simp)] at hcl
          clear h1
          go_wp2
          go_roundw
          case rel => exact ⟨k + 1, by omega, by go_num, HS5.out⟩
          case measure => simp [intOf]; omega
        · have t1 : decide (1 ≤ p1) = true := decide_eq_true (by omega)
          obtain ⟨r, hr⟩ : ∃ r : Int, (fn : Int) % p1 = r := ⟨_, rfl⟩
          have ht : Int.tmod (fn : Int) p1 = r := by rw [← hr]; exact Int.tmod_eq_emod_of_nonneg (by omega)
          have hp1 : ¬ p1 = 0 := by omega
          have hr0 : 0 ≤ r := by rw [← hr]; exact Int.emod_nonneg _ (by omega)
          have hr1 : r ≤ fn := by
            obtain ⟨pn, rfl⟩ : ∃ m : Nat, p1 = (m : Int) := ⟨p1.toNat, by omega⟩
            rw [← hr, ← Int.natCast_emod]
            have := Nat.mod_le fn pn
            omega
          have hrw : IntKind.i64.wrap r = r := IntWalk.i64_in _ (by have := HF.out; omega)
          have HDR : Hid (dv = (r == 0)) := by show _ = _; rw [HDV.out, hr, t1]; rfl
          clear h1 hr hr0 hr1
          by_cases hrz : r = 0
          · subst hrz
            obtain rfl : dv = true := by rw [HDR.out]; rfl
            rw [if_pos rfl] at hcl
            have HLS2 := Lib.hid (HLS.out rfl)
            have HPD := Lib.hid (HS5.out.drewN 1)
            go_wp2_with fail
            go_region_held3 (fun wx => wx.cell? ⟨X, 0, none⟩ = some (.int .i64 s1) ∧ wx.cell? ⟨X, 1, none⟩ = some (.int .i64 p1) ∧ wx.cell? ⟨X, 2, none⟩ = some (.int .i64 b1))
              (first | (refine ⟨?_, ?_, ?_⟩ <;> assumption) | exact ⟨x0, x1, x2⟩ | (go_keep; done))
              (first
                | (go_at_call 13; refine (HLS2.out _ _ HPD.out).mono ?_; rintro e w7 ⟨rfl, rfl⟩))
            all_goals
              go_wp2
              go_roundw
              case rel => exact ⟨k + 1, by omega, by go_num, HPD.out⟩
              case measure => simp [intOf]; omega
          · have hrb : (r != 0) = true := by simp [hrz]
            have hrb2 : (r == 0) = false := by simp [hrz]
            obtain rfl : dv = false := by rw [HDR.out, hrb2]
            rw [if_neg (by simp)] at hcl
            go_wp2
            go_roundw
            case rel => exact ⟨k + 1, by omega, by go_num, HS5.out⟩
            case measure => simp [intOf]; omega
      · obtain rfl : k = nn := by omega
        have HBE := Lib.hid HSL.out.below
        clear HSL
        go_wp2_with (go_at_call 6; refine (awake14 _).mono ?_; rintro e w' ⟨rfl, hb⟩; have HB2 := Lib.hid (HBE.out.trans (hb.mono HBE.out.size)); clear hb)
        go_ret
        exact ⟨rfl, HB2.out⟩

end Go.Proofs.Yteefmdelacihfaa.needShares
