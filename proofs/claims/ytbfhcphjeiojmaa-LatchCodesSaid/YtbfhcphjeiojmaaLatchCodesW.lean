
/- The function LatchCodes returns true for every module and every three numbers. Condition: none. This text: the walk through the Go text; the row is in the text without the W at its name's end. -/

import Derived.Test.YtbfhcphjeiojmaaArgs

import Derived.Test.YtbfhcphjeiojmaaLatF

import Derived.Deep.RegionHeld3

namespace Go.Proofs.Ytbfhcphjeiojmaa.latchCodes

open Go.RowKit Go.PlainAid Go.Proofs.Ytbfhcphjeiojmaa.Args

set_option linter.unusedVariables false

open Go.Proofs.Ytbfhcphjeiojmaa.Lat Go.Proofs.Ytbfhcphjeiojmaa.Cel Go.Proofs.Ytbfhcphjeiojmaa.Mpv

set_option linter.unusedSimpArgs false

def LcRel (n b : Nat) (cs : Array Value) (ps : List LP) (caller : Int) (w : World) (M i : Value) (W : World) : Prop :=
  ∃ (k : Nat), k ≤ n ∧ i = .int .i64 (k : Int) ∧ M = .bool (mayB (ps.take k) caller) ∧ Below w.heap.size w W
set_option maxRecDepth 8000 in
set_option maxHeartbeats 6400000 in
theorem walk (a0 : Array Value) (a1 : Int) (a2 : Int) (a3 : Int) (w : World) (w0 : IsMod w modK a0) (w1 : (Lit.int .i64 a1).wf = true) (w2 : (Lit.int .i64 a2).wf = true) (w3 : (Lit.int .i64 a3).wf = true) :
    Calls Try.prog 3 #[.agg a0, .int .i64 a1, .int .i64 a2, .int .i64 a3] w fun e w' => e = .returned (.bool true) ∧ Below w.heap.size w w' := by
  obtain ⟨e, f, PA, SA, QA, AA, np, pc, ns, sc, nq, qc, na, acp, ps, ss, qs, rfl, hm, hna, hf⟩ := mod_in w0
  have HI1 : Hid (I64 a1) := bounds_i64 w1
  have HI2 : Hid (I64 a2) := bounds_i64 w2
  have HI3 : Hid (I64 a3) := bounds_i64 w3
  obtain ⟨cs, hcs⟩ : ∃ cs : Array Value, #[Value.int .u64 e, .int .i64 f, .slice PA np pc, .slice SA ns sc, .slice QA nq qc, .slice AA na acp] = cs := ⟨_, rfl⟩
  have hb0 : Below w.heap.size w (w.alloc (.cells cs 28)) := (Below.refl _ _).alloc (Nat.le_refl _) _
  have hx0 := heap_alloc_new w (.cells cs 28)
  have HM := Lib.hid hm
  obtain ⟨W1, hW1⟩ : ∃ W, w.alloc (.cells cs 28) = W := ⟨_, rfl⟩
  rw [hW1] at hx0 hb0
  rw [← hcs] at hW1 hx0
  have HX := Lib.hid hx0
  have HB := Lib.hid hb0
  have HLG := Lib.hid (long_any (pc := pc) (sc := sc) (qc := qc) (AA := AA) (na := na) (acp := acp) (e := e) (f := f) (hm.kept hb0))
  have HW1 := Lib.hid hW1
  clear hm hb0 hW1 w0 w1 w2 w3 hna hf hcs
  go_enter Try.func3, Try.ntmps3
  go_upto_region 1 with fail
  rw [HW1.out]
  go_wp2_with ((with_reducible show wpList _ _ _ _ _ _); refine wpList_load_row rfl 28 (.tmp 4) rfl w.heap.size rfl 28 _ (0, 0) _ hx0 Try.underlying28 rfl size_mod ?_)
  refine HLG.out.mono ?_
  rintro e w2 ⟨bl, rfl, hbl, hb2⟩
  have HB2 := Lib.hid (HB.out.trans (hb2.mono HB.out.size))
  have hx2 := (hb2.block _ (lt_of_block HX.out)).trans HX.out
  have HX2 := Lib.hid hx2
  clear hb2 hx0 HLG
  cases bl with
  | true =>
    clear hbl hx2
    go_wp2_with (go_at_call 7; refine (awake_any _).mono ?_; rintro e w3 ⟨rfl, hb3⟩; have HB3 := Lib.hid (HB2.out.trans (hb3.mono HB2.out.size)); clear hb3)
    go_ret
    exact ⟨rfl, HB3.out⟩
  | false =>
    obtain ⟨hp, hs, hq⟩ := hbl rfl
    have HP : Hid (np ≤ 40) := hp
    have HS : Hid (ns ≤ 20) := hs
    have HQ : Hid (nq ≤ 250) := hq
    have HOF := Lib.hid (of_any (pc := pc) (sc := sc) (qc := qc) (AA := AA) (na := na) (acp := acp) (e := e) (f := f) (HM.out.kept HB2.out) hp hs hq)
    have HRC := Lib.hid (fun (W : World) (b : Below w.heap.size w W) => rcode_any (pc := pc) (sc := sc) (qc := qc) (AA := AA) (na := na) (acp := acp) (e := e) (f := f) (HM.out.kept b) hp hs hq a1 a2 a3)
    have HSC := Lib.hid (fun (W : World) (b : Below w.heap.size w W) => rscheds_any (pc := pc) (sc := sc) (qc := qc) (AA := AA) (na := na) (acp := acp) (e := e) (f := f) (HM.out.kept b) (by omega))
    clear hbl hp hs hq
    go_wp2_with ((with_reducible show wpList _ _ _ _ _ _); refine wpList_load_row rfl 28 (.tmp 4) rfl w.heap.size rfl 28 _ (0, 0) _ hx2 Try.underlying28 rfl size_mod ?_)
    refine HOF.out.mono ?_
    rintro e w3 ⟨g, ra, rb, rc, rfl, hir, hb3⟩
    have HB3 := Lib.hid (HB2.out.trans (hb3.mono HB2.out.size))
    have HIR := Lib.hid hir.at
    have HX3 := Lib.hid ((hb3.block _ (lt_of_block HX2.out)).trans HX2.out)
    have x2 := cell_of_row _ _ 2 _ _ _ HX3.out
    simp only [List.getElem?_toArray, List.getElem?_cons_zero, List.getElem?_cons_succ] at x2
    have HS0 : Hid (LcRel np w.heap.size cs ps a1 w3 (.bool false) (.int .i64 0) w3) := ⟨0, Nat.zero_le _, rfl, rfl, Below.refl _ _⟩
    clear hir hb3 hx2 HOF
    go_wp2_with fail
    go_loopw [10, 23] (fun M i W => LcRel np w.heap.size cs ps a1 w3 M i W) (fun _ i _ => np - (intOf i).toNat)
    case atStart => exact HS0.out
    case round =>
      rename World => W
      obtain ⟨k, hk, rfl, rfl, hb⟩ := hrel
      have HBW := Lib.hid hb
      clear hb HS0 x2
      by_cases hlt : k < np
      · obtain ⟨x, hx⟩ : ∃ x, ps[k]? = some x := ⟨_, List.getElem?_eq_getElem (by rw [HM.out.pl]; exact hlt)⟩
        obtain ⟨y, rfl, e1, e2, e3, e4⟩ := (HM.out.kept (HB3.out.trans (HBW.out.mono HB3.out.size))).p k x hx
        have HST := Lib.hid (mayB_step hx a1)
        have HLT := Lib.hid hlt
        have hki : (0 : Int) ≤ k := by omega
        have hkb : (k : Int) < np := by omega
        have HK1 : Hid (IntKind.i64.wrap ((k : Int) + 1) = (k : Int) + 1) := IntWalk.i64_in _ (by have := HP.out; omega)
        obtain ⟨ex, nm, may, BB, bn, bc⟩ := x
        dsimp only at e1 e2 e3 e4 HST
        have hb4 : Below W.heap.size W (W.alloc (.cells #[.int .i64 ex, .string nm, .bool may, .slice BB bn bc] 35)) := (Below.refl _ _).alloc (Nat.le_refl _) _
        have hx4 := heap_alloc_new W (.cells #[.int .i64 ex, .string nm, .bool may, .slice BB bn bc] 35)
        clear hlt hk hx
        go_upto_region 10 with fail
        obtain ⟨W2, hW2⟩ : ∃ W2, W.alloc (.cells #[.int .i64 ex, .string nm, .bool may, .slice BB bn bc] 35) = W2 := ⟨_, rfl⟩
        obtain ⟨Q, hQ⟩ : ∃ Q, W.heap.size = Q := ⟨_, rfl⟩
        rw [hW2, hQ] at hx4
        rw [hW2] at hb4
        rw [hW2, hQ]
        have d0 := cell_of_row _ _ 0 _ _ _ hx4
        have d2 := cell_of_row _ _ 2 _ _ _ hx4
        simp only [List.getElem?_toArray, List.getElem?_cons_zero, List.getElem?_cons_succ] at d0 d2
        have HB4 := Lib.hid (HBW.out.trans (hb4.mono HBW.out.size))
        obtain ⟨z1, hz1⟩ : ∃ z, (ex == a1) = z := ⟨_, rfl⟩
        rw [hz1] at HST
        obtain ⟨mk, hmk⟩ : ∃ z, mayB (ps.take k) a1 = z := ⟨_, rfl⟩
        rw [hmk] at HST ⊢
        have hk1 := HK1.out
        clear hb4 hx4 hW2 hQ e1 e2 e3 e4 hmk
        cases mk <;> cases z1 <;> cases may
        all_goals
          go_wp2
          go_roundw
          case rel => exact ⟨k + 1, HLT.out, by go_num, by rw [HST.out]; rfl, HB4.out⟩
          case measure => have := HLT.out; simp [intOf]; omega
      · obtain rfl : np = k := by omega
        have hzm : mayB (ps.take np) a1 = mayB ps a1 := by rw [List.take_of_length_le (by rw [HM.out.pl]; exact Nat.le_refl _)]
        rw [hzm]
        have HIW := Lib.hid (fun (W' : World) (b : Below W.heap.size W W') => HIR.out.keep (HBW.out.trans (b.mono HBW.out.size)))
        have HBA : Hid (∀ (W' : World), Below W.heap.size W W' → Below w.heap.size w W') := fun W' b => (HB3.out.trans (HBW.out.mono HB3.out.size)).trans (b.mono (Nat.le_trans HB3.out.size HBW.out.size))
        have HSS : Hid (∀ wx : World, Below W.heap.size W wx → wx.cell? ⟨w.heap.size, 0, none⟩ = some (.int .u64 e) ∧ wx.cell? ⟨w.heap.size, 1, none⟩ = some (.int .i64 f) ∧ wx.cell? ⟨w.heap.size, 2, none⟩ = some (.slice PA np pc) ∧ wx.cell? ⟨w.heap.size, 3, none⟩ = some (.slice SA ns sc) ∧ wx.cell? ⟨w.heap.size, 4, none⟩ = some (.slice QA nq qc) ∧ wx.cell? ⟨w.heap.size, 5, none⟩ = some (.slice AA na acp)) := fun wx b => by
          have h1 := (HBW.out.block _ (lt_of_block HX3.out)).trans HX3.out
          have h2 := (b.block _ (lt_of_block h1)).trans h1
          refine ⟨?_, ?_, ?_, ?_, ?_, ?_⟩ <;> rw [cell_of_row wx _ _ _ _ _ h2] <;> rfl
        have HD0 : Hid (Below W.heap.size W W.drew) := ⟨rfl, rfl, rfl, Nat.le_refl _, fun _ _ => rfl⟩
        have HK0 := Lib.hid (HSS.out _ HD0.out)
        obtain ⟨z0, z1, z2, z3, z4, z5⟩ := HK0.out
        obtain ⟨cv, hcv⟩ : ∃ cv, codeR (inB (idsS ss)) (hasB qs) (mayB ps) a1 a2 a3 = cv := ⟨_, rfl⟩
        obtain ⟨sv, hsv⟩ : ∃ sv, inB (idsS ss) a3 = sv := ⟨_, rfl⟩
        obtain ⟨uv, huv⟩ : ∃ uv, mayB ps a1 = uv := ⟨_, rfl⟩
        have HCO := Lib.hid (fun (W' : World) (b : Below W.heap.size W W') => code_any (HIW.out W' b) a1 a2 a3 HI1.out HI2.out HI3.out)
        have HSD := Lib.hid (fun (W' : World) (b : Below W.heap.size W W') => schedule_any (HIW.out W' b) a3 HI3.out)
        have HMY := Lib.hid (fun (W' : World) (b : Below W.heap.size W W') => may_any (HIW.out W' b) a1 HI1.out)
        rw [hcv] at HCO HRC
        rw [hsv] at HSD
        rw [huv] at HMY ⊢
        have HSV := Lib.hid hsv
        have tc : (cv == cv) = true := by simp
        have ts : (sv == sv) = true := by simp
        have tu : (uv == uv) = true := by simp
        clear hlt hk hzm hcv hsv huv
        go_wp2_with fail
        go_region_held3 (fun wx => wx.cell? ⟨w.heap.size, 0, none⟩ = some (.int .u64 e) ∧ wx.cell? ⟨w.heap.size, 1, none⟩ = some (.int .i64 f) ∧ wx.cell? ⟨w.heap.size, 2, none⟩ = some (.slice PA np pc) ∧ wx.cell? ⟨w.heap.size, 3, none⟩ = some (.slice SA ns sc) ∧ wx.cell? ⟨w.heap.size, 4, none⟩ = some (.slice QA nq qc) ∧ wx.cell? ⟨w.heap.size, 5, none⟩ = some (.slice AA na acp))
          (first | exact HK7.out | exact HK5.out | exact HK4.out | exact HK2.out | exact HK1.out | exact HK0.out | (refine ⟨?_, ?_, ?_, ?_, ?_, ?_⟩ <;> assumption) | (go_keep; done))
          (first
            | (go_at_call 9; refine (HCO.out _ HD0.out).mono ?_; rintro e W1 ⟨rfl, hb1⟩; have HB1 := Lib.hid (HD0.out.trans (hb1.mono HD0.out.size)); have HK1 := Lib.hid (HSS.out W1 HB1.out); clear hb1)
            | (go_at_call 10; refine (HRC.out W1 (HBA.out _ HB1.out)).mono ?_; rintro e W2 ⟨rfl, hb2⟩; have HB2' := Lib.hid (HB1.out.trans (hb2.mono HB1.out.size)); have HK2 := Lib.hid (HSS.out W2 HB2'.out); clear hb2)
            | (go_at_call 11; refine (HSD.out W2 HB2'.out).mono ?_; rintro e W3 ⟨rfl, rfl⟩)
            | (go_at_call 13; refine (HSC.out W2 (HBA.out _ HB2'.out)).mono ?_; rintro e W4 ⟨V, rfl, ho, hb4⟩; obtain ⟨IA, ic, rfl⟩ := own_slice ho; rw [HM.out.sl] at ho ⊢; rw [ids_map] at ho; have HB4 := Lib.hid (HB2'.out.trans (hb4.mono HB2'.out.size)); have HK4 := Lib.hid (HSS.out W4 HB4.out); have HIN := Lib.hid (rin15_any IA ic ns (idsS ss) a3 W4 (zat_own ho) (by unfold idsS; rw [List.length_map]; exact HM.out.sl) (by have := HS.out; omega)); rw [HSV.out] at HIN; clear hb4 ho)
            | (go_at_call 12; refine HIN.out.mono ?_; rintro e W5 ⟨rfl, hb5⟩; have HB5 := Lib.hid (HB4.out.trans (hb5.mono HB4.out.size)); have HK5 := Lib.hid (HSS.out W5 HB5.out); clear hb5)
            | (go_at_call 14; refine (HMY.out W5 HB5.out).mono ?_; rintro e W6 ⟨rfl, rfl⟩)
            | (go_at_call 7; refine (awake_any W5).mono ?_; rintro e W7 ⟨rfl, hb7⟩; have HB7 := Lib.hid (HB5.out.trans (hb7.mono HB5.out.size)); have HK7 := Lib.hid (HSS.out W7 HB7.out); clear hb7))
        all_goals
          go_wp2
          go_ret
          exact ⟨rfl, HBA.out _ HB7.out⟩

end Go.Proofs.Ytbfhcphjeiojmaa.latchCodes
