
/- The function LatchPlays returns true for every module and every slice of calls. Condition: none. This text: the walk through the Go text; the row is in the text without the W at its name's end. -/

import Derived.Test.YtbfhcphjeiojmaaArgs

import Derived.Test.YtbfhcphjeiojmaaLatH

import Derived.Deep.RegionHeld3

namespace Go.Proofs.Ytbfhcphjeiojmaa.latchPlays

open Go.RowKit Go.PlainAid Go.Proofs.Ytbfhcphjeiojmaa.Args

set_option linter.unusedVariables false

open Go.Proofs.Ytbfhcphjeiojmaa.Lat Go.Proofs.Ytbfhcphjeiojmaa.Cel Go.Proofs.Ytbfhcphjeiojmaa.Mpv

set_option linter.unusedSimpArgs false

def LpRel (w : World) (M B q a b c X : Nat) (cs : Array Value) (s : Int → Bool) (t : P2 → Bool) (u : Int → Bool) (m : Nat) (i : Value) (W : World) : Prop :=
  ∃ (k : Nat) (la cu nx : Int), k ≤ m ∧ i = .int .i64 (k : Int) ∧ Rnd w M B q a b c X cs s t u la cu nx W
theorem size_st : (Try.prog.info? 50).map (·.size) = some 3 := by kernel_rfl
set_option maxRecDepth 8000 in
set_option maxHeartbeats 12800000 in
theorem walk (a0 : Array Value) (a1 : Option Addr) (len1 cap1 : Nat) (w : World) (w0 : IsMod w modK a0) (w1 : IsRecs w a1 len1 cap1 [.bool, .int .i64, .int .i64, .int .u64]) :
    Calls Try.prog 4 #[.agg a0, .slice a1 len1 cap1] w fun e w' => e = .returned (.bool true) ∧ Below w.heap.size w w' := by
  obtain ⟨e, f, PA, SA, QA, AA, np, pc, ns, sc, nq, qc, na, acp, ps, ss, qs, rfl, hm, hna, hf⟩ := mod_in w0
  obtain ⟨ol, hol, hops, hoc⟩ := ops4_in w1
  have HF : Hid (I64 f) := hf
  have HOL := Lib.hid hol
  have HOPS := Lib.hid hops
  obtain ⟨cs, hcs⟩ : ∃ cs : Array Value, #[Value.int .u64 e, .int .i64 f, .slice PA np pc, .slice SA ns sc, .slice QA nq qc, .slice AA na acp] = cs := ⟨_, rfl⟩
  have hb0 : Below w.heap.size w (w.alloc (.cells cs 28)) := (Below.refl _ _).alloc (Nat.le_refl _) _
  have hx0 := heap_alloc_new w (.cells cs 28)
  have HM := Lib.hid hm
  have hs1 : (w.alloc (.cells cs 28)).heap.size = w.heap.size + 1 := by simp
  obtain ⟨W1, hW1⟩ : ∃ W, w.alloc (.cells cs 28) = W := ⟨_, rfl⟩
  rw [hW1] at hx0 hb0 hs1
  have HX := Lib.hid hx0
  have HSZ := Lib.hid hs1
  have HCS := Lib.hid hcs
  rw [← hcs] at hW1 hx0
  have HB := Lib.hid hb0
  have HLG := Lib.hid (long_any (pc := pc) (sc := sc) (qc := qc) (AA := AA) (na := na) (acp := acp) (e := e) (f := f) (hm.kept hb0))
  have HW1 := Lib.hid hW1
  clear hm hb0 hW1 w0 w1 hna hf hcs hol hops hoc hs1
  by_cases hlen : 100 < len1
  · have t1 : decide (100 < (len1 : Int)) = true := decide_eq_true (by omega)
    clear hlen
    go_enter Try.func4, Try.ntmps4
    go_upto_region 1 with fail
    rw [HW1.out]
    go_wp2_with ((with_reducible show wpList _ _ _ _ _ _); refine wpList_load_row rfl 28 (.tmp 2) rfl w.heap.size rfl 28 _ (0, 0) _ hx0 Try.underlying28 rfl size_mod ?_)
    refine HLG.out.mono ?_
    rintro e w2 ⟨bl, rfl, -, hb2⟩
    have HB2 := Lib.hid (HB.out.trans (hb2.mono HB.out.size))
    clear hb2 hx0 HLG
    cases bl
    all_goals
      go_wp2_with (go_at_call 7; refine (awake_any _).mono ?_; rintro e w3 ⟨rfl, hb3⟩; have HB3 := Lib.hid (HB2.out.trans (hb3.mono HB2.out.size)); clear hb3)
      go_ret
      exact ⟨rfl, HB3.out⟩
  have t1 : decide (100 < (len1 : Int)) = false := decide_eq_false (by omega)
  have HL1 : Hid (len1 ≤ 100) := by show _ ≤ _; omega
  clear hlen
  go_enter Try.func4, Try.ntmps4
  go_upto_region 1 with fail
  rw [HW1.out]
  go_wp2_with ((with_reducible show wpList _ _ _ _ _ _); refine wpList_load_row rfl 28 (.tmp 2) rfl w.heap.size rfl 28 _ (0, 0) _ hx0 Try.underlying28 rfl size_mod ?_)
  refine HLG.out.mono ?_
  rintro e w2 ⟨bl, rfl, hbl, hb2⟩
  have HB2 := Lib.hid (HB.out.trans (hb2.mono HB.out.size))
  have hx2 := (hb2.block _ (lt_of_block HX.out)).trans HX.out
  have HX2 := Lib.hid hx2
  have HS2 : Hid (w.heap.size + 1 ≤ w2.heap.size) := by show _ ≤ _; have h1 := HSZ.out; have h2 := hb2.size; omega
  rw [← HCS.out] at hx2
  clear hb2 hx0 HLG
  cases bl with
  | true =>
    clear hbl hx2
    go_wp2_with (go_at_call 7; refine (awake_any _).mono ?_; rintro e w3 ⟨rfl, hb3⟩; have HB3 := Lib.hid (HB2.out.trans (hb3.mono HB2.out.size)); clear hb3)
    go_ret
    exact ⟨rfl, HB3.out⟩
  | false =>
    obtain ⟨hp, hs, hq⟩ := hbl rfl
    have HS : Hid (ns ≤ 20) := hs
    have HOF := Lib.hid (of_any (pc := pc) (sc := sc) (qc := qc) (AA := AA) (na := na) (acp := acp) (e := e) (f := f) (HM.out.kept HB2.out) hp hs hq)
    have HRC := Lib.hid (fun (W : World) (b : Below w.heap.size w W) (a1 a2 a3 : Int) => rcode_any (pc := pc) (sc := sc) (qc := qc) (AA := AA) (na := na) (acp := acp) (e := e) (f := f) (HM.out.kept b) hp hs hq a1 a2 a3)
    have HSC := Lib.hid (fun (W : World) (b : Below w.heap.size w W) => rscheds_any (pc := pc) (sc := sc) (qc := qc) (AA := AA) (na := na) (acp := acp) (e := e) (f := f) (HM.out.kept b) (by omega))
    have HHA := Lib.hid (fun (W : World) (b : Below w.heap.size w W) (p : P2) => has10_any QA qc nq qs p W (HM.out.kept b).q HM.out.ql (by omega))
    clear hbl hp hs hq
    go_wp2_with ((with_reducible show wpList _ _ _ _ _ _); refine wpList_load_row rfl 28 (.tmp 2) rfl w.heap.size rfl 28 _ (0, 0) _ hx2 Try.underlying28 rfl size_mod ?_)
    refine HOF.out.mono ?_
    rintro e w3 ⟨g, ra, rb, rc, rfl, hir, hb3⟩
    have HB3 := Lib.hid (HB2.out.trans (hb3.mono HB2.out.size))
    have HIR := Lib.hid hir
    have HX3 := Lib.hid ((hb3.block _ (lt_of_block HX2.out)).trans HX2.out)
    have x1 := cell_of_row _ _ 1 _ _ _ HX3.out
    rw [← HCS.out] at x1
    simp only [List.getElem?_toArray, List.getElem?_cons_zero, List.getElem?_cons_succ] at x1
    have HS3 : Hid (w.heap.size + 1 ≤ w3.heap.size) := Nat.le_trans HS2.out hb3.size
    obtain ⟨s, hs⟩ : ∃ s, inB (idsS ss) = s := ⟨_, rfl⟩
    obtain ⟨t, ht⟩ : ∃ t, hasB qs = t := ⟨_, rfl⟩
    obtain ⟨u, hu⟩ : ∃ u, mayB ps = u := ⟨_, rfl⟩
    rw [hs, ht, hu] at HIR
    rw [hs, ht, hu] at HRC
    rw [ht] at HHA
    have HSV := Lib.hid hs
    have HLN := Lib.hid (lnew_any HIR.out f HF.out)
    clear hir hb3 hx2 HOF hs ht hu
    go_wp2_with fail
    refine HLN.out.mono ?_
    rintro e w4 hor
    rcases hor with ⟨hsf, q, rfl, hil, hb4⟩ | ⟨hsf, rfl, hb4⟩
    · have HIL := Lib.hid hil
      have HX4 := Lib.hid ((hb4.block _ (lt_of_block HX3.out)).trans HX3.out)
      have HB4 := Lib.hid (HB3.out.trans (hb4.mono HB3.out.size))
      have HSS : Hid (∀ wx : World, Below w4.heap.size w4 wx → wx.cell? ⟨w.heap.size, 0, none⟩ = some (.int .u64 e) ∧ wx.cell? ⟨w.heap.size, 1, none⟩ = some (.int .i64 f) ∧ wx.cell? ⟨w.heap.size, 2, none⟩ = some (.slice PA np pc) ∧ wx.cell? ⟨w.heap.size, 3, none⟩ = some (.slice SA ns sc) ∧ wx.cell? ⟨w.heap.size, 4, none⟩ = some (.slice QA nq qc) ∧ wx.cell? ⟨w.heap.size, 5, none⟩ = some (.slice AA na acp)) := fun wx b => by
        have h2 := (b.block _ (lt_of_block HX4.out)).trans HX4.out
        rw [← HCS.out] at h2
        refine ⟨?_, ?_, ?_, ?_, ?_, ?_⟩ <;> rw [cell_of_row wx _ _ _ _ _ h2] <;> rfl
      have HD0 : Hid (Below w4.heap.size w4 w4.drew) := ⟨rfl, rfl, rfl, Nat.le_refl _, fun _ _ => rfl⟩
      have HK0 := Lib.hid (HSS.out _ HD0.out)
      obtain ⟨z0, z1, z2, z3, z4, z5⟩ := HK0.out
      clear hb4 x1
      go_upto_region 7 with fail
      go_region_held3 (fun wx => wx.cell? ⟨w.heap.size, 0, none⟩ = some (.int .u64 e) ∧ wx.cell? ⟨w.heap.size, 1, none⟩ = some (.int .i64 f) ∧ wx.cell? ⟨w.heap.size, 2, none⟩ = some (.slice PA np pc) ∧ wx.cell? ⟨w.heap.size, 3, none⟩ = some (.slice SA ns sc) ∧ wx.cell? ⟨w.heap.size, 4, none⟩ = some (.slice QA nq qc) ∧ wx.cell? ⟨w.heap.size, 5, none⟩ = some (.slice AA na acp))
        (first | exact HK6.out | exact HK5.out | exact HK0.out | (refine ⟨?_, ?_, ?_, ?_, ?_, ?_⟩ <;> assumption) | (go_keep; done))
        (first
          | (go_at_call 13; refine (HSC.out w4.drew (HB4.out.trans (HD0.out.mono HB4.out.size))).mono ?_; rintro e W5 ⟨V, rfl, ho, hb5⟩; obtain ⟨IA, ic, rfl⟩ := own_slice ho; rw [HM.out.sl] at ho ⊢; rw [ids_map] at ho; have HB5 := Lib.hid (HD0.out.trans (hb5.mono HD0.out.size)); have HK5 := Lib.hid (HSS.out W5 HB5.out); have HIN := Lib.hid (rin15_any IA ic ns (idsS ss) f W5 (zat_own ho) (by unfold idsS; rw [List.length_map]; exact HM.out.sl) (by have := HS.out; omega)); rw [HSV.out, hsf] at HIN; clear hb5 ho)
          | (go_at_call 12; refine HIN.out.mono ?_; rintro e W6 ⟨rfl, hb6⟩; have HB6 := Lib.hid (HB5.out.trans (hb6.mono HB5.out.size)); have HK6 := Lib.hid (HSS.out W6 HB6.out); clear hb6))
      all_goals
        have hb7 : Below W6.heap.size W6 (W6.alloc (.cells #[.int .u64 0, .int .i64 f, .int .i64 f] 50)) := (Below.refl _ _).alloc (Nat.le_refl _) _
        have hl6 := HIL.out.keep HB6.out
        have HS0 : Hid (LpRel w w.heap.size w3.heap.size q ra rb rc W6.heap.size cs s t u len1 (.int .i64 0) (W6.alloc (.cells #[.int .u64 0, .int .i64 f, .int .i64 f] 50))) :=
          ⟨0, 0, f, f, Nat.zero_le _, rfl, (hb7.block _ (Nat.lt_of_lt_of_le (lt_of_block HX4.out) HB6.out.size)).trans ((HB6.out.block _ (lt_of_block HX4.out)).trans HX4.out), hl6.keep hb7, heap_alloc_new W6 _, HF.out, HF.out, .inl rfl, by have h1 := HIL.out.qB; have h2 := HS3.out; omega, hl6.ms.blk, hl6.mt.blk, hl6.mu.blk, lt_of_block hl6.box, Nat.le_refl _, (HB4.out.trans (HB6.out.mono HB4.out.size)).trans (hb7.mono (Nat.le_trans HB4.out.size HB6.out.size))⟩
        obtain ⟨k0, k1, k2, k3, k4, k5⟩ := HK6.out
        obtain ⟨X, hX⟩ : ∃ X, W6.heap.size = X := ⟨_, rfl⟩
        have HXX := Lib.hid hX
        rw [hX] at HS0
        clear hl6 hb7 hX
        go_upto_region 12 with fail
        rw [HXX.out]
        go_wp2_with fail
        go_loopw [61] (fun i W => LpRel w w.heap.size w3.heap.size q ra rb rc X cs s t u len1 i W) (fun i _ => len1 - (intOf i).toNat)
        case atStart => exact HS0.out
        case round =>
          rename World => W
          obtain ⟨k, la, cu, nx, hk, rfl, hr⟩ := hrel
          have HR := Lib.hid hr
          clear hr HS0 k0 k1 k2 k3 k4 k5 z0 z1 z2 z3 z4 z5
          by_cases hlt : k < len1
          · skip
            obtain ⟨x, hx⟩ : ∃ x, ol[k]? = some x := ⟨_, List.getElem?_eq_getElem (by rw [HOL.out]; exact hlt)⟩
            obtain ⟨hxc, hxi, y, rfl, e1, e2, e3, e4⟩ := (HOPS.out.kept HR.out.bel) k x hx
            have HXC := Lib.hid hxc
            have HXI := Lib.hid hxi
            have HLT := Lib.hid hlt
            have hki : (0 : Int) ≤ k := by omega
            have hkb : (k : Int) < len1 := by omega
            have HK1 : Hid (IntKind.i64.wrap ((k : Int) + 1) = (k : Int) + 1) := IntWalk.i64_in _ (by have := HL1.out; omega)
            obtain ⟨xb, xc, xi, xn⟩ := x
            dsimp only at e1 e2 e3 e4 HXC HXI
            have hb5 : Below W.heap.size W (W.alloc (.cells #[.bool xb, .int .i64 xc, .int .i64 xi, .int .u64 xn] 52)) := (Below.refl _ _).alloc (Nat.le_refl _) _
            have hx5 := heap_alloc_new W (.cells #[.bool xb, .int .i64 xc, .int .i64 xi, .int .u64 xn] 52)
            clear hlt hk hx hxc hxi
            go_upto_region 15 with fail
            obtain ⟨W2, hW2⟩ : ∃ W2, W.alloc (.cells #[.bool xb, .int .i64 xc, .int .i64 xi, .int .u64 xn] 52) = W2 := ⟨_, rfl⟩
            obtain ⟨Q, hQ⟩ : ∃ Q, W.heap.size = Q := ⟨_, rfl⟩
            have HQX : Hid (Q ≠ X ∧ Q ≠ q) := ⟨by have := lt_of_block HR.out.st; omega, by have := lt_of_block HR.out.lt.box; omega⟩
            rw [hW2, hQ] at hx5
            rw [hW2] at hb5
            rw [hW2, hQ]
            have HR2 := Lib.hid (HR.out.keep hb5)
            have HXQ := Lib.hid hx5
            clear hb5 hW2 hQ e1 e2 e3 e4 HR
            have d0 := cell_of_row _ _ 0 _ _ _ hx5
            have d1 := cell_of_row _ _ 1 _ _ _ hx5
            have d2 := cell_of_row _ _ 2 _ _ _ hx5
            have d3 := cell_of_row _ _ 3 _ _ _ hx5
            simp only [List.getElem?_toArray, List.getElem?_cons_zero, List.getElem?_cons_succ] at d0 d1 d2 d3
            clear hx5
            obtain ⟨s0, s1, s2⟩ := HR2.out.cells
            cases xb with
            | false =>
              have m := HR2.out.mb
              rw [← HCS.out] at m
              have m0 := cell_of_row _ _ 0 _ _ _ m
              have m1 := cell_of_row _ _ 1 _ _ _ m
              have m2 := cell_of_row _ _ 2 _ _ _ m
              have m3 := cell_of_row _ _ 3 _ _ _ m
              have m4 := cell_of_row _ _ 4 _ _ _ m
              have m5 := cell_of_row _ _ 5 _ _ _ m
              simp only [List.getElem?_toArray, List.getElem?_cons_zero, List.getElem?_cons_succ] at m0 m1 m2 m3 m4 m5
              have HRK := Lib.hid (HRC.out W2 HR2.out.bel xc cu xi)
              clear m
              go_wp2_with fail
              refine HRK.out.mono ?_
              rintro e W3 ⟨rfl, hb3⟩
              have HR3 := Lib.hid (HR2.out.keep hb3)
              have HXQ3 := Lib.hid ((hb3.block _ (lt_of_block HXQ.out)).trans HXQ.out)
              have p1 := cell_of_row _ _ 1 _ _ _ HXQ3.out
              have p2 := cell_of_row _ _ 2 _ _ _ HXQ3.out
              simp only [List.getElem?_toArray, List.getElem?_cons_zero, List.getElem?_cons_succ] at p1 p2
              have HAS := Lib.hid (lask_any HR3.out.lt xc xi HXC.out HR3.out.ic HXI.out)
              obtain ⟨kv, hkv⟩ : ∃ kv, codeR s t u xc cu xi = kv := ⟨_, rfl⟩
              rw [hkv] at HAS ⊢
              have HKV := Lib.hid hkv
              have tk : (kv != kv) = false := by simp
              clear hb3 m0 m1 m2 m3 m4 m5 d0 d1 d2 d3 s0 s1 s2 HRK hkv HR2 HXQ
              go_wp2_with fail
              refine HAS.out.mono ?_
              rintro e W4 ⟨rfl, hl4, hj4⟩
              have HL4 := Lib.hid hl4
              have HJ4 := Lib.hid hj4
              obtain ⟨hm4, hs4, hbw4⟩ := HR3.out.moved hl4 hj4
              have hq4 := (hj4.2.2.2.2 Q (lt_of_block HXQ3.out) HQX.out.2).trans HXQ3.out
              have p2 := cell_of_row _ _ 2 _ _ _ hq4
              have g2 := cell_of_row _ _ 2 _ _ _ hs4
              simp only [List.getElem?_toArray, List.getElem?_cons_zero, List.getElem?_cons_succ] at p2 g2
              have f2 : W4.frozen? ⟨X, 2, none⟩ = false := by simp [World.frozen?, hs4]
              by_cases hk0 : kv = 0
              · have t0 : (kv == 0) = true := by simp [hk0]
                have h4 : codeR s t u xc cu xi = 0 := HKV.out.trans hk0
                have hlx := HL4.out
                rw [if_pos hk0] at hlx
                have hxr : (W4.setCell ⟨X, 2, none⟩ (.int .i64 xi)).heap[X]? = some (.cells #[.int .u64 la, .int .i64 cu, .int .i64 xi] 50 (0, 0)) := by
                  rw [setCell_eq_setRow W4 X 2 _ _ _ _ hs4, setRow_heap _ _ _ _ _ _ hs4]; rfl
                have HRN := Lib.hid (HR3.out.next hlx HJ4.out (JustL.cell W4 X 2 (.int .i64 xi)) hxr HR3.out.ic HXI.out (.inr (code_zero h4).1))
                clear hk0 h4 hlx hxr hl4 hj4 hm4 hs4 hbw4 hq4 HL4 HJ4 HR3 HXQ3 HAS
                go_wp2_with fail
                obtain ⟨WN, hWN⟩ : ∃ WN, W4.setCell ⟨X, 2, none⟩ (.int .i64 xi) = WN := ⟨_, rfl⟩
                rw [hWN] at HRN ⊢
                clear hWN
                clear p1 p2 g2 f2
                have HDN : Hid (Below WN.heap.size WN WN.drew) := ⟨rfl, rfl, rfl, Nat.le_refl _, fun _ _ => rfl⟩
                have HLS := Lib.hid (lstatus_any (HRN.out.keep HDN.out).lt)
                have HSN : Hid (∀ wx : World, Below WN.heap.size WN wx → wx.cell? ⟨X, 0, none⟩ = some (.int .u64 la) ∧ wx.cell? ⟨X, 1, none⟩ = some (.int .i64 cu) ∧ wx.cell? ⟨X, 2, none⟩ = some (.int .i64 xi)) := fun wx b => (HRN.out.keep b).cells
                have HKN := Lib.hid (HSN.out _ HDN.out)
                obtain ⟨y0, y1, y2⟩ := HKN.out
                have heq : ∀ wx : World, (Op.equalIn 10000 50 (.agg #[.int .u64 la, .int .i64 cu, .int .i64 xi]) (.agg #[.int .u64 la, .int .i64 cu, .int .i64 xi])).run Try.prog wx = .ok true wx := eq_stat la cu xi
                go_region_held3 (fun wx => wx.cell? ⟨X, 0, none⟩ = some (.int .u64 la) ∧ wx.cell? ⟨X, 1, none⟩ = some (.int .i64 cu) ∧ wx.cell? ⟨X, 2, none⟩ = some (.int .i64 xi))
                  (first | exact HKO.out | exact HKN.out | (refine ⟨?_, ?_, ?_⟩ <;> assumption) | (go_keep; done))
                  (first
                    | (go_at_call 19; refine HLS.out.mono ?_; rintro e WO ⟨rfl, hbO⟩; have HBO := Lib.hid (HDN.out.trans (hbO.mono HDN.out.size)); have HKO := Lib.hid (HSN.out WO HBO.out); clear hbO))
                all_goals
                  have hk1 := HK1.out
                  go_wp2
                  go_roundw
                  case rel => exact ⟨k + 1, la, cu, xi, HLT.out, by go_num, HRN.out.keep HBO.out⟩
                  case measure => have := HLT.out; simp [intOf]; omega
              · have t0 : (kv == 0) = false := by simp [hk0]
                have hlx := HL4.out
                rw [if_neg hk0] at hlx
                have HRN := Lib.hid (HR3.out.next hlx HJ4.out (JustL.refl X W4) hs4 HR3.out.ic HR3.out.ix HR3.out.way)
                clear hk0 hlx hl4 hj4 hm4 hs4 hbw4 hq4 HL4 HJ4 HR3 HXQ3 HAS
                go_wp2_with fail
                obtain ⟨WN, hWN⟩ : ∃ WN, W4 = WN := ⟨_, rfl⟩
                rw [hWN] at HRN ⊢
                clear hWN
                clear p1 p2 g2 f2
                have HDN : Hid (Below WN.heap.size WN WN.drew) := ⟨rfl, rfl, rfl, Nat.le_refl _, fun _ _ => rfl⟩
                have HLS := Lib.hid (lstatus_any (HRN.out.keep HDN.out).lt)
                have HSN : Hid (∀ wx : World, Below WN.heap.size WN wx → wx.cell? ⟨X, 0, none⟩ = some (.int .u64 la) ∧ wx.cell? ⟨X, 1, none⟩ = some (.int .i64 cu) ∧ wx.cell? ⟨X, 2, none⟩ = some (.int .i64 nx)) := fun wx b => (HRN.out.keep b).cells
                have HKN := Lib.hid (HSN.out _ HDN.out)
                obtain ⟨y0, y1, y2⟩ := HKN.out
                have heq : ∀ wx : World, (Op.equalIn 10000 50 (.agg #[.int .u64 la, .int .i64 cu, .int .i64 nx]) (.agg #[.int .u64 la, .int .i64 cu, .int .i64 nx])).run Try.prog wx = .ok true wx := eq_stat la cu nx
                go_region_held3 (fun wx => wx.cell? ⟨X, 0, none⟩ = some (.int .u64 la) ∧ wx.cell? ⟨X, 1, none⟩ = some (.int .i64 cu) ∧ wx.cell? ⟨X, 2, none⟩ = some (.int .i64 nx))
                  (first | exact HKO.out | exact HKN.out | (refine ⟨?_, ?_, ?_⟩ <;> assumption) | (go_keep; done))
                  (first
                    | (go_at_call 19; refine HLS.out.mono ?_; rintro e WO ⟨rfl, hbO⟩; have HBO := Lib.hid (HDN.out.trans (hbO.mono HDN.out.size)); have HKO := Lib.hid (HSN.out WO HBO.out); clear hbO))
                all_goals
                  have hk1 := HK1.out
                  go_wp2
                  go_roundw
                  case rel => exact ⟨k + 1, la, cu, nx, HLT.out, by go_num, HRN.out.keep HBO.out⟩
                  case measure => have := HLT.out; simp [intOf]; omega
            | true =>
              have HLB := Lib.hid (lbound_any HR2.out.lt xn)
              obtain ⟨z, hz⟩ : ∃ z, (nx != cu) = z := ⟨_, rfl⟩
              rw [hz] at HLB
              have HZ := Lib.hid hz
              clear hz
              cases z with
              | false =>
                have t0 : (nx != cu) = false := HZ.out
                go_wp2_with fail
                refine HLB.out.mono ?_
                rintro e W4 ⟨rfl, hl4, hj4⟩
                obtain ⟨hm4, hs4, hbw4⟩ := HR2.out.moved hl4 hj4
                have hlx := hl4
                simp only [Bool.false_eq_true, if_false] at hlx
                have HRN := Lib.hid (HR2.out.next hlx hj4 (JustL.refl X W4) hs4 HR2.out.ic HR2.out.ix HR2.out.way)
                clear hlx hl4 hj4 hm4 hs4 hbw4 HR2 HXQ HLB d0 d1 d2 d3 s0 s1 s2
                go_wp2_with fail
                obtain ⟨WN, hWN⟩ : ∃ WN, W4 = WN := ⟨_, rfl⟩
                rw [hWN] at HRN ⊢
                clear hWN
                skip
                have HDN : Hid (Below WN.heap.size WN WN.drew) := ⟨rfl, rfl, rfl, Nat.le_refl _, fun _ _ => rfl⟩
                have HLS := Lib.hid (lstatus_any (HRN.out.keep HDN.out).lt)
                have HSN : Hid (∀ wx : World, Below WN.heap.size WN wx → wx.cell? ⟨X, 0, none⟩ = some (.int .u64 la) ∧ wx.cell? ⟨X, 1, none⟩ = some (.int .i64 cu) ∧ wx.cell? ⟨X, 2, none⟩ = some (.int .i64 nx)) := fun wx b => (HRN.out.keep b).cells
                have HKN := Lib.hid (HSN.out _ HDN.out)
                obtain ⟨y0, y1, y2⟩ := HKN.out
                have heq : ∀ wx : World, (Op.equalIn 10000 50 (.agg #[.int .u64 la, .int .i64 cu, .int .i64 nx]) (.agg #[.int .u64 la, .int .i64 cu, .int .i64 nx])).run Try.prog wx = .ok true wx := eq_stat la cu nx
                go_region_held3 (fun wx => wx.cell? ⟨X, 0, none⟩ = some (.int .u64 la) ∧ wx.cell? ⟨X, 1, none⟩ = some (.int .i64 cu) ∧ wx.cell? ⟨X, 2, none⟩ = some (.int .i64 nx))
                  (first | exact HKO.out | exact HKN.out | (refine ⟨?_, ?_, ?_⟩ <;> assumption) | (go_keep; done))
                  (first
                    | (go_at_call 19; refine HLS.out.mono ?_; rintro e WO ⟨rfl, hbO⟩; have HBO := Lib.hid (HDN.out.trans (hbO.mono HDN.out.size)); have HKO := Lib.hid (HSN.out WO HBO.out); clear hbO))
                all_goals
                  have hk1 := HK1.out
                  go_wp2
                  go_roundw
                  case rel => exact ⟨k + 1, la, cu, nx, HLT.out, by go_num, HRN.out.keep HBO.out⟩
                  case measure => have := HLT.out; simp [intOf]; omega
              | true =>
                have t0 : (nx != cu) = true := HZ.out
                go_wp2_with fail
                refine HLB.out.mono ?_
                rintro e W4 ⟨rfl, hl4, hj4⟩
                have HL4 := Lib.hid hl4
                have HJ4 := Lib.hid hj4
                obtain ⟨hm4, hs4, hbw4⟩ := HR2.out.moved hl4 hj4
                have hq4 := (hj4.2.2.2.2 Q (lt_of_block HXQ.out) HQX.out.2).trans HXQ.out
                have m4 := cell_of_row _ _ 4 _ _ _ hm4
                rw [← HCS.out] at m4
                have g1 := cell_of_row _ _ 1 _ _ _ hs4
                have g2 := cell_of_row _ _ 2 _ _ _ hs4
                simp only [List.getElem?_toArray, List.getElem?_cons_zero, List.getElem?_cons_succ] at g1 g2 m4
                have HHB := Lib.hid (HHA.out W4 hbw4 ⟨cu, nx⟩)
                have hway : t ⟨cu, nx⟩ = true := by
                  rcases HR2.out.way with h | h
                  · have := HZ.out; rw [h] at this; simp at this
                  · exact h
                rw [hway] at HHB
                have HS4 := Lib.hid hs4
                have HQ4 := Lib.hid hq4
                clear hl4 hj4 hm4 hs4 hbw4 hq4 hway HXQ HLB d0 d1 d2 d3 s0 s1 s2
                go_wp2_with fail
                refine HHB.out.mono ?_
                rintro e W5 ⟨rfl, hb5⟩
                have hs5 := (hb5.block _ (lt_of_block HS4.out)).trans HS4.out
                have hq5 := (hb5.block _ (lt_of_block HQ4.out)).trans HQ4.out
                have g2 := cell_of_row _ _ 2 _ _ _ hs5
                have p3 := cell_of_row _ _ 3 _ _ _ hq5
                simp only [List.getElem?_toArray, List.getElem?_cons_zero, List.getElem?_cons_succ] at g2 p3
                have hlx := HL4.out.keep hb5
                simp only [if_true] at hlx
                have HRN := Lib.hid (HR2.out.next hlx (HJ4.out.trans (JustL.of q hb5)) (just_row W5 X #[.int .u64 xn, .int .i64 nx, .int .i64 nx]) (setRow_heap _ _ _ _ _ _ hs5) HR2.out.ix HR2.out.ix (.inl rfl))
                have HS5 := Lib.hid hs5
                clear g1 m4 hlx hs5 hq5 hb5 HL4 HJ4 HR2 HQ4 HS4 HHB
                go_wp2_with ((with_reducible show wpList _ _ _ _ _ _); refine wpList_store_row rfl 50 (.tmp 8) (.tmp 121) rfl X #[.int .u64 xn, .int .i64 nx, .int .i64 nx] rfl rfl 50 #[.int .u64 la, .int .i64 cu, .int .i64 nx] HS5.out size_st rfl (by simp [Value.oneCell']) ?_)
                obtain ⟨WN, hWN⟩ : ∃ WN, W5.setRow X #[.int .u64 xn, .int .i64 nx, .int .i64 nx] = WN := ⟨_, rfl⟩
                rw [hWN] at HRN ⊢
                clear hWN
                clear g2 p3
                have HDN : Hid (Below WN.heap.size WN WN.drew) := ⟨rfl, rfl, rfl, Nat.le_refl _, fun _ _ => rfl⟩
                have HLS := Lib.hid (lstatus_any (HRN.out.keep HDN.out).lt)
                have HSN : Hid (∀ wx : World, Below WN.heap.size WN wx → wx.cell? ⟨X, 0, none⟩ = some (.int .u64 xn) ∧ wx.cell? ⟨X, 1, none⟩ = some (.int .i64 nx) ∧ wx.cell? ⟨X, 2, none⟩ = some (.int .i64 nx)) := fun wx b => (HRN.out.keep b).cells
                have HKN := Lib.hid (HSN.out _ HDN.out)
                obtain ⟨y0, y1, y2⟩ := HKN.out
                have heq : ∀ wx : World, (Op.equalIn 10000 50 (.agg #[.int .u64 xn, .int .i64 nx, .int .i64 nx]) (.agg #[.int .u64 xn, .int .i64 nx, .int .i64 nx])).run Try.prog wx = .ok true wx := eq_stat xn nx nx
                go_region_held3 (fun wx => wx.cell? ⟨X, 0, none⟩ = some (.int .u64 xn) ∧ wx.cell? ⟨X, 1, none⟩ = some (.int .i64 nx) ∧ wx.cell? ⟨X, 2, none⟩ = some (.int .i64 nx))
                  (first | exact HKO.out | exact HKN.out | (refine ⟨?_, ?_, ?_⟩ <;> assumption) | (go_keep; done))
                  (first
                    | (go_at_call 19; refine HLS.out.mono ?_; rintro e WO ⟨rfl, hbO⟩; have HBO := Lib.hid (HDN.out.trans (hbO.mono HDN.out.size)); have HKO := Lib.hid (HSN.out WO HBO.out); clear hbO))
                all_goals
                  have hk1 := HK1.out
                  go_wp2
                  go_roundw
                  case rel => exact ⟨k + 1, xn, nx, nx, HLT.out, by go_num, HRN.out.keep HBO.out⟩
                  case measure => have := HLT.out; simp [intOf]; omega
          · obtain rfl : len1 = k := by omega
            have HRB := Lib.hid (fun (W' : World) (b : Below W.heap.size W W') => HR.out.keep b)
            clear hlt hk
            have HLC := Lib.hid (lcopy_any HR.out.lt)
            go_wp2_with fail
            refine HLC.out.mono ?_
            rintro e W5 ⟨q2, rfl, hl5, hb5⟩
            have HR5 := Lib.hid (HR.out.keep hb5)
            have HL5 := Lib.hid hl5
            have HWW : Hid (w.heap.size ≤ W.heap.size) := HR.out.bel.size
            have HB5 := Lib.hid hb5
            clear hl5 hb5 HLC HR
            have HD5 : Hid (Below W5.heap.size W5 W5.drew) := ⟨rfl, rfl, rfl, Nat.le_refl _, fun _ _ => rfl⟩
            have HLS := Lib.hid (lstatus_any (HL5.out.keep HD5.out))
            have HSN : Hid (∀ wx : World, Below W5.heap.size W5 wx → wx.cell? ⟨X, 0, none⟩ = some (.int .u64 la) ∧ wx.cell? ⟨X, 1, none⟩ = some (.int .i64 cu) ∧ wx.cell? ⟨X, 2, none⟩ = some (.int .i64 nx)) := fun wx b => (HR5.out.keep b).cells
            have HKN := Lib.hid (HSN.out _ HD5.out)
            obtain ⟨y0, y1, y2⟩ := HKN.out
            have heq : ∀ wx : World, (Op.equalIn 10000 50 (.agg #[.int .u64 la, .int .i64 cu, .int .i64 nx]) (.agg #[.int .u64 la, .int .i64 cu, .int .i64 nx])).run Try.prog wx = .ok true wx := eq_stat la cu nx
            go_upto_region 30 with fail
            go_region_held3 (fun wx => wx.cell? ⟨X, 0, none⟩ = some (.int .u64 la) ∧ wx.cell? ⟨X, 1, none⟩ = some (.int .i64 cu) ∧ wx.cell? ⟨X, 2, none⟩ = some (.int .i64 nx))
              (first | exact HKO.out | exact HKN.out | (refine ⟨?_, ?_, ?_⟩ <;> assumption) | (go_keep; done))
              (first
                | (go_at_call 19; refine HLS.out.mono ?_; rintro e W6 ⟨rfl, hb6⟩; have HB6 := Lib.hid (HD5.out.trans (hb6.mono HD5.out.size)); have HKO := Lib.hid (HSN.out W6 HB6.out); clear hb6))
            all_goals
              have HR6 := Lib.hid (HR5.out.keep HB6.out)
              have HLB := Lib.hid (lbound_any (HL5.out.keep HB6.out) 5)
              clear y0 y1 y2 HKN HKO HSN HLS heq
              go_wp2_with fail
              refine HLB.out.mono ?_
              rintro e W7 ⟨rfl, hl7, hj7⟩
              have hbe : Below W.heap.size W W7 := JustL.below (HB5.out.trans (HB6.out.mono HB5.out.size)) hj7 (Nat.le_trans HB5.out.size HB6.out.size) hl7.qB
              have HB7 := Lib.hid hbe
              have HR7 : Hid (Rnd w w.heap.size w3.heap.size q ra rb rc X cs s t u la cu nx W7) := HRB.out W7 hbe
              clear hl7 hj7 hbe HLB HR6 HR5 HL5
              have HD7 : Hid (Below W7.heap.size W7 W7.drew) := ⟨rfl, rfl, rfl, Nat.le_refl _, fun _ _ => rfl⟩
              have HLS := Lib.hid (lstatus_any (HR7.out.keep HD7.out).lt)
              have HSN : Hid (∀ wx : World, Below W7.heap.size W7 wx → wx.cell? ⟨X, 0, none⟩ = some (.int .u64 la) ∧ wx.cell? ⟨X, 1, none⟩ = some (.int .i64 cu) ∧ wx.cell? ⟨X, 2, none⟩ = some (.int .i64 nx)) := fun wx b => (HR7.out.keep b).cells
              have HKN := Lib.hid (HSN.out _ HD7.out)
              obtain ⟨y0, y1, y2⟩ := HKN.out
              have heq : ∀ wx : World, (Op.equalIn 10000 50 (.agg #[.int .u64 la, .int .i64 cu, .int .i64 nx]) (.agg #[.int .u64 la, .int .i64 cu, .int .i64 nx])).run Try.prog wx = .ok true wx := eq_stat la cu nx
              go_upto_region 33 with fail
              go_region_held3 (fun wx => wx.cell? ⟨X, 0, none⟩ = some (.int .u64 la) ∧ wx.cell? ⟨X, 1, none⟩ = some (.int .i64 cu) ∧ wx.cell? ⟨X, 2, none⟩ = some (.int .i64 nx))
                (first | exact HKA.out | exact HKO.out | exact HKN.out | (refine ⟨?_, ?_, ?_⟩ <;> assumption) | (go_keep; done))
                (first
                  | (go_at_call 19; refine HLS.out.mono ?_; rintro e W8 ⟨rfl, hb8⟩; have HB8 := Lib.hid (HD7.out.trans (hb8.mono HD7.out.size)); have HKO := Lib.hid (HSN.out W8 HB8.out); clear hb8)
                  | (go_at_call 7; refine (awake_any _).mono ?_; rintro e W9 ⟨rfl, hb9⟩; have HB9 := Lib.hid (HB8.out.trans (hb9.mono HB8.out.size)); have HKA := Lib.hid (HSN.out W9 HB9.out); clear hb9))
              all_goals
                go_wp2
                go_ret
                exact ⟨rfl, HR7.out.bel.trans (HB9.out.mono HR7.out.bel.size)⟩
    · clear HIR
      have HX4 := Lib.hid ((hb4.block _ (lt_of_block HX3.out)).trans HX3.out)
      have HB4 := Lib.hid (HB3.out.trans (hb4.mono HB3.out.size))
      have HSS : Hid (∀ wx : World, Below w4.heap.size w4 wx → wx.cell? ⟨w.heap.size, 0, none⟩ = some (.int .u64 e) ∧ wx.cell? ⟨w.heap.size, 1, none⟩ = some (.int .i64 f) ∧ wx.cell? ⟨w.heap.size, 2, none⟩ = some (.slice PA np pc) ∧ wx.cell? ⟨w.heap.size, 3, none⟩ = some (.slice SA ns sc) ∧ wx.cell? ⟨w.heap.size, 4, none⟩ = some (.slice QA nq qc) ∧ wx.cell? ⟨w.heap.size, 5, none⟩ = some (.slice AA na acp)) := fun wx b => by
        have h2 := (b.block _ (lt_of_block HX4.out)).trans HX4.out
        rw [← HCS.out] at h2
        refine ⟨?_, ?_, ?_, ?_, ?_, ?_⟩ <;> rw [cell_of_row wx _ _ _ _ _ h2] <;> rfl
      have HD0 : Hid (Below w4.heap.size w4 w4.drew) := ⟨rfl, rfl, rfl, Nat.le_refl _, fun _ _ => rfl⟩
      have HK0 := Lib.hid (HSS.out _ HD0.out)
      obtain ⟨z0, z1, z2, z3, z4, z5⟩ := HK0.out
      clear hb4 x1
      go_upto_region 7 with fail
      go_region_held3 (fun wx => wx.cell? ⟨w.heap.size, 0, none⟩ = some (.int .u64 e) ∧ wx.cell? ⟨w.heap.size, 1, none⟩ = some (.int .i64 f) ∧ wx.cell? ⟨w.heap.size, 2, none⟩ = some (.slice PA np pc) ∧ wx.cell? ⟨w.heap.size, 3, none⟩ = some (.slice SA ns sc) ∧ wx.cell? ⟨w.heap.size, 4, none⟩ = some (.slice QA nq qc) ∧ wx.cell? ⟨w.heap.size, 5, none⟩ = some (.slice AA na acp))
        (first | exact HK6.out | exact HK5.out | exact HK0.out | (refine ⟨?_, ?_, ?_, ?_, ?_, ?_⟩ <;> assumption) | (go_keep; done))
        (first
          | (go_at_call 13; refine (HSC.out w4.drew (HB4.out.trans (HD0.out.mono HB4.out.size))).mono ?_; rintro e W5 ⟨V, rfl, ho, hb5⟩; obtain ⟨IA, ic, rfl⟩ := own_slice ho; rw [HM.out.sl] at ho ⊢; rw [ids_map] at ho; have HB5 := Lib.hid (HD0.out.trans (hb5.mono HD0.out.size)); have HK5 := Lib.hid (HSS.out W5 HB5.out); have HIN := Lib.hid (rin15_any IA ic ns (idsS ss) f W5 (zat_own ho) (by unfold idsS; rw [List.length_map]; exact HM.out.sl) (by have := HS.out; omega)); rw [HSV.out, hsf] at HIN; clear hb5 ho)
          | (go_at_call 12; refine HIN.out.mono ?_; rintro e W6 ⟨rfl, hb6⟩; have HB6 := Lib.hid (HB5.out.trans (hb6.mono HB5.out.size)); have HK6 := Lib.hid (HSS.out W6 HB6.out); clear hb6))
      all_goals
        go_wp2_with (go_at_call 7; refine (awake_any _).mono ?_; rintro e W7 ⟨rfl, hb7⟩; have HB7 := Lib.hid (HB6.out.trans (hb7.mono HB6.out.size)); clear hb7)
        go_ret
        exact ⟨rfl, HB4.out.trans (HB7.out.mono HB4.out.size)⟩

end Go.Proofs.Ytbfhcphjeiojmaa.latchPlays
