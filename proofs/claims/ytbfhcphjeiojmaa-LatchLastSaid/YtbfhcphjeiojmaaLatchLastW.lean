
/- The function LatchLast returns true for every module, every slice of calls and every number. Condition: none. This text: the walk through the Go text; the row is in the text without the W at its name's end. -/

import Derived.Test.YtbfhcphjeiojmaaArgs

import Derived.Test.YtbfhcphjeiojmaaLatH

import Derived.Deep.RegionHeld3

namespace Go.Proofs.Ytbfhcphjeiojmaa.latchLast

open Go.RowKit Go.PlainAid Go.Proofs.Ytbfhcphjeiojmaa.Args

set_option linter.unusedVariables false

open Go.Proofs.Ytbfhcphjeiojmaa.Lat Go.Proofs.Ytbfhcphjeiojmaa.Cel Go.Proofs.Ytbfhcphjeiojmaa.Mpv

set_option linter.unusedSimpArgs false

def LlRel (w : World) (M B q a b c g : Nat) (cs : Array Value) (s : Int → Bool) (t : P2 → Bool) (u : Int → Bool) (f : Int) (m : Nat) (D i : Value) (W : World) : Prop :=
  ∃ (k : Nat) (nx : Int), k ≤ m ∧ i = .int .i64 (k : Int) ∧ D = .int .i64 nx ∧ W.heap[M]? = some (.cells cs 28 (0, 0)) ∧ IsL W B q a b c s t u 0 f nx ∧ I64 nx ∧ s nx = true ∧ RAt W g a b c s t u ∧ Below w.heap.size w W
theorem field_1 (c n la : Int) (w : World) : (Instr.field 50 (.agg #[.int .u64 la, .int .i64 c, .int .i64 n]) 1).run Try.prog w = .ok (.int .i64 c) w := by kernel_rfl
theorem field_2 (c n la : Int) (w : World) : (Instr.field 50 (.agg #[.int .u64 la, .int .i64 c, .int .i64 n]) 2).run Try.prog w = .ok (.int .i64 n) w := by kernel_rfl
theorem rat_just {w w' : World} {g a b c q : Nat} {s : Int → Bool} {t : P2 → Bool} {u : Int → Bool} (h : RAt w g a b c s t u) (j : JustL q w w') (hg : g ≠ q) (ha : a ≠ q) (hb : b ≠ q) (hc : c ≠ q) : RAt w' g a b c s t u := by
  have e : ∀ (o : Nat) (v : Value), w.cell? ⟨g, o, none⟩ = some v → w'.cell? ⟨g, o, none⟩ = some v := fun o v h1 => (World.cell?_of_block (j.2.2.2.2 g (Go.block_lt_of_cell h1) hg)).trans h1
  exact ⟨e _ _ h.c0, e _ _ h.c1, e _ _ h.c2, h.ms.kept (j.2.2.2.2 a h.ms.blk ha), h.mt.kept (j.2.2.2.2 b h.mt.blk hb), h.mu.kept (j.2.2.2.2 c h.mu.blk hc)⟩
theorem lbound_nx {w : World} {B q a b c : Nat} {s : Int → Bool} {t : P2 → Bool} {u : Int → Bool} {la cu nx : Int} (h : IsL w B q a b c s t u la cu nx) (now : Int) {z : Bool} (hz : (nx != cu) = z) :
    Calls Try.prog 17 #[.pointer (some ⟨q, 0, none⟩), .int .u64 now] w fun e w' => ∃ la', e = .returned (.bool z) ∧ IsL w' B q a b c s t u la' nx nx ∧ JustL q w w' := by
  refine (lbound_any h now).mono ?_
  rintro e w' ⟨rfl, h1, h2⟩
  rw [hz] at h1 ⊢
  cases z with
  | true => exact ⟨_, rfl, h1, h2⟩
  | false =>
    have : nx = cu := by simpa using hz
    rw [if_neg (by decide), if_neg (by decide), ← this] at h1
    exact ⟨_, rfl, h1, h2⟩
set_option maxRecDepth 8000 in
set_option maxHeartbeats 12800000 in
theorem walk (a0 : Array Value) (a1 : Option Addr) (len1 cap1 : Nat) (a2 : Int) (w : World) (w0 : IsMod w modK a0) (w1 : IsRecs w a1 len1 cap1 [.bool, .int .i64, .int .i64, .int .u64]) (w2 : (Lit.int .i64 a2).wf = true) :
    Calls Try.prog 5 #[.agg a0, .slice a1 len1 cap1, .int .i64 a2] w fun e w' => e = .returned (.bool true) ∧ Below w.heap.size w w' := by
  obtain ⟨e, f, PA, SA, QA, AA, np, pc, ns, sc, nq, qc, na, acp, ps, ss, qs, rfl, hm, hna, hf⟩ := mod_in w0
  obtain ⟨ol, hol, hops, hoc⟩ := ops4_in w1
  have HI2 : Hid (I64 a2) := bounds_i64 w2
  have HF : Hid (I64 f) := hf
  have HOL := Lib.hid hol
  have HOPS := Lib.hid hops
  obtain ⟨cs, hcs⟩ : ∃ cs : Array Value, #[Value.int .u64 e, .int .i64 f, .slice PA np pc, .slice SA ns sc, .slice QA nq qc, .slice AA na acp] = cs := ⟨_, rfl⟩
  have hb0 : Below w.heap.size w (w.alloc (.cells cs 28)) := (Below.refl _ _).alloc (Nat.le_refl _) _
  have hx0 := heap_alloc_new w (.cells cs 28)
  have HM := Lib.hid hm
  have hs1 : (w.alloc (.cells cs 28)).heap.size = w.heap.size + 1 := by simp
  obtain ⟨W1, hW1⟩ : ∃ W, w.alloc (.cells cs 28) = W := ⟨_, rfl⟩
  rw [hW1] at hx0 hb0 hs1
  have HX := Lib.hid hx0
  have HSZ := Lib.hid hs1
  have HCS := Lib.hid hcs
  rw [← hcs] at hW1 hx0
  have HB := Lib.hid hb0
  have HLG := Lib.hid (long_any (pc := pc) (sc := sc) (qc := qc) (AA := AA) (na := na) (acp := acp) (e := e) (f := f) (hm.kept hb0))
  have HW1 := Lib.hid hW1
  clear hm hb0 hW1 w0 w1 w2 hna hf hcs hol hops hoc hs1
  by_cases hlen : 100 < len1
  · have t1 : decide (100 < (len1 : Int)) = true := decide_eq_true (by omega)
    clear hlen
    go_enter Try.func5, Try.ntmps5
    go_upto_region 1 with fail
    rw [HW1.out]
    go_wp2_with ((with_reducible show wpList _ _ _ _ _ _); refine wpList_load_row rfl 28 (.tmp 3) rfl w.heap.size rfl 28 _ (0, 0) _ hx0 Try.underlying28 rfl size_mod ?_)
    refine HLG.out.mono ?_
    rintro e w2 ⟨bl, rfl, -, hb2⟩
    have HB2 := Lib.hid (HB.out.trans (hb2.mono HB.out.size))
    clear hb2 hx0 HLG
    cases bl
    all_goals
      go_wp2_with (go_at_call 7; refine (awake_any _).mono ?_; rintro e w3 ⟨rfl, hb3⟩; have HB3 := Lib.hid (HB2.out.trans (hb3.mono HB2.out.size)); clear hb3)
      go_ret
      exact ⟨rfl, HB3.out⟩
  have t1 : decide (100 < (len1 : Int)) = false := decide_eq_false (by omega)
  have HL1 : Hid (len1 ≤ 100) := by show _ ≤ _; omega
  clear hlen
  go_enter Try.func5, Try.ntmps5
  go_upto_region 1 with fail
  rw [HW1.out]
  go_wp2_with ((with_reducible show wpList _ _ _ _ _ _); refine wpList_load_row rfl 28 (.tmp 3) rfl w.heap.size rfl 28 _ (0, 0) _ hx0 Try.underlying28 rfl size_mod ?_)
  refine HLG.out.mono ?_
  rintro e w2 ⟨bl, rfl, hbl, hb2⟩
  have HB2 := Lib.hid (HB.out.trans (hb2.mono HB.out.size))
  have hx2 := (hb2.block _ (lt_of_block HX.out)).trans HX.out
  have HX2 := Lib.hid hx2
  have HS2 : Hid (w.heap.size + 1 ≤ w2.heap.size) := by show _ ≤ _; have h1 := HSZ.out; have h2 := hb2.size; omega
  rw [← HCS.out] at hx2
  clear hb2 hx0 HLG
  cases bl with
  | true =>
    clear hbl hx2
    go_wp2_with (go_at_call 7; refine (awake_any _).mono ?_; rintro e w3 ⟨rfl, hb3⟩; have HB3 := Lib.hid (HB2.out.trans (hb3.mono HB2.out.size)); clear hb3)
    go_ret
    exact ⟨rfl, HB3.out⟩
  | false =>
    obtain ⟨hp, hs, hq⟩ := hbl rfl
    have HS : Hid (ns ≤ 20) := hs
    have HOF := Lib.hid (of_any (pc := pc) (sc := sc) (qc := qc) (AA := AA) (na := na) (acp := acp) (e := e) (f := f) (HM.out.kept HB2.out) hp hs hq)
    have HRC := Lib.hid (fun (W : World) (b : Below w.heap.size w W) (a1 a2 a3 : Int) => rcode_any (pc := pc) (sc := sc) (qc := qc) (AA := AA) (na := na) (acp := acp) (e := e) (f := f) (HM.out.kept b) hp hs hq a1 a2 a3)
    have HSC := Lib.hid (fun (W : World) (b : Below w.heap.size w W) => rscheds_any (pc := pc) (sc := sc) (qc := qc) (AA := AA) (na := na) (acp := acp) (e := e) (f := f) (HM.out.kept b) (by omega))
    have HHA := Lib.hid (fun (W : World) (b : Below w.heap.size w W) (p : P2) => has10_any QA qc nq qs p W (HM.out.kept b).q HM.out.ql (by omega))
    clear hbl hp hs hq
    go_wp2_with ((with_reducible show wpList _ _ _ _ _ _); refine wpList_load_row rfl 28 (.tmp 3) rfl w.heap.size rfl 28 _ (0, 0) _ hx2 Try.underlying28 rfl size_mod ?_)
    refine HOF.out.mono ?_
    rintro e w3 ⟨g, ra, rb, rc, rfl, hir, hb3⟩
    have HB3 := Lib.hid (HB2.out.trans (hb3.mono HB2.out.size))
    have HIR := Lib.hid hir
    have HX3 := Lib.hid ((hb3.block _ (lt_of_block HX2.out)).trans HX2.out)
    have x1 := cell_of_row _ _ 1 _ _ _ HX3.out
    rw [← HCS.out] at x1
    simp only [List.getElem?_toArray, List.getElem?_cons_zero, List.getElem?_cons_succ] at x1
    have HS3 : Hid (w.heap.size + 1 ≤ w3.heap.size) := Nat.le_trans HS2.out hb3.size
    obtain ⟨s, hs⟩ : ∃ s, inB (idsS ss) = s := ⟨_, rfl⟩
    obtain ⟨t, ht⟩ : ∃ t, hasB qs = t := ⟨_, rfl⟩
    obtain ⟨u, hu⟩ : ∃ u, mayB ps = u := ⟨_, rfl⟩
    rw [hs, ht, hu] at HIR
    rw [hs, ht, hu] at HRC
    rw [ht] at HHA
    have HSV := Lib.hid hs
    have HLN := Lib.hid (lnew_any HIR.out f HF.out)
    clear hir hb3 hx2 HOF hs ht hu
    go_wp2_with fail
    refine HLN.out.mono ?_
    rintro e w4 hor
    rcases hor with ⟨hsf, q, rfl, hil, hb4⟩ | ⟨hsf, rfl, hb4⟩
    · have HX4 := (hb4.block _ (lt_of_block HX3.out)).trans HX3.out
      have hirk := HIR.out.keep hb4
      have HMQ : Hid (w.heap.size < q) := by show _ < _; have h1 := hil.qB; have h2 := HS3.out; omega
      have HGQ : Hid (g ≠ q) := Nat.ne_of_lt (Nat.lt_of_lt_of_le (lt_of_block HIR.out.box) hil.qB)
      have HS0 : Hid (LlRel w w.heap.size w3.heap.size q ra rb rc g cs s t u f len1 (.int .i64 f) (.int .i64 0) w4) := ⟨0, f, Nat.zero_le _, rfl, rfl, HX4, hil, HF.out, hsf, hirk.at, HB3.out.trans (hb4.mono HB3.out.size)⟩
      have y1 := cell_of_row _ _ 1 _ _ _ HX4
      rw [← HCS.out] at y1
      simp only [List.getElem?_toArray, List.getElem?_cons_zero, List.getElem?_cons_succ] at y1
      clear hsf hil hb4 HX4 hirk x1 HIR
      go_wp2_with fail
      go_loopw [10, 49] (fun D i W => LlRel w w.heap.size w3.heap.size q ra rb rc g cs s t u f len1 D i W) (fun _ i _ => len1 - (intOf i).toNat)
      case atStart => exact HS0.out
      case round =>
        rename World => W
        obtain ⟨k, nx, hk, rfl, rfl, hxm, hil, hnx, hsn, hrt, hbe⟩ := hrel
        have HXM := Lib.hid hxm
        have HIL := Lib.hid hil
        have HNX : Hid (I64 nx) := hnx
        have HSN : Hid (s nx = true) := hsn
        have HRT := Lib.hid hrt
        have HBE := Lib.hid hbe
        clear hxm hil hnx hsn hrt hbe HS0 y1
        by_cases hlt : k < len1
        · skip
          obtain ⟨x, hx⟩ : ∃ x, ol[k]? = some x := ⟨_, List.getElem?_eq_getElem (by rw [HOL.out]; exact hlt)⟩
          obtain ⟨hxc, hxi, y, rfl, e1, e2, e3, e4⟩ := (HOPS.out.kept HBE.out) k x hx
          have HXC := Lib.hid hxc
          have HXI := Lib.hid hxi
          have HLT := Lib.hid hlt
          have hki : (0 : Int) ≤ k := by omega
          have hkb : (k : Int) < len1 := by omega
          have HK1 : Hid (IntKind.i64.wrap ((k : Int) + 1) = (k : Int) + 1) := IntWalk.i64_in _ (by have := HL1.out; omega)
          obtain ⟨xb, xc, xi, xn⟩ := x
          dsimp only at e1 e2 e3 e4 HXC HXI
          have hb5 : Below W.heap.size W (W.alloc (.cells #[.bool xb, .int .i64 xc, .int .i64 xi, .int .u64 xn] 52)) := (Below.refl _ _).alloc (Nat.le_refl _) _
          have hx5 := heap_alloc_new W (.cells #[.bool xb, .int .i64 xc, .int .i64 xi, .int .u64 xn] 52)
          clear hlt hk hx hxc hxi
          go_upto_region 13 with fail
          obtain ⟨W2, hW2⟩ : ∃ W2, W.alloc (.cells #[.bool xb, .int .i64 xc, .int .i64 xi, .int .u64 xn] 52) = W2 := ⟨_, rfl⟩
          obtain ⟨Q, hQ⟩ : ∃ Q, W.heap.size = Q := ⟨_, rfl⟩
          have HQX : Hid (Q ≠ q) := by show _ ≠ _; have := lt_of_block HIL.out.box; omega
          rw [hW2, hQ] at hx5
          rw [hW2] at hb5
          rw [hW2, hQ]
          have HIL2 := Lib.hid (HIL.out.keep hb5)
          have HXM2 := Lib.hid ((hb5.block _ (lt_of_block HXM.out)).trans HXM.out)
          have HRT2 := Lib.hid (HRT.out.keep hb5)
          have HBE2 := Lib.hid (HBE.out.trans (hb5.mono HBE.out.size))
          have HXQ := Lib.hid hx5
          have d1 := cell_of_row _ _ 1 _ _ _ hx5
          have d2 := cell_of_row _ _ 2 _ _ _ hx5
          simp only [List.getElem?_toArray, List.getElem?_cons_zero, List.getElem?_cons_succ] at d1 d2
          have HAS := Lib.hid (lask_any HIL2.out xc xi HXC.out HF.out HXI.out)
          obtain ⟨kv, hkv⟩ : ∃ kv, codeR s t u xc f xi = kv := ⟨_, rfl⟩
          rw [hkv] at HAS
          have HKV := Lib.hid hkv
          clear hb5 hW2 hQ e1 e2 e3 e4 hx5 hkv HIL HXM HRT HBE
          go_wp2_with fail
          refine HAS.out.mono ?_
          rintro e W3 ⟨rfl, hl3, hj3⟩
          have HXM3 := Lib.hid ((hj3.2.2.2.2 _ (lt_of_block HXM2.out) (Nat.ne_of_lt HMQ.out)).trans HXM2.out)
          have HRT3 := Lib.hid (rat_just HRT2.out hj3 HGQ.out hl3.aq hl3.bq hl3.cq)
          have HBE3 := Lib.hid (JustL.below HBE2.out hj3 HBE2.out.size (Nat.le_of_lt HMQ.out))
          have HXQ3 := Lib.hid ((hj3.2.2.2.2 Q (lt_of_block HXQ.out) HQX.out).trans HXQ.out)
          have HL3 := Lib.hid hl3
          clear d1 d2 hl3 hj3 HXM2 HRT2 HBE2 HXQ HIL2 HAS
          by_cases hk0 : kv = 0
          · have t0 : (kv == 0) = true := by simp [hk0]
            have h4 : codeR s t u xc f xi = 0 := HKV.out.trans hk0
            have hlx := HL3.out
            rw [if_pos hk0] at hlx
            have HLX := Lib.hid hlx
            have HSX : Hid (s xi = true) := (code_zero h4).2.1
            have p2 := cell_of_row _ _ 2 _ _ _ HXQ3.out
            simp only [List.getElem?_toArray, List.getElem?_cons_zero, List.getElem?_cons_succ] at p2
            have HNI := HXI
            clear hk0 h4 hlx HL3
            go_wp2_with fail
            refine (lstatus_any HLX.out).mono ?_
            rintro e W4 ⟨rfl, hb4'⟩
            have hb6 : Below W4.heap.size W4 (W4.alloc (.cells #[.int .u64 0, .int .i64 f, .int .i64 xi] 50)) := (Below.refl _ _).alloc (Nat.le_refl _) _
            have hx6 := heap_alloc_new W4 (.cells #[.int .u64 0, .int .i64 f, .int .i64 xi] 50)
            have hbb := hb4'.trans (hb6.mono hb4'.size)
            go_upto_region 16 with fail
            obtain ⟨W6, hW6⟩ : ∃ W6, W4.alloc (.cells #[.int .u64 0, .int .i64 f, .int .i64 xi] 50) = W6 := ⟨_, rfl⟩
            obtain ⟨Y, hY⟩ : ∃ Y, W4.heap.size = Y := ⟨_, rfl⟩
            rw [hW6, hY] at hx6
            rw [hW6] at hbb
            rw [hW6, hY]
            have HL6 := Lib.hid (HLX.out.keep hbb)
            have HXM6 := Lib.hid ((hbb.block _ (lt_of_block HXM3.out)).trans HXM3.out)
            have HRT6 := Lib.hid (HRT3.out.keep hbb)
            have HBE6 := Lib.hid (HBE3.out.trans (hbb.mono HBE3.out.size))
            have v0 := cell_of_row _ _ 0 _ _ _ hx6
            have v1 := cell_of_row _ _ 1 _ _ _ hx6
            have v2 := cell_of_row _ _ 2 _ _ _ hx6
            have vm := cell_of_row _ _ 1 _ _ _ HXM6.out
            rw [← HCS.out] at vm
            simp only [List.getElem?_toArray, List.getElem?_cons_zero, List.getElem?_cons_succ] at v0 v1 v2 vm
            have tf : (f != f) = false := by simp
            have tn : (xi != xi) = false := by simp
            have hk1 := HK1.out
            clear hb4' hb6 hx6 hbb hW6 hY HLX HXM3 HRT3 HBE3
            go_wp2
            go_roundw
            case rel => exact ⟨k + 1, xi, HLT.out, by go_num, rfl, HXM6.out, HL6.out, HNI.out, HSX.out, HRT6.out, HBE6.out⟩
            case measure => have := HLT.out; simp [intOf]; omega
          · have t0 : (kv == 0) = false := by simp [hk0]
            have hlx := HL3.out
            rw [if_neg hk0] at hlx
            have HLX := Lib.hid hlx
            have HSX := HSN
            have HNI := HNX
            clear hk0 hlx HL3
            go_wp2_with fail
            refine (lstatus_any HLX.out).mono ?_
            rintro e W4 ⟨rfl, hb4'⟩
            have hb6 : Below W4.heap.size W4 (W4.alloc (.cells #[.int .u64 0, .int .i64 f, .int .i64 nx] 50)) := (Below.refl _ _).alloc (Nat.le_refl _) _
            have hx6 := heap_alloc_new W4 (.cells #[.int .u64 0, .int .i64 f, .int .i64 nx] 50)
            have hbb := hb4'.trans (hb6.mono hb4'.size)
            go_upto_region 16 with fail
            obtain ⟨W6, hW6⟩ : ∃ W6, W4.alloc (.cells #[.int .u64 0, .int .i64 f, .int .i64 nx] 50) = W6 := ⟨_, rfl⟩
            obtain ⟨Y, hY⟩ : ∃ Y, W4.heap.size = Y := ⟨_, rfl⟩
            rw [hW6, hY] at hx6
            rw [hW6] at hbb
            rw [hW6, hY]
            have HL6 := Lib.hid (HLX.out.keep hbb)
            have HXM6 := Lib.hid ((hbb.block _ (lt_of_block HXM3.out)).trans HXM3.out)
            have HRT6 := Lib.hid (HRT3.out.keep hbb)
            have HBE6 := Lib.hid (HBE3.out.trans (hbb.mono HBE3.out.size))
            have v0 := cell_of_row _ _ 0 _ _ _ hx6
            have v1 := cell_of_row _ _ 1 _ _ _ hx6
            have v2 := cell_of_row _ _ 2 _ _ _ hx6
            have vm := cell_of_row _ _ 1 _ _ _ HXM6.out
            rw [← HCS.out] at vm
            simp only [List.getElem?_toArray, List.getElem?_cons_zero, List.getElem?_cons_succ] at v0 v1 v2 vm
            have tf : (f != f) = false := by simp
            have tn : (nx != nx) = false := by simp
            have hk1 := HK1.out
            clear hb4' hb6 hx6 hbb hW6 hY HLX HXM3 HRT3 HBE3
            go_wp2
            go_roundw
            case rel => exact ⟨k + 1, nx, HLT.out, by go_num, rfl, HXM6.out, HL6.out, HNI.out, HSX.out, HRT6.out, HBE6.out⟩
            case measure => have := HLT.out; simp [intOf]; omega
        · obtain rfl : len1 = k := by omega
          clear hlt hk
          obtain ⟨z, hz⟩ : ∃ z, (nx != f) = z := ⟨_, rfl⟩
          have hd : Below W.heap.size W W.drew := ⟨rfl, rfl, rfl, Nat.le_refl _, fun _ _ => rfl⟩
          have HLB := Lib.hid (lbound_nx (HIL.out.keep hd) 9 hz)
          have HMM : Hid (∀ W', JustL q W W' → W'.cell? ⟨w.heap.size, 1, none⟩ = some (.int .i64 f)) := fun W' j => by
            have h := (j.2.2.2.2 _ (lt_of_block HXM.out) (Nat.ne_of_lt HMQ.out)).trans HXM.out
            rw [← HCS.out] at h
            rw [cell_of_row W' _ _ _ _ _ h]; rfl
          have HJD : Hid (JustL q W W.drew) := JustL.of q hd
          have c1 := HMM.out _ HJD.out
          have tz : (z != z) = false := by cases z <;> rfl
          have tn : (nx != nx) = false := by simp
          have TN := Lib.hid tn
          have HZ := Lib.hid hz
          clear hd hz
          go_upto_region 19 with fail
          have tzz : (nx != f) = z := HZ.out
          have hf1 : ∀ (la : Int) (wx : World), (Instr.field 50 (.agg #[.int .u64 la, .int .i64 nx, .int .i64 nx]) 1).run Try.prog wx = .ok (.int .i64 nx) wx := field_1 nx nx
          have hf2 : ∀ (la : Int) (wx : World), (Instr.field 50 (.agg #[.int .u64 la, .int .i64 nx, .int .i64 nx]) 2).run Try.prog wx = .ok (.int .i64 nx) wx := field_2 nx nx
          go_region_held3 (fun wx => wx.cell? ⟨w.heap.size, 1, none⟩ = some (.int .i64 f))
            (first | exact HK9.out | exact HK8.out | exact HK7.out | assumption | (go_keep; done))
            (first
              | (go_at_call 17; refine (lbound_nx HL8.out 10 TN.out).mono ?_; rintro e W9 ⟨la9, rfl, hl9, hj9⟩; have HL9 := Lib.hid hl9; have HJ9 := Lib.hid (HJ8.out.trans hj9); have HK9 := Lib.hid (HMM.out W9 HJ9.out); clear hl9 hj9)
              | (go_at_call 17; refine HLB.out.mono ?_; rintro e W7 ⟨la7, rfl, hl7, hj7⟩; have HL7 := Lib.hid hl7; have HJ7 := Lib.hid (HJD.out.trans hj7); have HK7 := Lib.hid (HMM.out W7 HJ7.out); clear hl7 hj7)
              | (go_at_call 19; refine (lstatus_any HL7.out).mono ?_; rintro e W8 ⟨rfl, hb8⟩; have HL8 := Lib.hid (HL7.out.keep hb8); have HJ8 := Lib.hid (HJ7.out.trans (JustL.of q hb8)); have HK8 := Lib.hid (HMM.out W8 HJ8.out); clear hb8))
          all_goals
            have HRT9 := Lib.hid (rat_just HRT.out HJ9.out HGQ.out HIL.out.aq HIL.out.bq HIL.out.cq)
            have HBE9 := Lib.hid (JustL.below HBE.out HJ9.out HBE.out.size (Nat.le_of_lt HMQ.out))
            have HMA := Lib.hid (may_any HRT9.out a2 HI2.out)
            obtain ⟨uv, huv⟩ : ∃ uv, u a2 = uv := ⟨_, rfl⟩
            rw [huv] at HMA
            have hcode : codeR s t u a2 nx nx = if uv then 1 else 4 := by
              unfold codeR
              rw [if_neg (by rw [HSN.out]; decide), huv]
              cases uv <;> simp
            have HAK := Lib.hid (lask_any HL9.out a2 nx HI2.out HNX.out HNX.out)
            rw [hcode] at HAK
            clear huv hcode
            have tnn : (nx == nx) = true := by simp
            cases uv with
            | false =>
              simp only [Bool.false_eq_true, if_false] at HAK
              go_wp2_with (go_at_call 14; refine HMA.out.mono ?_; rintro e W10 ⟨rfl, rfl⟩)
              refine HAK.out.mono ?_
              rintro e W11 ⟨rfl, hl11, hj11⟩
              have hl12 := hl11
              simp only [show ((4 : Int) = 0) = False from by simp, if_false] at hl12
              have HL12 := Lib.hid hl12
              have HBE11 := Lib.hid (JustL.below HBE9.out hj11 HBE9.out.size (Nat.le_of_lt HMQ.out))
              have HLS := Lib.hid (lstatus_any HL12.out)
              clear hl11 hl12 hj11 HAK
              go_wp2_with (first
                | (go_at_call 19; refine HLS.out.mono ?_; rintro e W12 ⟨rfl, hb12⟩; have HBE12 := Lib.hid (HBE11.out.trans (hb12.mono HBE11.out.size)); clear hb12)
                | (go_at_call 7; refine (awake_any _).mono ?_; rintro e W13 ⟨rfl, hb13⟩; have HBE13 := Lib.hid (HBE12.out.trans (hb13.mono HBE12.out.size)); clear hb13))
              go_ret
              exact ⟨rfl, HBE13.out⟩
            | true =>
              simp only [if_true] at HAK
              go_wp2_with (go_at_call 14; refine HMA.out.mono ?_; rintro e W10 ⟨rfl, rfl⟩)
              refine HAK.out.mono ?_
              rintro e W11 ⟨rfl, hl11, hj11⟩
              have hl12 := hl11
              simp only [show ((1 : Int) = 0) = False from by simp, if_false] at hl12
              have HL12 := Lib.hid hl12
              have HBE11 := Lib.hid (JustL.below HBE9.out hj11 HBE9.out.size (Nat.le_of_lt HMQ.out))
              have HLS := Lib.hid (lstatus_any HL12.out)
              clear hl11 hl12 hj11 HAK
              go_wp2_with (first
                | (go_at_call 19; refine HLS.out.mono ?_; rintro e W12 ⟨rfl, hb12⟩; have HBE12 := Lib.hid (HBE11.out.trans (hb12.mono HBE11.out.size)); clear hb12)
                | (go_at_call 7; refine (awake_any _).mono ?_; rintro e W13 ⟨rfl, hb13⟩; have HBE13 := Lib.hid (HBE12.out.trans (hb13.mono HBE12.out.size)); clear hb13))
              go_ret
              exact ⟨rfl, HBE13.out⟩
    · have HB4 := Lib.hid (HB3.out.trans (hb4.mono HB3.out.size))
      clear hb4 HIR hsf
      go_wp2_with (go_at_call 7; refine (awake_any _).mono ?_; rintro e W7 ⟨rfl, hb7⟩; have HB7 := Lib.hid (HB4.out.trans (hb7.mono HB4.out.size)); clear hb7)
      go_ret
      exact ⟨rfl, HB7.out⟩

end Go.Proofs.Ytbfhcphjeiojmaa.latchLast
