
/- The document's Code; the chapter's example. Condition: at most 40 partitions, 20 schedules, 250 pairs. -/

import Derived.Test.YtbfhcphjeiojmaaLatE

namespace Go.Proofs.Ytbfhcphjeiojmaa.Lat

open Go.RowKit Go.PlainAid Go.Proofs.Ytbfhcphjeiojmaa.Args Go.Proofs.Ytbfhcphjeiojmaa.Cel Go.Proofs.Ytbfhcphjeiojmaa.Mpv

set_option linter.unusedVariables false

set_option linter.unusedSimpArgs false

theorem mayB_step {ps : List LP} {k : Nat} {x : LP} (hx : ps[k]? = some x) (i : Int) : mayB (ps.take (k + 1)) i = (mayB (ps.take k) i || (x.id == i && x.may)) := by
  unfold mayB
  rw [List.take_add_one, hx, List.any_append]
  simp
theorem ids_map (ss : List LS) : (ss.map fun x => Value.int .i64 x.id) = (idsS ss).map (Value.int .i64) := by unfold idsS; rw [List.map_map]; rfl
section

variable {w : World} {PA SA QA AA : Option Addr} {np pc ns sc nq qc na acp : Nat} {ps : List LP} {ss : List LS} {qs : List P2} {e f : Int}

def RcRel (n b : Nat) (cs : Array Value) (ps : List LP) (caller : Int) (w : World) (M i : Value) (W : World) : Prop :=
  ∃ (k : Nat), k ≤ n ∧ i = .int .i64 (k : Int) ∧ M = .bool (mayB (ps.take k) caller) ∧ W.heap[b]? = some (.cells cs 28 (0, 0)) ∧ Below w.heap.size w W
set_option maxRecDepth 8000 in
set_option maxHeartbeats 3200000 in
theorem rcode_any (h : MAt w PA SA QA np ns nq ps ss qs) (hp : np ≤ 40) (hs : ns ≤ 20) (hq : nq ≤ 250) (caller current id : Int) :
    Calls Try.prog 10 #[.agg #[.int .u64 e, .int .i64 f, .slice PA np pc, .slice SA ns sc, .slice QA nq qc, .slice AA na acp], .int .i64 caller, .int .i64 current, .int .i64 id] w fun e w' => e = .returned (.int .i64 (codeR (inB (idsS ss)) (hasB qs) (mayB ps) caller current id)) ∧ Below w.heap.size w w' := by
  obtain ⟨cs, hcs⟩ : ∃ cs : Array Value, #[Value.int .u64 e, .int .i64 f, .slice PA np pc, .slice SA ns sc, .slice QA nq qc, .slice AA na acp] = cs := ⟨_, rfl⟩
  have hb0 : Below w.heap.size w (w.alloc (.cells cs 28)) := (Below.refl _ _).alloc (Nat.le_refl _) _
  have hx0 := heap_alloc_new w (.cells cs 28)
  have HM := Lib.hid h
  have HCS := Lib.hid hcs
  have HP : Hid (np ≤ 40) := hp
  have HNS : Hid (ns ≤ 20) := hs
  have HQ : Hid (nq ≤ 250) := hq
  obtain ⟨W1, hW1⟩ : ∃ W, w.alloc (.cells cs 28) = W := ⟨_, rfl⟩
  rw [hW1] at hx0 hb0
  have HX := Lib.hid hx0
  have HB := Lib.hid hb0
  have HSC := Lib.hid (rscheds_any (pc := pc) (sc := sc) (qc := qc) (AA := AA) (na := na) (acp := acp) (e := e) (f := f) (h.kept hb0) (by omega))
  have HHA := Lib.hid (fun (W : World) (b : Below w.heap.size w W) => has10_any QA qc nq qs ⟨current, id⟩ W (h.kept b).q h.ql (by omega))
  rw [← hcs] at hW1 hx0
  have HW1 := Lib.hid hW1
  obtain ⟨v, hv⟩ : ∃ v, codeR (inB (idsS ss)) (hasB qs) (mayB ps) caller current id = v := ⟨_, rfl⟩
  rw [hv]
  have HV : Hid (codeR (inB (idsS ss)) (hasB qs) (mayB ps) caller current id = v) := hv
  unfold codeR at HV
  obtain ⟨zs, hzs⟩ : ∃ z, inB (idsS ss) id = z := ⟨_, rfl⟩
  obtain ⟨zm, hzm⟩ : ∃ z, mayB ps caller = z := ⟨_, rfl⟩
  obtain ⟨zq, hzq⟩ : ∃ z, hasB qs ⟨current, id⟩ = z := ⟨_, rfl⟩
  rw [hzs, hzm, hzq] at HV
  rw [hzq] at HHA
  have HZS := Lib.hid hzs
  have HZM := Lib.hid hzm
  clear h hp hs hq hcs hb0 hW1 hv hzs hzm hzq
  go_enter Try.func10, Try.ntmps10
  go_upto_region 1 with fail
  rw [HW1.out]
  go_wp2_with ((with_reducible show wpList _ _ _ _ _ _); refine wpList_load_row rfl 28 (.tmp 4) rfl w.heap.size rfl 28 _ (0, 0) _ hx0 Try.underlying28 rfl size_mod ?_)
  refine HSC.out.mono ?_
  rintro e w2 ⟨V, rfl, ho, hb2⟩
  obtain ⟨IA, ic, rfl⟩ := own_slice ho
  rw [HM.out.sl] at ho ⊢
  rw [ids_map] at ho
  have HIN := Lib.hid (rin15_any IA ic ns (idsS ss) id w2 (zat_own ho) (by unfold idsS; rw [List.length_map]; exact HM.out.sl) (by have := HNS.out; omega))
  rw [HZS.out] at HIN
  have HB2 := Lib.hid (HB.out.trans (hb2.mono HB.out.size))
  have HX2 := Lib.hid ((hb2.block _ (lt_of_block HX.out)).trans HX.out)
  clear ho hb2 HSC hx0
  cases zs with
  | false =>
    have HVV : Hid (v = 3) := by show _ = _; rw [← HV.out]; simp
    go_wp2_with fail
    refine HIN.out.mono ?_
    rintro e w3 ⟨rfl, hb3⟩
    have HB3 := Lib.hid (HB2.out.trans (hb3.mono HB2.out.size))
    clear hb3 HIN
    go_wp2
    go_ret
    exact ⟨by rw [HVV.out]; rfl, HB3.out⟩
  | true =>
    go_wp2_with fail
    refine HIN.out.mono ?_
    rintro e w3 ⟨rfl, hb3⟩
    have HB3 := Lib.hid (HB2.out.trans (hb3.mono HB2.out.size))
    have HS0 : Hid (RcRel np w.heap.size cs ps caller w (.bool false) (.int .i64 0) w3) := ⟨0, Nat.zero_le _, rfl, rfl, (hb3.block _ (lt_of_block HX2.out)).trans HX2.out, HB3.out⟩
    clear hb3 HIN
    go_wp2_with fail
    go_loopw [9, 10] (fun M i W => RcRel np w.heap.size cs ps caller w M i W) (fun _ i _ => np - (intOf i).toNat)
    case atStart => exact HS0.out
    case round =>
      rename World => W
      obtain ⟨k, hk, rfl, rfl, hbx, hb⟩ := hrel
      have HBX := Lib.hid hbx
      have HBW := Lib.hid hb
      have x2 := cell_of_row _ _ 2 _ _ _ hbx
      have x4 := cell_of_row _ _ 4 _ _ _ hbx
      rw [← HCS.out] at x2 x4
      simp only [List.getElem?_toArray, List.getElem?_cons_zero, List.getElem?_cons_succ] at x2 x4
      clear hbx hb HS0
      by_cases hlt : k < np
      · obtain ⟨x, hx⟩ : ∃ x, ps[k]? = some x := ⟨_, List.getElem?_eq_getElem (by rw [HM.out.pl]; exact hlt)⟩
        obtain ⟨y, rfl, e1, e2, e3, e4⟩ := (HM.out.kept HBW.out).p k x hx
        have HST := Lib.hid (mayB_step hx caller)
        have HLT := Lib.hid hlt
        have hki : (0 : Int) ≤ k := by omega
        have hkb : (k : Int) < np := by omega
        have hk1 : IntKind.i64.wrap ((k : Int) + 1) = (k : Int) + 1 := IntWalk.i64_in _ (by have := HP.out; omega)
        obtain ⟨ex, nm, may, BB, bn, bc⟩ := x
        dsimp only at e1 e3 HST
        obtain ⟨z1, hz1⟩ : ∃ z, (ex == caller) = z := ⟨_, rfl⟩
        rw [hz1] at HST
        obtain ⟨mk, hmk⟩ : ∃ z, mayB (ps.take k) caller = z := ⟨_, rfl⟩
        rw [hmk] at HST ⊢
        clear hlt hk hx hmk e2 e4
        cases z1
        · have HE : Hid (mayB (ps.take (k + 1)) caller = mk) := by show _ = _; rw [HST.out]; simp
          go_wp2
          go_roundw
          case rel => exact ⟨k + 1, HLT.out, by go_num, by rw [HE.out], HBX.out, HBW.out⟩
          case measure => have := HLT.out; simp [intOf]; omega
        · cases may
          · have HE : Hid (mayB (ps.take (k + 1)) caller = mk) := by show _ = _; rw [HST.out]; simp
            go_wp2
            go_roundw
            case rel => exact ⟨k + 1, HLT.out, by go_num, by rw [HE.out], HBX.out, HBW.out⟩
            case measure => have := HLT.out; simp [intOf]; omega
          · have HE : Hid (mayB (ps.take (k + 1)) caller = true) := by show _ = _; rw [HST.out]; simp
            go_wp2
            go_roundw
            case rel => exact ⟨k + 1, HLT.out, by go_num, by rw [HE.out], HBX.out, HBW.out⟩
            case measure => have := HLT.out; simp [intOf]; omega
      · obtain rfl : np = k := by omega
        have hzm : mayB (ps.take np) caller = zm := by rw [List.take_of_length_le (by rw [HM.out.pl]; exact Nat.le_refl _)]; exact HZM.out
        rw [hzm]
        have HHB := Lib.hid (HHA.out W HBW.out)
        clear hlt hk hzm
        cases zm with
        | false =>
          have HVV : Hid (v = 4) := by show _ = _; rw [← HV.out]; simp
          go_wp2
          go_ret
          exact ⟨by rw [HVV.out]; rfl, HBW.out⟩
        | true =>
          by_cases hid : id = current
          · have t0 : (id == current) = true := by simp [hid]
            have HVV : Hid (v = 1) := by show _ = _; rw [← HV.out, if_neg (by decide), if_neg (by decide), if_pos hid]
            clear hid
            go_wp2
            go_ret
            exact ⟨by rw [HVV.out]; rfl, HBW.out⟩
          · have t0 : (id == current) = false := by simp [hid]
            cases zq with
            | false =>
              have HVV : Hid (v = 5) := by show _ = _; rw [← HV.out, if_neg (by decide), if_neg (by decide), if_neg hid, if_pos rfl]
              clear hid
              go_wp2_with (go_at_call 18; refine HHB.out.mono ?_; rintro e w4 ⟨rfl, hb4⟩; have HB4 := Lib.hid (HBW.out.trans (hb4.mono HBW.out.size)); clear hb4)
              go_ret
              exact ⟨by rw [HVV.out]; rfl, HB4.out⟩
            | true =>
              have HVV : Hid (v = 0) := by show _ = _; rw [← HV.out, if_neg (by decide), if_neg (by decide), if_neg hid, if_neg (by decide)]
              clear hid
              go_wp2_with (go_at_call 18; refine HHB.out.mono ?_; rintro e w4 ⟨rfl, hb4⟩; have HB4 := Lib.hid (HBW.out.trans (hb4.mono HBW.out.size)); clear hb4)
              go_ret
              exact ⟨by rw [HVV.out]; rfl, HB4.out⟩
end

theorem mat_nil (w : World) : MAt w none none none 0 0 0 [] [] [] :=
  ⟨fun i x h => by simp at h, fun i x h => by simp at h, fun i x h => by simp at h, rfl, rfl, rfl, by simp, by simp, by simp, Nat.zero_le _, Nat.zero_le _, Nat.zero_le _⟩
set_option maxRecDepth 4000 in
theorem awake_any (w : World) : Calls Try.prog 7 #[] w fun e w' => e = .returned (.bool true) ∧ Below w.heap.size w w' := by
  have HO := Lib.hid (of_any (pc := 0) (sc := 0) (qc := 0) (AA := none) (na := 0) (acp := 0) (e := 0) (f := 0) (mat_nil w) (by omega) (by omega) (by omega))
  go_enter Try.func7, Try.ntmps7
  go_wp2_with fail
  refine HO.out.mono ?_
  rintro e w2 ⟨g, a, b, c, rfl, hir, hb⟩
  have HCO := Lib.hid (code_any hir.at 0 0 0 ⟨by omega, by omega⟩ ⟨by omega, by omega⟩ ⟨by omega, by omega⟩)
  have hc : codeR (inB (idsS [])) (hasB []) (mayB []) 0 0 0 = 3 := rfl
  rw [hc] at HCO
  have HB := Lib.hid hb
  clear hir hb hc HO
  go_wp2_with (go_at_call 9; refine HCO.out.mono ?_; rintro e w3 ⟨rfl, hb3⟩; have HB3 := Lib.hid (HB.out.trans (hb3.mono HB.out.size)); clear hb3)
  go_ret
  exact ⟨rfl, HB3.out⟩
end Go.Proofs.Ytbfhcphjeiojmaa.Lat
