/- What is wrong with a module's acts (check.actions). Condition: at most a thousand of each. What is wrong with a module's acts (check.actions). Condition: at most a thousand of each. -/
import Derived.Test.YtmcmmbkodllpkaaGreatDoorMg37
import Derived.Test.YtmcmmbkodllpkaaGreatDoorMg39
namespace Go.Proofs.YtmcmmbkodllpkaaGreatDoor.Chk

open Go.RowKit Go.PlainAid Go.Proofs.YtmcmmbkodllpkaaGreatDoor.Flt Go.Proofs.YtmcmmbkodllpkaaGreatDoor.Rdr Go.Proofs.YtmcmmbkodllpkaaGreatDoor.Win Go.Proofs.YtmcmmbkodllpkaaGreatDoor.Nee Go.Proofs.YtmcmmbkodllpkaaGreatDoor.Rel

open Go.Proofs.YtmcmmbkodllpkaaGreatDoor.Cel (own_slice own_keep own_base)

open Go.Proofs.YtmcmmbkodllpkaaGreatDoor.Prt (PT PartsAt)

open Go.Proofs.YtmcmmbkodllpkaaGreatDoor.Scd (SC ScdAt ScdAt.kept)

open Go.Proofs.YtmcmmbkodllpkaaGreatDoor.Pai (P2 PairsAt PairsAt.kept)

open Go.Proofs.YtmcmmbkodllpkaaGreatDoor.Act (A3 ActsAt ActsAt.kept I64 Wide)

open Go.Proofs.YtmcmmbkodllpkaaGreatDoor.Lat (LP LS LPAt LSAt MAt cparts_any cscheds_any PidPost IdsPost ZAt ZAt.kept zat_own)

set_option linter.unusedVariables false

set_option linter.unusedSimpArgs false

def IxRel (zs : List Int) (v : Int) (w : World) (i : Value) (wr : World) : Prop :=
  ∃ k : Nat, k ≤ zs.length ∧ i = .int .i64 (k : Int) ∧ inL (zs.take k) v = false ∧ w = wr
theorem inL_take {zs : List Int} {k : Nat} {v x : Int} (hx : zs[k]? = some x) (h : inL (zs.take k) v = false) : inL (zs.take (k + 1)) v = (x == v) := by
  unfold inL at h ⊢
  rw [List.take_add_one, hx, List.any_append, h]
  simp
theorem inL_of {zs : List Int} {k : Nat} {v : Int} (h : inL (zs.take k) v = true) : inL zs v = true := by
  unfold inL at *
  rw [List.any_eq_true] at h ⊢
  obtain ⟨x, hx, he⟩ := h
  exact ⟨x, List.mem_of_mem_take hx, he⟩
set_option maxRecDepth 4000 in
set_option maxHeartbeats 1600000 in
theorem index_any (A : Option Addr) (cap n : Nat) (zs : List Int) (v : Int) (w : World) (h : ZAt w A zs) (hln : zs.length = n) (hl : n ≤ 1000000) :
    Calls Tryz.prog 81 #[.slice A n cap, .int .i64 v] w fun e w' => ∃ i : Int, e = .returned (.int .i64 i) ∧ decide (0 ≤ i) = inL zs v ∧ w = w' := by
  have HA := Lib.hid hln
  have H := Lib.hid h
  obtain ⟨r, hr⟩ : ∃ r, inL zs v = r := ⟨_, rfl⟩
  have HR := Lib.hid hr
  rw [hr]
  clear h hln hr
  go_enter Tryz.func81, Tryz.ntmps81
  go_wp2_with fail
  go_loopw [8] (fun i wr => IxRel zs v w i wr) (fun i _ => n - (intOf i).toNat)
  case atStart => exact ⟨0, Nat.zero_le _, rfl, rfl, rfl⟩
  case round =>
    obtain ⟨k, hk, rfl, hno, rfl⟩ := hrel
    have HNO := Lib.hid hno
    have hka : k ≤ n := by rw [← HA.out]; exact hk
    clear hk hno
    by_cases hlt : k < n
    · obtain ⟨x, hx⟩ : ∃ x, zs[k]? = some x := ⟨_, List.getElem?_eq_getElem (by rw [HA.out]; exact hlt)⟩
      obtain ⟨ax, rfl, c1⟩ := H.out k x hx
      have HSN := Lib.hid (inL_take hx HNO.out)
      have hki : (0 : Int) ≤ k := by omega
      have hkb : (k : Int) < n := by omega
      have hk1 : IntKind.i64.wrap ((k : Int) + 1) = (k : Int) + 1 := IntWalk.i64_in _ (by omega)
      obtain ⟨q, hq⟩ : ∃ q, (x == v) = q := ⟨_, rfl⟩
      have hq' : (v == x) = q := by rw [← hq]; exact Bool.eq_iff_iff.mpr ⟨fun h => beq_iff_eq.mpr (beq_iff_eq.mp h).symm, fun h => beq_iff_eq.mpr (beq_iff_eq.mp h).symm⟩
      rw [hq] at HSN
      clear hx hq
      cases q with
      | true =>
        have HT : Hid (r = true) := by show _ = _; rw [← HR.out]; exact inL_of HSN.out
        go_wp2
        go_ret
        exact ⟨k, rfl, by rw [HT.out]; exact decide_eq_true hki, rfl⟩
      | false =>
        go_wp2
        go_roundw
        case rel => exact ⟨k + 1, by rw [HA.out]; omega, by go_num, HSN.out, rfl⟩
        case measure => simp [intOf]; omega
    · obtain rfl : n = k := by omega
      have HT : Hid (r = false) := by
        show _ = _
        have h := HNO.out
        rw [List.take_of_length_le (by rw [HA.out]; exact Nat.le_refl _)] at h
        rw [← HR.out]; exact h
      clear hlt
      go_wp2
      go_ret
      exact ⟨-1, rfl, by rw [HT.out]; rfl, rfl⟩
set_option maxRecDepth 4000 in
theorem contains_any (A : Option Addr) (cap n : Nat) (zs : List Int) (v : Int) (w : World) (h : ZAt w A zs) (hln : zs.length = n) (hl : n ≤ 1000000) :
    Calls Tryz.prog 61 #[.slice A n cap, .int .i64 v] w fun e w' => e = .returned (.bool (inL zs v)) ∧ w = w' := by
  have HI := Lib.hid (index_any A cap n zs v w h hln hl)
  obtain ⟨r, hr⟩ : ∃ r, inL zs v = r := ⟨_, rfl⟩
  rw [hr] at HI ⊢
  clear h hln hl hr
  go_enter Tryz.func61, Tryz.ntmps61
  go_wp2_with fail
  refine HI.out.mono ?_
  rintro e w2 ⟨i, rfl, hi, rfl⟩
  go_wp2
  go_ret
  exact ⟨rfl, rfl⟩
theorem less_cmp (x y : A3) : decide (Go.Proofs.YtmcmmbkodllpkaaGreatDoor.Srt.cmpA ⟨x.s, x.p, x.a⟩ ⟨y.s, y.p, y.a⟩ < 0) = lessA x y := by
  rw [Bool.eq_iff_iff]
  simp [Go.Proofs.YtmcmmbkodllpkaaGreatDoor.Srt.cmp_less, Go.Proofs.YtmcmmbkodllpkaaGreatDoor.Srt.lt, lessA]
set_option maxRecDepth 4000 in
theorem aless_any (x y : A3) (w : World) :
    Calls Tryz.prog 63 #[.agg #[.int .i64 x.s, .int .i64 x.p, .int .i64 x.a], .agg #[.int .i64 y.s, .int .i64 y.p, .int .i64 y.a]] w fun e w' => e = .returned (.bool (lessA x y)) ∧ Below w.heap.size w w' := by
  have hb : Below w.heap.size w ((w.alloc (.cells #[.int .i64 x.s, .int .i64 x.p, .int .i64 x.a] 63)).alloc (.cells #[.int .i64 y.s, .int .i64 y.p, .int .i64 y.a] 63)) := ((Below.refl _ _).alloc (Nat.le_refl _) _).alloc (by simp) _
  have HC := Lib.hid (Go.Proofs.YtmcmmbkodllpkaaGreatDoor.Srt.compare_any ⟨x.s, x.p, x.a⟩ ⟨y.s, y.p, y.a⟩ ((w.alloc (.cells #[.int .i64 x.s, .int .i64 x.p, .int .i64 x.a] 63)).alloc (.cells #[.int .i64 y.s, .int .i64 y.p, .int .i64 y.a] 63)))
  unfold Go.Proofs.YtmcmmbkodllpkaaGreatDoor.Srt.actC at HC
  dsimp only at HC
  have HB := Lib.hid hb
  obtain ⟨c, hc⟩ : ∃ c, Go.Proofs.YtmcmmbkodllpkaaGreatDoor.Srt.cmpA ⟨x.s, x.p, x.a⟩ ⟨y.s, y.p, y.a⟩ = c := ⟨_, rfl⟩
  have hd := less_cmp x y
  rw [hc] at HC hd
  rw [← hd]
  clear hb hc hd
  obtain ⟨d, hd⟩ : ∃ d, decide (c < 0) = d := ⟨_, rfl⟩
  rw [hd]
  go_enter Tryz.func63, Tryz.ntmps63
  go_wp2_with fail
  refine HC.out.mono ?_
  rintro e w2 ⟨rfl, hb2⟩
  have HB2 := Lib.hid (HB.out.trans (hb2.mono HB.out.size))
  clear hb2 HC
  go_wp2
  go_ret
  exact ⟨rfl, HB2.out⟩
theorem isact_any (n : Int) (w : World) : Calls Tryz.prog 62 #[.int .i64 n] w fun e w' => e = .returned (.bool (n == 1 || n == 2)) ∧ w = w' := by
  cases h1 : (n == 1) <;> cases h2 : (n == 2)
  all_goals
    go_enter Tryz.func62, Tryz.ntmps62
    go_wp2
    go_ret
    exact ⟨rfl, rfl⟩
end Go.Proofs.YtmcmmbkodllpkaaGreatDoor.Chk
namespace Go.Proofs.YtmcmmbkodllpkaaGreatDoor.Chk

open Go.RowKit Go.PlainAid Go.Proofs.YtmcmmbkodllpkaaGreatDoor.Flt Go.Proofs.YtmcmmbkodllpkaaGreatDoor.Rdr Go.Proofs.YtmcmmbkodllpkaaGreatDoor.Win Go.Proofs.YtmcmmbkodllpkaaGreatDoor.Nee Go.Proofs.YtmcmmbkodllpkaaGreatDoor.Rel

open Go.Proofs.YtmcmmbkodllpkaaGreatDoor.Cel (own_slice own_keep own_base)

open Go.Proofs.YtmcmmbkodllpkaaGreatDoor.Prt (PT PartsAt)

open Go.Proofs.YtmcmmbkodllpkaaGreatDoor.Scd (SC ScdAt ScdAt.kept)

open Go.Proofs.YtmcmmbkodllpkaaGreatDoor.Pai (P2 PairsAt PairsAt.kept)

open Go.Proofs.YtmcmmbkodllpkaaGreatDoor.Act (A3 ActsAt ActsAt.kept I64 Wide)

open Go.Proofs.YtmcmmbkodllpkaaGreatDoor.Lat (LP LS LPAt LSAt MAt cparts_any cscheds_any PidPost IdsPost ZAt ZAt.kept zat_own)

set_option linter.unusedVariables false

set_option linter.unusedSimpArgs false

theorem last_take {av : List A3} {k : Nat} {y : A3} (h : av[k]? = some y) : (av.take (k + 1)).getLast? = some y := by
  rw [List.take_add_one, h]
  simp
section

variable {w : World} {PA SA QA AA : Option Addr} {np pc ns sc nq qc na acp : Nat} {ps : List PT} {ss : List SC} {qs : List P2} {av : List A3} {e f : Int} {lp : List LP} {ls : List LS} {lq : List Go.Proofs.YtmcmmbkodllpkaaGreatDoor.Lat.P2}

def AmRel (n b : Nat) (cs : Array Value) (IA JA : Option Addr) (sids pids : List Int) (av : List A3) (q : KW) (w : World) (i : Value) (W : World) : Prop :=
  ∃ k : Nat, k ≤ n ∧ i = .int .i64 (k : Int) ∧ W.heap[b]? = some (.cells cs 28 (0, 0)) ∧ ZAt W IA sids ∧ ZAt W JA pids ∧ q = fbw (fun pre x => (b1A sids pids pre x, [])) (av.take k) (av.drop k) ∧ Names W ∧ Below w.heap.size w W
set_option maxRecDepth 8000 in
set_option maxHeartbeats 6400000 in
theorem actions_any (hn : Names w) (h : BMod w PA SA QA AA np ns nq na ps ss qs av) (hm : MAt w PA SA QA np ns nq lp ls lq) (hp : np ≤ 1000) (hs : ns ≤ 1000) (ha : na ≤ 9223372036854775807) :
    Calls Tryz.prog 42 #[.agg #[.int .u64 e, .int .i64 f, .slice PA np pc, .slice SA ns sc, .slice QA nq qc, .slice AA na acp]] w fun e w' => ∃ x, e = .returned x ∧ WrongK w' x (secAc (ss.map SC.id) (ps.map PT.id) av) ∧ Below w.heap.size w w' := by
  obtain ⟨cs, hcs⟩ : ∃ cs : Array Value, #[Value.int .u64 e, .int .i64 f, .slice PA np pc, .slice SA ns sc, .slice QA nq qc, .slice AA na acp] = cs := ⟨_, rfl⟩
  have hb0 : Below w.heap.size w (w.alloc (.cells cs 28)) := (Below.refl _ _).alloc (Nat.le_refl _) _
  have hx0 := heap_alloc_new w (.cells cs 28)
  obtain ⟨W1, hW1⟩ : ∃ W, w.alloc (.cells cs 28) = W := ⟨_, rfl⟩
  rw [hW1] at hb0 hx0
  obtain ⟨sids, hsids⟩ : ∃ ids, ss.map SC.id = ids := ⟨_, rfl⟩
  obtain ⟨pids, hpids⟩ : ∃ ids, ps.map PT.id = ids := ⟨_, rfl⟩
  rw [hsids, hpids]
  have HSL : Hid (sids.length = ns) := by show _ = _; rw [← hsids, List.length_map]; exact h.sl
  have HPL : Hid (pids.length = np) := by show _ = _; rw [← hpids, List.length_map]; exact h.pl
  have HLS : Hid (ls.map LS.id = sids) := by show _ = _; rw [← hsids]; exact link_s hm.s h.s (by rw [hm.sl, h.sl])
  have HLP : Hid (lp.map LP.id = pids) := by show _ = _; rw [← hpids]; exact link_p hm.p h.p (by rw [hm.pl, h.pl])
  have HLN : Hid (ls.length = ns) := hm.sl
  have HLM : Hid (lp.length = np) := hm.pl
  have HD0 : Hid (Below W1.heap.size W1 W1.drew) := ⟨rfl, rfl, rfl, Nat.le_refl _, fun _ _ => rfl⟩
  have HCS1 := Lib.hid (fun (W : World) (b : Below w.heap.size w W) => cscheds_any (pc := pc) (sc := sc) (qc := qc) (AA := AA) (na := na) (acp := acp) (e := e) (f := f) (hm.kept b) (by omega))
  have HCP1 := Lib.hid (fun (W : World) (b : Below w.heap.size w W) => cparts_any (pc := pc) (sc := sc) (qc := qc) (AA := AA) (na := na) (acp := acp) (e := e) (f := f) (hm.kept b) (by omega))
  obtain ⟨q, hq⟩ : ∃ q, fbw (fun pre x => (b1A sids pids pre x, [])) [] av = q := ⟨_, rfl⟩
  have HSS : Hid (∀ wx : World, Below W1.heap.size W1 wx → wx.cell? ⟨w.heap.size, 0, none⟩ = some (.int .u64 e) ∧ wx.cell? ⟨w.heap.size, 1, none⟩ = some (.int .i64 f) ∧ wx.cell? ⟨w.heap.size, 2, none⟩ = some (.slice PA np pc) ∧ wx.cell? ⟨w.heap.size, 3, none⟩ = some (.slice SA ns sc) ∧ wx.cell? ⟨w.heap.size, 4, none⟩ = some (.slice QA nq qc) ∧ wx.cell? ⟨w.heap.size, 5, none⟩ = some (.slice AA na acp)) := fun wx b => by
    have h2 := (b.block _ (lt_of_block hx0)).trans hx0
    rw [← hcs] at h2
    refine ⟨?_, ?_, ?_, ?_, ?_, ?_⟩ <;> rw [cell_of_row wx _ _ _ _ _ h2] <;> rfl
  have HK0 := Lib.hid (HSS.out _ HD0.out)
  obtain ⟨z0, z1, z2, z3, z4, z5⟩ := HK0.out
  have HM := Lib.hid h
  have HCS := Lib.hid hcs
  have HA : Hid (na ≤ 9223372036854775807) := ha
  have HP : Hid (np ≤ 1000) := hp
  have HS : Hid (ns ≤ 1000) := hs
  have HX := Lib.hid hx0
  have HN := Lib.hid hn
  have HB := Lib.hid hb0
  have HQ := Lib.hid hq
  rw [← hcs] at hW1
  have HW1 := Lib.hid hW1
  clear h hm hp hs ha hcs hb0 hx0 hW1 hq hn hsids hpids
  go_enter Tryz.func42, Tryz.ntmps42
  go_upto_region 1 with fail
  rw [HW1.out]
  go_region_held3 (fun wx => wx.cell? ⟨w.heap.size, 0, none⟩ = some (.int .u64 e) ∧ wx.cell? ⟨w.heap.size, 1, none⟩ = some (.int .i64 f) ∧ wx.cell? ⟨w.heap.size, 2, none⟩ = some (.slice PA np pc) ∧ wx.cell? ⟨w.heap.size, 3, none⟩ = some (.slice SA ns sc) ∧ wx.cell? ⟨w.heap.size, 4, none⟩ = some (.slice QA nq qc) ∧ wx.cell? ⟨w.heap.size, 5, none⟩ = some (.slice AA na acp))
    (first | exact HK3.out | exact HK2.out | exact HK0.out | (refine ⟨?_, ?_, ?_, ?_, ?_, ?_⟩ <;> assumption) | (go_keep; done))
    (first
      | (go_at_call 14; refine (HCS1.out _ (HB.out.trans (HD0.out.mono HB.out.size))).mono ?_; rintro e W2 ⟨V, rfl, ho, hb2⟩; obtain ⟨IA, ic, rfl⟩ := own_slice ho; have hmp : (ls.map fun x => Value.int .i64 x.id) = sids.map (Value.int .i64) := (by rw [← HLS.out, List.map_map]; rfl); rw [hmp] at ho; have hio := zat_own ho; rw [HLN.out]; have HIO := Lib.hid hio; have HB2 := Lib.hid (HD0.out.trans (hb2.mono HD0.out.size)); have HK2 := Lib.hid (HSS.out W2 HB2.out); clear hb2 ho hmp hio)
      | (go_at_call 12; refine (HCP1.out W2 (HB.out.trans (HB2.out.mono HB.out.size))).mono ?_; rintro e W3 ⟨V, rfl, ho, hb3⟩; obtain ⟨JA, jc, rfl⟩ := own_slice ho; have hmp : (lp.map fun x => Value.int .i64 x.id) = pids.map (Value.int .i64) := (by rw [← HLP.out, List.map_map]; rfl); rw [hmp] at ho; have hio := zat_own ho; rw [HLM.out]; have HJO := Lib.hid hio; have HIO3 := Lib.hid (HIO.out.kept hb3); have HB3 := Lib.hid (HB2.out.trans (hb3.mono HB2.out.size)); have HK3 := Lib.hid (HSS.out W3 HB3.out); clear hb3 ho hmp hio))
  all_goals
    have HBW := Lib.hid (HB.out.trans (HB3.out.mono HB.out.size))
    have HS0 : Hid (AmRel na w.heap.size cs IA JA sids pids av q w (.int .i64 0) W3) := ⟨0, Nat.zero_le _, rfl, (HB3.out.block _ (lt_of_block HX.out)).trans HX.out, HIO3.out, HJO.out, HQ.out.symm, HN.out.kept HBW.out, HBW.out⟩
    obtain ⟨y0, y1, y2, y3, y4, y5⟩ := HK3.out
    clear z0 z1 z2 z3 z4 z5 y0 y1 y2 y3 y4 HIO3 HJO HIO
    go_wp2_with fail
    go_loopw [15] (fun i W => AmRel na w.heap.size cs IA JA sids pids av q w i W) (fun i _ => na - (intOf i).toNat)
    case atStart => exact HS0.out
    case round =>
      rename World => W
      obtain ⟨k, hk, rfl, hbx, hz1, hz2, hqk, hn, hb⟩ := hrel
      have HBX := Lib.hid hbx
      have HZ1 := Lib.hid hz1
      have HZ2 := Lib.hid hz2
      have HQK := Lib.hid hqk
      have HN' := Lib.hid hn
      have HB' := Lib.hid hb
      clear hbx hz1 hz2 hqk hn hb HS0 y5
      by_cases hlt : k < na
      · obtain ⟨x, hx⟩ : ∃ x, av[k]? = some x := ⟨_, List.getElem?_eq_getElem (by rw [HM.out.al]; exact hlt)⟩
        obtain ⟨y, rfl, e0, e1, e2⟩ := (HM.out.kept HB'.out).a k x hx
        have HST := Lib.hid (fbw_step (fun pre x => (b1A sids pids pre x, [])) av k x hx)
        have HXK := Lib.hid hx
        have HLT := Lib.hid hlt
        have hki : (0 : Int) ≤ k := by omega
        have hkb : (k : Int) < na := by omega
        have HK1 : Hid (IntKind.i64.wrap ((k : Int) + 1) = (k : Int) + 1) := IntWalk.i64_in _ (by have := HA.out; omega)
        have hb4 : Below W.heap.size W (W.alloc (.cells #[.int .i64 x.s, .int .i64 x.p, .int .i64 x.a] 63)) := (Below.refl _ _).alloc (Nat.le_refl _) _
        have hx4 := heap_alloc_new W (.cells #[.int .i64 x.s, .int .i64 x.p, .int .i64 x.a] 63)
        clear hlt hx hk
        go_upto_region 5 with fail
        obtain ⟨W2', hW2⟩ : ∃ W2, W.alloc (.cells #[.int .i64 x.s, .int .i64 x.p, .int .i64 x.a] 63) = W2 := ⟨_, rfl⟩
        obtain ⟨Q, hQ⟩ : ∃ Q, W.heap.size = Q := ⟨_, rfl⟩
        rw [hW2] at hb4
        have HN2 := Lib.hid (HN'.out.kept hb4)
        have HBX2 := Lib.hid ((hb4.block _ (lt_of_block HBX.out)).trans HBX.out)
        have HB2' := Lib.hid (HB'.out.trans (hb4.mono HB'.out.size))
        have HZ12 := Lib.hid (HZ1.out.kept hb4)
        have HZ22 := Lib.hid (HZ2.out.kept hb4)
        rw [hW2, hQ] at hx4
        rw [hW2, hQ]
        have HXQ := Lib.hid hx4
        have HIX1 := Lib.hid (contains_any IA ic ns sids x.s W2' HZ12.out HSL.out (by have := HS.out; omega))
        have HIX2 := Lib.hid (contains_any JA jc np pids x.p W2' HZ22.out HPL.out (by have := HP.out; omega))
        have HIA := Lib.hid (isact_any x.a W2')
        have d0 := cell_of_row _ _ 0 _ _ _ hx4
        have d1 := cell_of_row _ _ 1 _ _ _ hx4
        have d2 := cell_of_row _ _ 2 _ _ _ hx4
        simp only [List.getElem?_toArray, List.getElem?_cons_zero, List.getElem?_cons_succ] at d0 d1 d2
        have hwrong : ∀ c : Nat, 1 ≤ c → c ≤ 18 → b1A sids pids (av.take k) x = c → ∀ (W' : World) (v : Value), IsFault W' v [(false, (k : Int))] c → WrongK W' v (secAc sids pids av) := fun c h1 h2 h3 W' v h4 => by
          have h5 : fbw (fun pre x => (b1A sids pids pre x, [])) [] av = (c, [(false, (k : Int))]) := by
            rw [HQ.out, HQK.out, HST.out, h3, if_neg (by omega)]
          unfold secAc
          rw [h5, if_neg (by dsimp only; omega)]
          exact .inr ⟨h1, h2, h4⟩
        have HWR := Lib.hid hwrong
        obtain ⟨c1, hc1⟩ : ∃ c, inL sids x.s = c := ⟨_, rfl⟩
        obtain ⟨c2, hc2⟩ : ∃ c, inL pids x.p = c := ⟨_, rfl⟩
        obtain ⟨c3, hc3⟩ : ∃ c, (x.a == 1 || x.a == 2) = c := ⟨_, rfl⟩
        rw [hc1] at HIX1
        rw [hc2] at HIX2
        rw [hc3] at HIA
        have HC1 := Lib.hid hc1
        have HC2 := Lib.hid hc2
        have HC3 := Lib.hid hc3
        clear hb4 hW2 hQ e0 e1 e2 HBX HZ1 HZ2 HN' HB' hx4 hwrong hc1 hc2 hc3
        cases c1 with
        | false =>
          have HC : Hid (b1A sids pids (av.take k) x = 10) := by show _ = _; unfold b1A; rw [HC1.out]; rfl
          go_wp2_with (first | (go_at_call 61; refine HIX1.out.mono ?_; rintro e W6 ⟨rfl, rfl⟩) | (go_at_call 55; refine (new_yes 10 (by omega) (by omega) _ HN2.out).mono ?_; rintro e W8 ⟨rfl, rfl⟩) | (go_at_call 57; refine (at_any (k : Int) _ [] 10 W2' rfl).mono ?_; rintro e W9 ⟨y9, rfl, hy9, hb9⟩; have HY9 := Lib.hid (HWR.out 10 (by omega) (by omega) HC.out W9 y9 hy9); have HB9 := Lib.hid (HB2'.out.trans (hb9.mono HB2'.out.size)); clear hy9 hb9))
          go_ret
          exact ⟨_, rfl, HY9.out, HB9.out⟩
        | true =>
          cases c2 with
          | false =>
            have HC : Hid (b1A sids pids (av.take k) x = 10) := by show _ = _; unfold b1A; rw [HC1.out, HC2.out]; rfl
            go_wp2_with (first | (go_at_call 61; refine HIX1.out.mono ?_; rintro e W6 ⟨rfl, rfl⟩) | (go_at_call 61; refine HIX2.out.mono ?_; rintro e W6 ⟨rfl, rfl⟩) | (go_at_call 55; refine (new_yes 10 (by omega) (by omega) _ HN2.out).mono ?_; rintro e W8 ⟨rfl, rfl⟩) | (go_at_call 57; refine (at_any (k : Int) _ [] 10 W2' rfl).mono ?_; rintro e W9 ⟨y9, rfl, hy9, hb9⟩; have HY9 := Lib.hid (HWR.out 10 (by omega) (by omega) HC.out W9 y9 hy9); have HB9 := Lib.hid (HB2'.out.trans (hb9.mono HB2'.out.size)); clear hy9 hb9))
            go_ret
            exact ⟨_, rfl, HY9.out, HB9.out⟩
          | true =>
            cases c3 with
            | false =>
              have HC : Hid (b1A sids pids (av.take k) x = 6) := by show _ = _; unfold b1A; rw [HC1.out, HC2.out, HC3.out]; rfl
              go_wp2_with (first | (go_at_call 61; refine HIX1.out.mono ?_; rintro e W6 ⟨rfl, rfl⟩) | (go_at_call 61; refine HIX2.out.mono ?_; rintro e W6 ⟨rfl, rfl⟩) | (go_at_call 62; refine HIA.out.mono ?_; rintro e W7 ⟨rfl, rfl⟩) | (go_at_call 55; refine (new_yes 6 (by omega) (by omega) _ HN2.out).mono ?_; rintro e W8 ⟨rfl, rfl⟩) | (go_at_call 57; refine (at_any (k : Int) _ [] 6 W2' rfl).mono ?_; rintro e W9 ⟨y9, rfl, hy9, hb9⟩; have HY9 := Lib.hid (HWR.out 6 (by omega) (by omega) HC.out W9 y9 hy9); have HB9 := Lib.hid (HB2'.out.trans (hb9.mono HB2'.out.size)); clear hy9 hb9))
              go_ret
              exact ⟨_, rfl, HY9.out, HB9.out⟩
            | true =>
              have HBA : Hid (b1A sids pids (av.take k) x = match (av.take k).getLast? with | some y => if lessA y x then 0 else 9 | none => 0) := by show _ = _; unfold b1A; rw [HC1.out, HC2.out, HC3.out]; rfl
              go_upto_region 11 with (first | (go_at_call 61; refine HIX1.out.mono ?_; rintro e W6 ⟨rfl, rfl⟩) | (go_at_call 61; refine HIX2.out.mono ?_; rintro e W6 ⟨rfl, rfl⟩) | (go_at_call 62; refine HIA.out.mono ?_; rintro e W7 ⟨rfl, rfl⟩))
              have HREL : Hid (b1A sids pids (av.take k) x = 0 → ∀ W', Below W2'.heap.size W2' W' → AmRel na w.heap.size cs IA JA sids pids av q w (.int .i64 ((k + 1 : Nat) : Int)) W') := fun h0 W' b => by
                refine ⟨k + 1, HLT.out, rfl, (b.block _ (lt_of_block HBX2.out)).trans HBX2.out, HZ12.out.kept b, HZ22.out.kept b, ?_, HN2.out.kept b, HB2'.out.trans (b.mono HB2'.out.size)⟩
                rw [HQK.out, HST.out, if_pos h0]
              have hk1 := HK1.out
              rcases Nat.eq_zero_or_pos k with hz | hz
              · have hz0 : decide ((0 : Int) < (k : Int)) = false := decide_eq_false (by omega)
                have hz1 : decide (0 < k) = false := decide_eq_false (by omega)
                have HC : Hid (b1A sids pids (av.take k) x = 0) := by show _ = _; rw [HBA.out, hz]; rfl
                clear hz
                go_quiet (fail)
                go_wp2
                go_roundw
                case rel => exact HREL.out HC.out _ ⟨rfl, rfl, rfl, Nat.le_refl _, fun _ _ => rfl⟩
                case measure => have := HLT.out; simp [intOf]; omega
              · obtain ⟨j, hkj⟩ : ∃ j, k = j + 1 := ⟨k - 1, by omega⟩
                obtain ⟨z, hy⟩ : ∃ z, av[j]? = some z := ⟨_, List.getElem?_eq_getElem (by rw [HM.out.al]; have := HLT.out; omega)⟩
                have HEY : Hid (∀ W, Below w.heap.size w W → W.cell? (y.add (j * 3)) = some (.int .i64 z.s) ∧ W.cell? ⟨(y.add (j * 3)).block, (y.add (j * 3)).off + 1, none⟩ = some (.int .i64 z.p) ∧ W.cell? ⟨(y.add (j * 3)).block, (y.add (j * 3)).off + 2, none⟩ = some (.int .i64 z.a)) := fun W b => by
                  obtain ⟨ay, hay, g1, g2, g3⟩ := (HM.out.kept b).a j z hy
                  obtain rfl := Option.some.inj hay
                  exact ⟨g1, g2, g3⟩
                have hly : (av.take k).getLast? = some z := by rw [hkj]; exact last_take hy
                have HBA2 : Hid (b1A sids pids (av.take k) x = if lessA z x then 0 else 9) := by show _ = _; rw [HBA.out, hly]
                have HLS2 := Lib.hid (fun W => aless_any z x W)
                obtain ⟨s2, p2, a2⟩ := z
                obtain ⟨c4, hc4⟩ : ∃ c, lessA ⟨s2, p2, a2⟩ x = c := ⟨_, rfl⟩
                rw [hc4] at HBA2 HLS2
                have HX5 : Hid (∀ W', Below W2'.heap.size W2' W' → W'.cell? ⟨w.heap.size, 5, none⟩ = some (.slice (some y) na acp) ∧ W'.cell? (y.add (j * 3)) = some (.int .i64 s2) ∧ W'.cell? ⟨(y.add (j * 3)).block, (y.add (j * 3)).off + 1, none⟩ = some (.int .i64 p2) ∧ W'.cell? ⟨(y.add (j * 3)).block, (y.add (j * 3)).off + 2, none⟩ = some (.int .i64 a2) ∧ W'.cell? ⟨Q, 0, none⟩ = some (.int .i64 x.s) ∧ W'.cell? ⟨Q, 1, none⟩ = some (.int .i64 x.p) ∧ W'.cell? ⟨Q, 2, none⟩ = some (.int .i64 x.a)) := fun W' b => by
                  have h1 := HEY.out W' (HB2'.out.trans (b.mono HB2'.out.size))
                  have h2 := (b.block _ (lt_of_block HBX2.out)).trans HBX2.out
                  rw [← HCS.out] at h2
                  have h3 := (b.block _ (lt_of_block HXQ.out)).trans HXQ.out
                  refine ⟨?_, h1.1, h1.2.1, h1.2.2, ?_, ?_, ?_⟩
                  · rw [cell_of_row W' _ _ _ _ _ h2]; rfl
                  · rw [cell_of_row W' _ _ _ _ _ h3]; rfl
                  · rw [cell_of_row W' _ _ _ _ _ h3]; rfl
                  · rw [cell_of_row W' _ _ _ _ _ h3]; rfl
                have HD2 : Hid (Below W2'.heap.size W2' W2'.drew) := ⟨rfl, rfl, rfl, Nat.le_refl _, fun _ _ => rfl⟩
                have HKA := Lib.hid (HX5.out _ HD2.out)
                have hkk := HX5.out _ (Below.refl _ W2')
                obtain ⟨n0, n1, n2, n3, n4, n5, n6⟩ := hkk
                have tkk : decide ((0 : Int) < (k : Int)) = true := decide_eq_true (by omega)
                have tkk2 : decide (0 < k) = true := decide_eq_true (by omega)
                have hj1 : IntKind.i64.wrap ((k : Int) - 1) = (j : Int) := by rw [show (k : Int) - 1 = (j : Int) by omega]; exact IntWalk.i64_in _ (by have := HA.out; have := HLT.out; omega)
                have hj0 : (0 : Int) ≤ (j : Int) := by omega
                have hja : (j : Int) < na := by have := HLT.out; omega
                clear hz hkj hy hly hc4 d0 d1 d2
                cases c4
                all_goals
                  go_region_held3 (fun wx => wx.cell? ⟨w.heap.size, 5, none⟩ = some (.slice (some y) na acp) ∧ wx.cell? (y.add (j * 3)) = some (.int .i64 s2) ∧ wx.cell? ⟨(y.add (j * 3)).block, (y.add (j * 3)).off + 1, none⟩ = some (.int .i64 p2) ∧ wx.cell? ⟨(y.add (j * 3)).block, (y.add (j * 3)).off + 2, none⟩ = some (.int .i64 a2) ∧ wx.cell? ⟨Q, 0, none⟩ = some (.int .i64 x.s) ∧ wx.cell? ⟨Q, 1, none⟩ = some (.int .i64 x.p) ∧ wx.cell? ⟨Q, 2, none⟩ = some (.int .i64 x.a))
                    (first | exact HKP.out | exact HKA.out | (refine ⟨?_, ?_, ?_, ?_, ?_, ?_, ?_⟩ <;> assumption) | (go_keep; done))
                    (first
                      | (go_at_call 63; refine (HLS2.out _).mono ?_; rintro e W6 ⟨rfl, hb6⟩; have HB6 := Lib.hid (HD2.out.trans (hb6.mono HD2.out.size)); have HKP := Lib.hid (HX5.out W6 HB6.out); clear hb6))
                · have HC : Hid (b1A sids pids (av.take k) x = 9) := by show _ = _; rw [HBA2.out]; rfl
                  have HN6 := Lib.hid (HN2.out.kept HB6.out)
                  have HBW6 := Lib.hid (HB2'.out.trans (HB6.out.mono HB2'.out.size))
                  go_wp2_with (first | (go_at_call 55; refine (new_yes 9 (by omega) (by omega) _ HN6.out).mono ?_; rintro e W8 ⟨rfl, rfl⟩) | (go_at_call 57; refine (at_any (k : Int) _ [] 9 W6 rfl).mono ?_; rintro e W9 ⟨y9, rfl, hy9, hb9⟩; have HY9 := Lib.hid (HWR.out 9 (by omega) (by omega) HC.out W9 y9 hy9); have HB9 := Lib.hid (HBW6.out.trans (hb9.mono HBW6.out.size)); clear hy9 hb9))
                  go_ret
                  exact ⟨_, rfl, HY9.out, HB9.out⟩
                · have HC : Hid (b1A sids pids (av.take k) x = 0) := by show _ = _; rw [HBA2.out]; rfl
                  go_wp2
                  go_roundw
                  case rel => exact HREL.out HC.out _ HB6.out
                  case measure => have := HLT.out; simp [intOf]; omega
      · obtain rfl : na = k := by omega
        have x5 := cell_of_row _ _ 5 _ _ _ HBX.out
        rw [← HCS.out] at x5
        simp only [List.getElem?_toArray, List.getElem?_cons_zero, List.getElem?_cons_succ] at x5
        have HMN := Lib.hid (many_any na 0 512 W HN'.out)
        have HSP : Hid (secAc sids pids av = manyM na 0 512) := by
          have h1 : fbw (fun pre x => (b1A sids pids pre x, [])) [] av = (0, []) := by
            have h2 := HQK.out
            have hpl := HM.out.al
            rw [← hpl, fbw_end] at h2
            rw [HQ.out, h2]
          show secAc sids pids av = _
          unfold secAc
          rw [h1, if_pos rfl, HM.out.al]
        clear hlt hk
        go_wp2_with (go_at_call 58; refine HMN.out.mono ?_; rintro e W5 ⟨y5, rfl, hy5, rfl⟩; have HY5 := Lib.hid hy5; clear hy5)
        go_ret
        exact ⟨_, rfl, by rw [HSP.out]; exact HY5.out, HB'.out⟩
end

end Go.Proofs.YtmcmmbkodllpkaaGreatDoor.Chk
