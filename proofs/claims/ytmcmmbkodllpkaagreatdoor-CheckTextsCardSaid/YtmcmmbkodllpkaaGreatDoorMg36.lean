/- What is wrong with a schedule, and with a module's (check.schedule, check.schedules). Condition: at most a thousand schedules, of four hundred windows each. What is wrong with a module's schedules (check.schedules); ids av rows. Condition: at most a thousand schedules, of four hundred windows each. -/
import Derived.Test.YtmcmmbkodllpkaaGreatDoorMg35
namespace Go.Proofs.YtmcmmbkodllpkaaGreatDoor.Chk

open Go.RowKit Go.PlainAid Go.Proofs.YtmcmmbkodllpkaaGreatDoor.Flt Go.Proofs.YtmcmmbkodllpkaaGreatDoor.Rdr Go.Proofs.YtmcmmbkodllpkaaGreatDoor.Win Go.Proofs.YtmcmmbkodllpkaaGreatDoor.Nee

open Go.Proofs.YtmcmmbkodllpkaaGreatDoor.Cel (own_slice own_keep own_base)

open Go.Proofs.YtmcmmbkodllpkaaGreatDoor.Prt (PT)

open Go.Proofs.YtmcmmbkodllpkaaGreatDoor.Scd (SC ScdAt ScdAt.kept WideS scC rgS rgS_le rgS_in rowB lastS lastS_snoc sright_any)

open Go.Proofs.YtmcmmbkodllpkaaGreatDoor.Pai (P2)

open Go.Proofs.YtmcmmbkodllpkaaGreatDoor.Act (A3 ActsAt ActsAt.kept I64 Wide)

set_option linter.unusedVariables false

set_option linter.unusedSimpArgs false

theorem wrong_of {w : World} {x : Value} {k : Nat} {a : Int} (h : WrongA w x k a) : WrongK w x (if k = 0 then (0, []) else (k, [(false, a)])) := by
  rcases h with ⟨rfl, _, rfl⟩ | ⟨h1, h2, h3⟩
  · rw [if_pos rfl]; exact .inl ⟨rfl, rfl⟩
  · rw [if_neg (by omega)]; exact .inr ⟨h1, h2, h3⟩
theorem wrongA_iface {w : World} {x : Value} {k : Nat} {a : Int} (h : WrongA w x k a) (hk : k ≠ 0) : ∃ u y, x = .iface u y := by
  rcases h with ⟨h, _⟩ | ⟨_, _, g, y, rfl, _⟩
  · exact absurd h hk
  · exact ⟨_, _, rfl⟩
theorem wrongK_iface {w : World} {x : Value} {q : KW} (h : WrongK w x q) (hk : q.1 ≠ 0) : ∃ u y, x = .iface u y := by
  rcases h with ⟨h, _⟩ | ⟨_, _, h⟩
  · exact absurd h hk
  · obtain ⟨k, ws⟩ := q
    cases ws with
    | nil => exact ⟨_, _, h⟩
    | cons b ws =>
      obtain ⟨b1, b2⟩ := b
      obtain ⟨g, y, rfl, _⟩ := h
      exact ⟨_, _, rfl⟩
theorem chkW_le' (ids : List Int) (fr : Int) : ∀ (l : List A3) (ah : A3) (i : Nat), (chkW ids fr ah i l).1 ≤ 18
  | [], _, _ => by simp [chkW]
  | x :: l, ah, i => by
    unfold chkW
    split
    · exact chkW_le' ids fr l _ _
    · exact bad1_le ids fr ah x
set_option maxRecDepth 8000 in
set_option maxHeartbeats 3200000 in
theorem schedule_any (x : SC) (B C : Option Addr) (cb cc : Nat) (last : Int) (I : Option Addr) (li ci : Nat) (ids : List Int) (w : World) (hn : Names w) (hI : ∀ W, Below w.heap.size w W → IntsBelow W.heap.size W (.slice I li ci) ids) (hids : ids.length ≤ 1099511627776)
    (hB : ActsAt w B x.ws) (hC : ActsAt w C x.ns) (hwx : WideS x) (hlb : x.ws.length ≤ 400) (hlc : x.ns.length ≤ 9223372036854775807) :
    Calls Tryz.prog 59 #[.agg #[.int .i64 x.id, .int .i64 x.fr, .slice B x.ws.length cb, .slice C x.ns.length cc], .int .i64 last, .slice I li ci] w fun e w' => ∃ y, e = .returned y ∧ WrongK w' y (oneS ids last x) ∧ Below w.heap.size w w' := by
  have hb0 : Below w.heap.size w (w.alloc (.cells #[.int .i64 x.id, .int .i64 x.fr, .slice B x.ws.length cb, .slice C x.ns.length cc] 49)) := (Below.refl _ _).alloc (Nat.le_refl _) _
  have hx0 := heap_alloc_new w (.cells #[.int .i64 x.id, .int .i64 x.fr, .slice B x.ws.length cb, .slice C x.ns.length cc] 49)
  obtain ⟨W1, hW1⟩ : ∃ W, w.alloc (.cells #[.int .i64 x.id, .int .i64 x.fr, .slice B x.ws.length cb, .slice C x.ns.length cc] 49) = W := ⟨_, rfl⟩
  rw [hW1] at hb0 hx0
  have HX := Lib.hid hx0
  have HB := Lib.hid hb0
  have HN := Lib.hid hn
  have HRI := Lib.hid (sright_any x B cb C cc W1 hwx.1 (hB.kept hb0) (hC.kept hb0) (fun y hy => (hwx.2.1 y hy).1) (fun y hy => (hwx.2.2 y hy).1) (by unfold maxLen; omega) (by unfold maxLen; omega))
  obtain ⟨r, hr⟩ : ∃ r, rgS x = r := ⟨_, rfl⟩
  have HRL : Hid (r ≤ 18) := by show _ ≤ _; rw [← hr]; exact rgS_le x
  have HW1 := Lib.hid hW1
  have HRR := Lib.hid hr
  unfold scC at HRI
  rw [hr] at HRI
  have HBX : Hid (∀ (o : Nat) (v : Value), (#[Value.int .i64 x.id, .int .i64 x.fr, .slice B x.ws.length cb, .slice C x.ns.length cc] : Array Value)[o]? = some v → ∀ W, Below W1.heap.size W1 W → W.cell? ⟨w.heap.size, o, none⟩ = some v) := fun o v hv W b => by
    rw [cell_of_row W _ o _ _ _ ((b.block _ (lt_of_block hx0)).trans hx0)]; exact hv
  by_cases hr0 : r = 0
  · subst hr0
    by_cases hle : x.id ≤ last
    · have t1 : decide (x.id ≤ last) = true := decide_eq_true hle
      have HO : Hid (oneS ids last x = (9, [])) := by show _ = _; unfold oneS; rw [hr, if_pos rfl, if_pos hle]
      clear hW1 hb0 hr hle hwx hB hC
      go_enter Tryz.func59, Tryz.ntmps59
      go_upto_region 1 with fail
      rw [HW1.out]
      go_wp2_with ((with_reducible show wpList _ _ _ _ _ _); refine wpList_load_row rfl 49 (.tmp 3) rfl w.heap.size rfl 49 _ (0, 0) _ hx0 Tryz.underlying49 rfl (by kernel_rfl) ?_)
      refine HRI.out.mono ?_
      rintro e W2 ⟨rfl, hb2⟩
      have HB2 := Lib.hid (HB.out.trans (hb2.mono HB.out.size))
      have c0 := HBX.out 0 _ rfl W2 hb2
      have HNW := Lib.hid (new_yes 9 (by omega) (by omega) W2 (HN.out.kept HB2.out))
      clear hb2 hx0
      go_wp2_with (go_at_call 55; refine HNW.out.mono ?_; rintro e W4 ⟨rfl, rfl⟩)
      go_ret
      exact ⟨_, rfl, by rw [HO.out]; exact .inr ⟨by decide, by decide, rfl⟩, HB2.out⟩
    · have t1 : decide (x.id ≤ last) = false := decide_eq_false hle
      obtain ⟨id, fr, ws, ns⟩ := x
      obtain ⟨hi1, hi2, hi3, hi4, hi5, hi6⟩ := rgS_in hr
      dsimp only at hi1 hi2 hi3 hi4 hi5 hi6 hB hC hwx hlb hlc hle t1 HBX hx0 HX HRI hW1 HW1
      obtain ⟨n, rfl⟩ := Int.eq_ofNat_of_zero_le (show 0 ≤ fr by omega)
      have hnum : ∀ y ∈ ws, Num y := fun y hy => (num_of (hi4 y hy)).1
      have hnns : ∀ y ∈ ns, Num y := fun y hy => (num_of (hi6 y hy)).1
      have hn1 : 1 ≤ n := by omega
      have hn2 : n ≤ 1048576 := by omega
      have HCK := Lib.hid (fun (W : World) (b : Below w.heap.size w W) => check_any id n B cb ws C ns.length cc I li ci ids W (hn.kept b) (hI W b) (hB.kept b) hwx.2.1 ⟨by omega, by omega⟩ (by omega) hids)
      have HNC := Lib.hid (fun (W : World) (b : Below w.heap.size w W) => ncheck_any id B ws.length cb ns C cc I li ci ids (ticksL (ownT (n : Int) ws) 0 n) n W (hn.kept b) (hI W b) (hC.kept b) hnns hlc hids (word_at id n B C ws cb ns.length cc W (hB.kept b) hnum ⟨hn1, hn2⟩ hlb) (ticks_len _ _ _) hn1 hn2)
      obtain ⟨q, hq⟩ : ∃ q, chkW ids (n : Int) ⟨0, 0, 0⟩ 0 ws = q := ⟨_, rfl⟩
      obtain ⟨q2, hq2⟩ : ∃ q, chkN ids (ticksL (ownT (n : Int) ws) 0 n) n ⟨0, 0, 0⟩ 0 ns = q := ⟨_, rfl⟩
      rw [hq] at HCK
      rw [hq2] at HNC
      have HO : Hid (oneS ids last ⟨id, (n : Int), ws, ns⟩ = if q.1 = 0 then (if q2.1 = 0 then (0, []) else (q2.1, [(false, q2.2)])) else (q.1, [(false, q.2)])) := by
        show _ = _
        unfold oneS
        rw [hr, if_pos rfl, if_neg hle]
        unfold w1S
        dsimp only
        rw [Int.toNat_natCast, hq, hq2]
        by_cases h1 : q.1 = 0
        · rw [if_pos h1, if_pos h1]
        · rw [if_neg h1, if_neg h1, if_neg h1]
      obtain ⟨k1, a1⟩ := q
      obtain ⟨k2, a2⟩ := q2
      dsimp only at HO HCK HNC
      clear hW1 hb0 hr hle hwx hB hC hnum hnns hi1 hi2 hi3 hi4 hi5 hi6 hq hq2 hn hI hn1 hn2
      go_enter Tryz.func59, Tryz.ntmps59
      go_upto_region 1 with fail
      rw [HW1.out]
      go_wp2_with ((with_reducible show wpList _ _ _ _ _ _); refine wpList_load_row rfl 49 (.tmp 3) rfl w.heap.size rfl 49 _ (0, 0) _ hx0 Tryz.underlying49 rfl (by kernel_rfl) ?_)
      refine HRI.out.mono ?_
      rintro e W2 ⟨rfl, hb2⟩
      have HB2 := Lib.hid (HB.out.trans (hb2.mono HB.out.size))
      have HBB2 := Lib.hid hb2
      have c0 := HBX.out 0 _ rfl W2 hb2
      have c1 := HBX.out 1 _ rfl W2 hb2
      have c2 := HBX.out 2 _ rfl W2 hb2
      have c3 := HBX.out 3 _ rfl W2 hb2
      clear hb2 hx0
      go_wp2_with fail
      refine (HCK.out W2 HB2.out).mono ?_
      rintro e W3 ⟨x3, rfl, hx3, hb3⟩
      have HB3 := Lib.hid (HB2.out.trans (hb3.mono HB2.out.size))
      have hbb3 := HBB2.out.trans (hb3.mono HBB2.out.size)
      have c0 := HBX.out 0 _ rfl W3 hbb3
      have c1 := HBX.out 1 _ rfl W3 hbb3
      have c2 := HBX.out 2 _ rfl W3 hbb3
      have c3 := HBX.out 3 _ rfl W3 hbb3
      by_cases hk1 : k1 = 0
      · subst hk1
        rcases hx3 with ⟨-, -, rfl⟩ | ⟨h, -, -⟩
        · rw [if_pos rfl] at HO
          clear hb3 hbb3
          go_wp2_with fail
          refine (HNC.out W3 HB3.out).mono ?_
          rintro e W4 ⟨x4, rfl, hx4, hb4⟩
          have HX4 := Lib.hid (wrong_of hx4)
          have HB4 := Lib.hid (HB3.out.trans (hb4.mono HB3.out.size))
          clear hx4 hb4
          go_wp2
          go_ret
          exact ⟨_, rfl, by rw [HO.out]; exact HX4.out, HB4.out⟩
        · omega
      · rw [if_neg hk1] at HO
        obtain ⟨u, y, rfl⟩ := wrongA_iface hx3 hk1
        have hx4 := wrong_of hx3
        rw [if_neg hk1] at hx4
        have HX4 := Lib.hid hx4
        clear hx3 hx4 hk1 hb3 hbb3
        go_wp2
        go_ret
        exact ⟨_, rfl, by rw [HO.out]; exact HX4.out, HB3.out⟩
  · have t0 : ((r : Int) == 0) = false := by simp [hr0]
    have t0' : ((r : Int) != 0) = true := by simp [hr0]
    have HO : Hid (oneS ids last x = (r, [])) := by show _ = _; unfold oneS; rw [hr, if_neg hr0]
    have HR1 : Hid (1 ≤ r) := by show _ ≤ _; omega
    clear hW1 hb0 hr hr0 hwx hB hC
    go_enter Tryz.func59, Tryz.ntmps59
    go_upto_region 1 with fail
    rw [HW1.out]
    go_wp2_with ((with_reducible show wpList _ _ _ _ _ _); refine wpList_load_row rfl 49 (.tmp 3) rfl w.heap.size rfl 49 _ (0, 0) _ hx0 Tryz.underlying49 rfl (by kernel_rfl) ?_)
    refine HRI.out.mono ?_
    rintro e W2 ⟨rfl, hb2⟩
    have HB2 := Lib.hid (HB.out.trans (hb2.mono HB.out.size))
    have HNW := Lib.hid (new_yes r HR1.out HRL.out W2 (HN.out.kept HB2.out))
    clear hb2 hx0
    go_wp2_with (go_at_call 55; refine HNW.out.mono ?_; rintro e W4 ⟨rfl, rfl⟩)
    go_ret
    exact ⟨_, rfl, by rw [HO.out]; exact .inr ⟨HR1.out, HRL.out, rfl⟩, HB2.out⟩
end Go.Proofs.YtmcmmbkodllpkaaGreatDoor.Chk
namespace Go.Proofs.YtmcmmbkodllpkaaGreatDoor.Chk

open Go.RowKit Go.PlainAid Go.Proofs.YtmcmmbkodllpkaaGreatDoor.Flt Go.Proofs.YtmcmmbkodllpkaaGreatDoor.Rdr Go.Proofs.YtmcmmbkodllpkaaGreatDoor.Win Go.Proofs.YtmcmmbkodllpkaaGreatDoor.Nee

open Go.Proofs.YtmcmmbkodllpkaaGreatDoor.Cel (own_slice own_keep own_base)

open Go.Proofs.YtmcmmbkodllpkaaGreatDoor.Prt (PT PartsAt)

open Go.Proofs.YtmcmmbkodllpkaaGreatDoor.Scd (SC ScdAt ScdAt.kept WideS scC rgS rgS_le rgS_in rowB lastS lastS_snoc sright_any)

open Go.Proofs.YtmcmmbkodllpkaaGreatDoor.Pai (P2)

open Go.Proofs.YtmcmmbkodllpkaaGreatDoor.Act (A3 ActsAt ActsAt.kept I64 Wide)

open Go.Proofs.YtmcmmbkodllpkaaGreatDoor.Lat (LP LS LPAt LSAt MAt cparts_any cscheds_any PidPost IdsPost)

set_option linter.unusedVariables false

set_option linter.unusedSimpArgs false

theorem ints_own {w : World} {B n c : Nat} {A : Option Addr} {ids : List Int} (h : w.ownsRow B 3 1 (.slice A n c) n (ids.map (Value.int .i64))) : IntsBelow w.heap.size w (.slice A n c) ids := by
  have hl : ids.length = n := by have := h.1; rw [List.length_map] at this; omega
  rcases h.2 with ⟨e, h0⟩ | ⟨g, cap, cur, e, _⟩
  · injection e with e1 e2 e3
    subst e1 e3
    have : ids = [] := List.length_eq_zero_iff.1 (by omega)
    subst this
    exact .inl ⟨by rw [e2], rfl⟩
  · have h1 := h
    have hlt := h.lt g (by rw [e]; rfl)
    rw [e] at h1
    injection e with e1 _ _
    refine .inr ⟨⟨g, 0, none⟩, c, by rw [e1, hl], fun _ => hlt.2, fun j hj => ?_⟩
    have := h1.cellAt j (by omega)
    rw [List.getElem?_map, List.getElem?_eq_getElem hj] at this
    have e2 : (⟨g, 0, none⟩ : Addr).add j = ⟨g, j, none⟩ := by cases j <;> simp [Addr.add]
    rw [e2, this]
    simp [List.getD, List.getElem?_eq_getElem hj]
theorem link_p {w : World} {A : Option Addr} {l : List LP} {ps : List PT} (h1 : LPAt w A l) (h2 : PartsAt w A ps) (hl : l.length = ps.length) : l.map LP.id = ps.map PT.id := by
  apply List.ext_getElem?
  intro i
  rw [List.getElem?_map, List.getElem?_map]
  by_cases hi : i < l.length
  · obtain ⟨y, hy, c1, -⟩ := h1 i _ (List.getElem?_eq_getElem hi)
    obtain ⟨y2, B, c, hy2, c2, -⟩ := h2 i _ (List.getElem?_eq_getElem (by omega))
    rw [hy] at hy2
    obtain rfl := Option.some.inj hy2
    rw [c1] at c2
    rw [List.getElem?_eq_getElem hi, List.getElem?_eq_getElem (by omega)]
    injection c2 with c3
    injection c3 with c4 c5
    simp [c5]
  · rw [List.getElem?_eq_none (by omega), List.getElem?_eq_none (by omega)]
    rfl
theorem link_s {w : World} {A : Option Addr} {l : List LS} {ss : List SC} (h1 : LSAt w A l) (h2 : ScdAt w A ss) (hl : l.length = ss.length) : l.map LS.id = ss.map SC.id := by
  apply List.ext_getElem?
  intro i
  rw [List.getElem?_map, List.getElem?_map]
  by_cases hi : i < l.length
  · obtain ⟨y, hy, c1, -⟩ := h1 i _ (List.getElem?_eq_getElem hi)
    obtain ⟨y2, B, cb, C, cc, hy2, c2, -⟩ := h2 i _ (List.getElem?_eq_getElem (by omega))
    rw [hy] at hy2
    obtain rfl := Option.some.inj hy2
    rw [c1] at c2
    rw [List.getElem?_eq_getElem hi, List.getElem?_eq_getElem (by omega)]
    injection c2 with c3
    injection c3 with c4 c5
    simp [c5]
  · rw [List.getElem?_eq_none (by omega), List.getElem?_eq_none (by omega)]
    rfl
section

variable {w : World} {PA SA QA AA : Option Addr} {np pc ns sc nq qc na acp : Nat} {ps : List PT} {ss : List SC} {qs : List P2} {av : List A3} {e f : Int} {lp : List LP} {ls : List LS} {lq : List Go.Proofs.YtmcmmbkodllpkaaGreatDoor.Lat.P2}

def SmRel (n b : Nat) (cs : Array Value) (ids : List Int) (V : Value) (ss : List SC) (q : KW) (w : World) (L i : Value) (W : World) : Prop :=
  ∃ k : Nat, k ≤ n ∧ i = .int .i64 (k : Int) ∧ L = .int .i64 (lastS (ss.take k)) ∧ W.heap[b]? = some (.cells cs 28 (0, 0)) ∧ IntsBelow W.heap.size W V ids ∧ q = fbw (fun pre x => oneS ids (lastS pre) x) (ss.take k) (ss.drop k) ∧ Names W ∧ Below w.heap.size w W
set_option maxRecDepth 8000 in
set_option maxHeartbeats 3200000 in
theorem schedules_any (hn : Names w) (h : BMod w PA SA QA AA np ns nq na ps ss qs av) (hm : MAt w PA SA QA np ns nq lp ls lq) (hp : np ≤ 1000) (hs : ns ≤ 1000) (hw : ∀ x ∈ ss, x.ws.length ≤ 400 ∧ x.ns.length ≤ 9223372036854775807) :
    Calls Tryz.prog 40 #[.agg #[.int .u64 e, .int .i64 f, .slice PA np pc, .slice SA ns sc, .slice QA nq qc, .slice AA na acp]] w fun e w' => ∃ x, e = .returned x ∧ WrongK w' x (secSc (ps.map PT.id) ss) ∧ Below w.heap.size w w' := by
  obtain ⟨cs, hcs⟩ : ∃ cs : Array Value, #[Value.int .u64 e, .int .i64 f, .slice PA np pc, .slice SA ns sc, .slice QA nq qc, .slice AA na acp] = cs := ⟨_, rfl⟩
  have hb0 : Below w.heap.size w (w.alloc (.cells cs 28)) := (Below.refl _ _).alloc (Nat.le_refl _) _
  have hx0 := heap_alloc_new w (.cells cs 28)
  obtain ⟨W1, hW1⟩ : ∃ W, w.alloc (.cells cs 28) = W := ⟨_, rfl⟩
  rw [hW1] at hb0 hx0
  obtain ⟨ids, hids⟩ : ∃ ids, ps.map PT.id = ids := ⟨_, rfl⟩
  rw [hids]
  have hil : ids.length = np := by rw [← hids, List.length_map]; exact h.pl
  obtain ⟨q, hq⟩ : ∃ q, fbw (fun pre x => oneS ids (lastS pre) x) [] ss = q := ⟨_, rfl⟩
  have HCP := Lib.hid (cparts_any (pc := pc) (sc := sc) (qc := qc) (AA := AA) (na := na) (acp := acp) (e := e) (f := f) (hm.kept hb0) (by omega))
  have hlp : lp.map LP.id = ids := by rw [← hids]; exact link_p hm.p h.p (by rw [hm.pl, h.pl])
  have HLP := Lib.hid hlp
  have HLN : Hid (lp.length = np) := hm.pl
  have HM := Lib.hid h
  have HCS := Lib.hid hcs
  have HS : Hid (ns ≤ 1000) := hs
  have HX := Lib.hid hx0
  have HN := Lib.hid hn
  have HB := Lib.hid hb0
  have HQ := Lib.hid hq
  have HW := Lib.hid hw
  have HIL : Hid (ids.length ≤ 1099511627776) := by show _ ≤ _; omega
  rw [← hcs] at hx0 hW1
  have HW1 := Lib.hid hW1
  clear h hm hp hs hcs hb0 hW1 hq hn hw hids hil hlp
  go_enter Tryz.func40, Tryz.ntmps40
  go_upto_region 1 with fail
  rw [HW1.out]
  go_wp2_with ((with_reducible show wpList _ _ _ _ _ _); refine wpList_load_row rfl 28 (.tmp 1) rfl w.heap.size rfl 28 _ (0, 0) _ hx0 Tryz.underlying28 rfl size_mod ?_)
  refine HCP.out.mono ?_
  rintro e w2 ⟨V, rfl, ho, hb2⟩
  obtain ⟨IA, ic, rfl⟩ := own_slice ho
  have hmp : (lp.map fun x => Value.int .i64 x.id) = ids.map (Value.int .i64) := by rw [← HLP.out, List.map_map]; rfl
  rw [hmp] at ho
  have hio := ints_own ho
  rw [HLN.out] at hio ⊢
  have hx2 := (hb2.block _ (lt_of_block HX.out)).trans HX.out
  have HS0 : Hid (SmRel ns w.heap.size cs ids (.slice IA np ic) ss q w (.int .i64 (-1)) (.int .i64 0) w2) := ⟨0, Nat.zero_le _, rfl, rfl, hx2, hio, HQ.out.symm, (HN.out.kept HB.out).kept hb2, HB.out.trans (hb2.mono HB.out.size)⟩
  have x3 := cell_of_row _ _ 3 _ _ _ hx2
  rw [← HCS.out] at x3
  simp only [List.getElem?_toArray, List.getElem?_cons_zero, List.getElem?_cons_succ] at x3
  clear ho hmp hio hx2 hb2 hx0 HCP
  go_wp2_with fail
  go_loopw [4, 13] (fun L i W => SmRel ns w.heap.size cs ids (.slice IA np ic) ss q w L i W) (fun _ i _ => ns - (intOf i).toNat)
  case atStart => exact HS0.out
  case round =>
    rename World => W
    obtain ⟨k, hk, rfl, rfl, hbx, hin, hqk, hn, hb⟩ := hrel
    have HBX := Lib.hid hbx
    have HIN := Lib.hid hin
    have HQK := Lib.hid hqk
    have HN' := Lib.hid hn
    have HB' := Lib.hid hb
    clear hbx hin hqk hn hb HS0 x3
    by_cases hlt : k < ns
    · obtain ⟨x, hx⟩ : ∃ x, ss[k]? = some x := ⟨_, List.getElem?_eq_getElem (by rw [HM.out.sl]; exact hlt)⟩
      obtain ⟨y, BB, cb, CC, cc, rfl, e1, e2, e3, e4, hB, -, -, -, hC, -, -, -⟩ := (HM.out.kept HB'.out).s k x hx
      have hwx := HM.out.sw x (List.mem_of_getElem? hx)
      have hwl := HW.out x (List.mem_of_getElem? hx)
      have HST := Lib.hid (fbw_step (fun pre x => oneS ids (lastS pre) x) ss k x hx)
      have htk : ss.take (k + 1) = ss.take k ++ [x] := by rw [List.take_add_one, hx]; rfl
      have HTK := Lib.hid htk
      have HLT := Lib.hid hlt
      have hki : (0 : Int) ≤ k := by omega
      have hkb : (k : Int) < ns := by omega
      have HK1 : Hid (IntKind.i64.wrap ((k : Int) + 1) = (k : Int) + 1) := IntWalk.i64_in _ (by have := HS.out; omega)
      have hb4 : Below W.heap.size W (W.alloc (.cells #[.int .i64 x.id, .int .i64 x.fr, .slice BB x.ws.length cb, .slice CC x.ns.length cc] 49)) := (Below.refl _ _).alloc (Nat.le_refl _) _
      have hx4 := heap_alloc_new W (.cells #[.int .i64 x.id, .int .i64 x.fr, .slice BB x.ws.length cb, .slice CC x.ns.length cc] 49)
      obtain ⟨la, hla⟩ : ∃ la, lastS (ss.take k) = la := ⟨_, rfl⟩
      have HLA := Lib.hid hla
      rw [hla]
      clear hlt hk hx htk hla
      go_upto_region 6 with fail
      obtain ⟨W2, hW2⟩ : ∃ W2, W.alloc (.cells #[.int .i64 x.id, .int .i64 x.fr, .slice BB x.ws.length cb, .slice CC x.ns.length cc] 49) = W2 := ⟨_, rfl⟩
      obtain ⟨Q, hQ⟩ : ∃ Q, W.heap.size = Q := ⟨_, rfl⟩
      rw [hW2] at hb4
      have HIN2 : Hid (IntsBelow W2.heap.size W2 (.slice IA np ic) ids) := (HIN.out.below hb4).mono hb4.size
      have HN2 := Lib.hid (HN'.out.kept hb4)
      have HBX2 := Lib.hid ((hb4.block _ (lt_of_block HBX.out)).trans HBX.out)
      have HB2 := Lib.hid (HB'.out.trans (hb4.mono HB'.out.size))
      have HSD := Lib.hid (schedule_any x BB CC cb cc la IA np ic ids W2 HN2.out (fun W' b => (HIN2.out.below b).mono b.size) HIL.out (hB.kept hb4) (hC.kept hb4) hwx hwl.1 hwl.2)
      rw [hW2, hQ] at hx4
      rw [hW2, hQ]
      have HXQ := Lib.hid hx4
      clear hb4 hW2 hQ e1 e2 e3 e4 hB hC hwx hwl HBX HIN HN' HB'
      go_wp2_with ((with_reducible show wpList _ _ _ _ _ _); refine wpList_load_row rfl 49 (.tmp 6) rfl Q rfl 49 _ (0, 0) _ hx4 Tryz.underlying49 rfl (by kernel_rfl) ?_)
      refine HSD.out.mono ?_
      rintro e W3 ⟨z, rfl, hz, hb3⟩
      have HB3 := Lib.hid (HB2.out.trans (hb3.mono HB2.out.size))
      have hx3 := (hb3.block _ (lt_of_block HXQ.out)).trans HXQ.out
      have d0 := cell_of_row _ _ 0 _ _ _ hx3
      simp only [List.getElem?_toArray, List.getElem?_cons_zero, List.getElem?_cons_succ] at d0
      obtain ⟨qq, hqq⟩ : ∃ qq, oneS ids la x = qq := ⟨_, rfl⟩
      rw [hqq] at hz
      have HQQ := Lib.hid hqq
      by_cases hk0 : qq.1 = 0
      · have hzn : z = .nilIface := by
          rcases hz with ⟨_, h⟩ | ⟨h, _, _⟩
          · exact h
          · omega
        subst hzn
        have HREL : Hid (SmRel ns w.heap.size cs ids (.slice IA np ic) ss q w (.int .i64 x.id) (.int .i64 ((k + 1 : Nat) : Int)) W3) := by
          refine ⟨k + 1, HLT.out, rfl, by rw [HTK.out, lastS_snoc], (hb3.block _ (lt_of_block HBX2.out)).trans HBX2.out, (HIN2.out.below hb3).mono hb3.size, ?_, HN2.out.kept hb3, HB3.out⟩
          rw [HQK.out, HST.out, HLA.out, if_pos (by rw [HQQ.out]; exact hk0)]
        have hk1 := HK1.out
        clear hz hk0 hb3 hx3 hx4 hqq HSD
        go_wp2
        go_roundw
        case rel => exact HREL.out
        case measure => have := HLT.out; simp [intOf]; omega
      · obtain ⟨u, y2, rfl⟩ := wrongK_iface hz hk0
        have hif : IsFault W3 (.iface u y2) qq.2 qq.1 ∧ 1 ≤ qq.1 ∧ qq.1 ≤ 18 := by
          rcases hz with ⟨h, _⟩ | ⟨h1, h2, h3⟩
          · exact absurd h hk0
          · exact ⟨h3, h1, h2⟩
        have HIF := Lib.hid hif
        have HSEC : Hid (secSc ids ss = (qq.1, (false, (k : Int)) :: qq.2)) := by
          show _ = _
          have h5 : fbw (fun pre x => oneS ids (lastS pre) x) [] ss = (qq.1, (false, (k : Int)) :: qq.2) := by
            rw [HQ.out, HQK.out, HST.out, HLA.out, HQQ.out, if_neg hk0]
          unfold secSc
          rw [h5, if_neg (by dsimp only; exact hk0)]
        have HAT := Lib.hid (at_any (k : Int) (.iface u y2) qq.2 qq.1 W3 hif.1)
        clear hz hk0 hb3 hx3 hx4 hqq hif HSD
        go_wp2_with (go_at_call 57; refine HAT.out.mono ?_; rintro e W5 ⟨y5, rfl, hy5, hb5⟩; have HY5 := Lib.hid hy5; have HB5 := Lib.hid (HB3.out.trans (hb5.mono HB3.out.size)); clear hy5 hb5)
        go_ret
        exact ⟨_, rfl, by rw [HSEC.out]; exact .inr ⟨HIF.out.2.1, HIF.out.2.2, HY5.out⟩, HB5.out⟩
    · obtain rfl : ns = k := by omega
      have x3 := cell_of_row _ _ 3 _ _ _ HBX.out
      rw [← HCS.out] at x3
      simp only [List.getElem?_toArray, List.getElem?_cons_zero, List.getElem?_cons_succ] at x3
      have HMN := Lib.hid (many_any ns 1 16 W HN'.out)
      have HSP : Hid (secSc ids ss = manyM ns 1 16) := by
        have h1 : fbw (fun pre x => oneS ids (lastS pre) x) [] ss = (0, []) := by
          have h2 := HQK.out
          have hpl := HM.out.sl
          rw [← hpl, fbw_end] at h2
          rw [HQ.out, h2]
        show secSc ids ss = _
        unfold secSc
        rw [h1, if_pos rfl, HM.out.sl]
      clear hlt hk
      go_wp2_with (go_at_call 58; refine HMN.out.mono ?_; rintro e W5 ⟨y5, rfl, hy5, rfl⟩; have HY5 := Lib.hid hy5; clear hy5)
      go_ret
      exact ⟨_, rfl, by rw [HSP.out]; exact HY5.out, HB'.out⟩
end

end Go.Proofs.YtmcmmbkodllpkaaGreatDoor.Chk
