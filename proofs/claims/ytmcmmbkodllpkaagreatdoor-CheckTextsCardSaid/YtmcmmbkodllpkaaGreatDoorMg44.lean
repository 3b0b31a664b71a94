/- The document's Wrong: what is wrong with a module. Condition: at most a thousand of each, its schedules at most 400 windows. -/
import Derived.Test.YtmcmmbkodllpkaaGreatDoorMg43
import Derived.Deep.RegionLaw
namespace Go.Proofs.YtmcmmbkodllpkaaGreatDoor.Chk

open Go.RowKit Go.PlainAid Go.Proofs.YtmcmmbkodllpkaaGreatDoor.Flt Go.Proofs.YtmcmmbkodllpkaaGreatDoor.Rdr Go.Proofs.YtmcmmbkodllpkaaGreatDoor.Win Go.Proofs.YtmcmmbkodllpkaaGreatDoor.Nee Go.Proofs.YtmcmmbkodllpkaaGreatDoor.Rel

open Go.Proofs.YtmcmmbkodllpkaaGreatDoor.Cel (own_slice own_keep own_base)

open Go.Proofs.YtmcmmbkodllpkaaGreatDoor.Prt (PT PartsAt)

open Go.Proofs.YtmcmmbkodllpkaaGreatDoor.Scd (SC ScdAt ScdAt.kept)

open Go.Proofs.YtmcmmbkodllpkaaGreatDoor.Pai (P2 PairsAt PairsAt.kept)

open Go.Proofs.YtmcmmbkodllpkaaGreatDoor.Act (A3 ActsAt ActsAt.kept I64 Wide)

open Go.Proofs.YtmcmmbkodllpkaaGreatDoor.Lat (LP LS LPAt LSAt MAt cparts_any cscheds_any rscheds_any long_any LongPost PidPost IdsPost ZAt ZAt.kept zat_own)

set_option linter.unusedVariables false

set_option linter.unusedSimpArgs false

open Go.Proofs.YtmcmmbkodllpkaaGreatDoor.Lat (rin15_any)

def restM (ss : List SC) (ps : List PT) (qs : List P2) (av : List A3) : KW := inS 4 (secPr (ss.map SC.id) qs) (inS 5 (secAc (ss.map SC.id) (ps.map PT.id) av) (0, []))
theorem mod_two {f : Int} {ps : List PT} {ss : List SC} {qs : List P2} {av : List A3} (h : inL (ss.map SC.id) f = true) : modM f ps ss qs av = if (twoM ps ss).1 = 0 then restM ss ps qs av else twoM ps ss := by
  unfold modM twoM restM
  rw [h, if_pos rfl]
  unfold inS
  by_cases h1 : (secPt ps).1 = 0
  · rw [if_pos (show ((0, []) : KW).1 = 0 from rfl), if_pos h1, if_pos h1]
    by_cases h2 : (secSc (ps.map PT.id) ss).1 = 0
    · rw [if_pos h2, if_pos h2, if_pos (show ((0, []) : KW).1 = 0 from rfl)]
    · rw [if_neg h2, if_neg h2, if_neg h2]
  · rw [if_pos (show ((0, []) : KW).1 = 0 from rfl), if_neg h1, if_neg h1, if_neg h1]
theorem mod_first {f : Int} {ps : List PT} {ss : List SC} {qs : List P2} {av : List A3} (h : inL (ss.map SC.id) f = false) : modM f ps ss qs av = (10, [(true, 1)]) := by
  unfold modM
  rw [h, if_neg (by simp), inS, if_neg (by decide)]
section

variable {w : World} {PA SA QA AA : Option Addr} {np pc ns sc nQ qc na acp : Nat} {ps : List PT} {ss : List SC} {qs : List P2} {av : List A3} {e f : Int} {lp : List LP} {ls : List LS} {lq : List Go.Proofs.YtmcmmbkodllpkaaGreatDoor.Lat.P2}

theorem pids2_any (hm : MAt w PA SA QA np ns nQ lp ls lq) (hl : np ≤ 1000) (h : BMod w PA SA QA AA np ns nQ na ps ss qs av) :
    Calls Tryz.prog 13 #[.agg #[.int .u64 e, .int .i64 f, .slice PA np pc, .slice SA ns sc, .slice QA nQ qc, .slice AA na acp]] w fun e w' => ∃ A c, e = .returned (.slice A np c) ∧ ZAt w' A (ps.map PT.id) ∧ Below w.heap.size w w' := by
  refine (Go.Proofs.YtmcmmbkodllpkaaGreatDoor.Lat.rparts_any hm (by omega)).mono ?_
  rintro e' w' ⟨V, rfl, ho, hb⟩
  obtain ⟨A, c, rfl⟩ := own_slice ho
  rw [hm.pl] at ho ⊢
  have e1 : (lp.map fun x => Value.int .i64 x.id) = (lp.map LP.id).map (Value.int .i64) := by rw [List.map_map]; rfl
  rw [e1, link_p hm.p h.p (by rw [hm.pl, h.pl])] at ho
  exact ⟨A, c, rfl, zat_own ho, hb⟩
theorem sids_any (hm : MAt w PA SA QA np ns nQ lp ls lq) (hl : ns ≤ 1000) (h : BMod w PA SA QA AA np ns nQ na ps ss qs av) :
    Calls Tryz.prog 15 #[.agg #[.int .u64 e, .int .i64 f, .slice PA np pc, .slice SA ns sc, .slice QA nQ qc, .slice AA na acp]] w fun e w' => ∃ A c, e = .returned (.slice A ns c) ∧ IntsBelow w'.heap.size w' (.slice A ns c) (ss.map SC.id) ∧ ZAt w' A (ss.map SC.id) ∧ Below w.heap.size w w' := by
  refine (Go.Proofs.YtmcmmbkodllpkaaGreatDoor.Lat.rscheds_any hm (by omega)).mono ?_
  rintro e' w' ⟨V, rfl, ho, hb⟩
  obtain ⟨A, c, rfl⟩ := own_slice ho
  rw [hm.sl] at ho ⊢
  have e1 : (ls.map fun x => Value.int .i64 x.id) = (ls.map LS.id).map (Value.int .i64) := by rw [List.map_map]; rfl
  rw [e1, link_s hm.s h.s (by rw [hm.sl, h.sl])] at ho
  exact ⟨A, c, rfl, ints_own ho, zat_own ho, hb⟩
/-- How many acts are looked at; nothing is wrong so far. -/
def AwRel (na : Nat) (sids pids : List Int) (av : List A3) (W1 : World) (i : Value) (W : World) : Prop :=
  ∃ k : Nat, k ≤ na ∧ i = .int .i64 (k : Int) ∧ fbw (fun pre x => (b1A sids pids pre x, [])) [] av = fbw (fun pre x => (b1A sids pids pre x, [])) (av.take k) (av.drop k) ∧ Below W1.heap.size W1 W
theorem ac_of {tq : KW} {sids pids : List Int} {k : Nat} {x : A3} {c : Nat} (h1 : tq = inS 5 (secAc sids pids av) (0, [])) (h2 : fbw (fun pre x => (b1A sids pids pre x, [])) [] av = fbw (fun pre x => (b1A sids pids pre x, [])) (av.take k) (av.drop k)) (h3 : fbw (fun pre x => (b1A sids pids pre x, [])) (av.take k) (av.drop k) = if b1A sids pids (av.take k) x = 0 then fbw (fun pre x => (b1A sids pids pre x, [])) (av.take (k + 1)) (av.drop (k + 1)) else (b1A sids pids (av.take k) x, [(false, (k : Int))])) (h : b1A sids pids (av.take k) x = c) (hc : c ≠ 0) : tq = (c, [(true, 5), (false, (k : Int))]) := by
  rw [h, if_neg hc] at h3
  have h4 : secAc sids pids av = (c, [(false, (k : Int))]) := by unfold secAc; rw [h2, h3, if_neg hc]
  rw [h1, h4, inS, if_neg hc]
set_option maxRecDepth 8000 in
set_option maxHeartbeats 12800000 in
theorem wrong_any (h : BMod w PA SA QA AA np ns nQ na ps ss qs av) (hm : MAt w PA SA QA np ns nQ lp ls lq) (hp : np ≤ 1000) (hs : ns ≤ 1000) (hqn : nQ ≤ 1000) (hna : na ≤ 9223372036854775807) (hw : ∀ x ∈ ss, x.ws.length ≤ 400 ∧ x.ns.length ≤ 9223372036854775807) :
    Calls Tryz.prog 8 #[.agg #[.int .u64 e, .int .i64 f, .slice PA np pc, .slice SA ns sc, .slice QA nQ qc, .slice AA na acp]] w fun e w' => e = .returned (fV (modM f ps ss qs av)) ∧ Below w.heap.size w w' := by
  have hb0 : Below w.heap.size w ((w.alloc (.cells #[.int .u64 e, .int .i64 f, .slice PA np pc, .slice SA ns sc, .slice QA nQ qc, .slice AA na acp] 28)).alloc (.cells #[.int .i64 0, .int .i64 0, .int .i64 0] 36)) := ((Below.refl _ _).alloc (Nat.le_refl _) _).alloc (by simp) _
  have hx0 : ((w.alloc (.cells #[.int .u64 e, .int .i64 f, .slice PA np pc, .slice SA ns sc, .slice QA nQ qc, .slice AA na acp] 28)).alloc (.cells #[.int .i64 0, .int .i64 0, .int .i64 0] 36)).heap[w.heap.size]? = some (.cells #[.int .u64 e, .int .i64 f, .slice PA np pc, .slice SA ns sc, .slice QA nQ qc, .slice AA na acp] 28 (0, 0)) := (heap_alloc_old _ _ (by simp)).trans (heap_alloc_new _ _)
  have hr0 : ((w.alloc (.cells #[.int .u64 e, .int .i64 f, .slice PA np pc, .slice SA ns sc, .slice QA nQ qc, .slice AA na acp] 28)).alloc (.cells #[.int .i64 0, .int .i64 0, .int .i64 0] 36)).heap[w.heap.size + 1]? = some (.cells #[.int .i64 0, .int .i64 0, .int .i64 0] 36 (0, 0)) := by
    have h := heap_alloc_new (w.alloc (.cells #[.int .u64 e, .int .i64 f, .slice PA np pc, .slice SA ns sc, .slice QA nQ qc, .slice AA na acp] 28)) (.cells #[.int .i64 0, .int .i64 0, .int .i64 0] 36)
    rwa [World.size_alloc] at h
  obtain ⟨W1, hW1⟩ : ∃ W, (w.alloc (.cells #[.int .u64 e, .int .i64 f, .slice PA np pc, .slice SA ns sc, .slice QA nQ qc, .slice AA na acp] 28)).alloc (.cells #[.int .i64 0, .int .i64 0, .int .i64 0] 36) = W := ⟨_, rfl⟩
  rw [hW1] at hb0 hx0 hr0
  have HW1 := Lib.hid hW1
  have HB0 := Lib.hid hb0
  have HMX : Hid (∀ W, Below W1.heap.size W1 W → W.heap[w.heap.size]? = some (.cells #[.int .u64 e, .int .i64 f, .slice PA np pc, .slice SA ns sc, .slice QA nQ qc, .slice AA na acp] 28 (0, 0))) := fun W b => (b.block _ (lt_of_block hx0)).trans hx0
  have HMC : Hid (∀ wx, Below W1.heap.size W1 wx → wx.cell? ⟨w.heap.size, 0, none⟩ = some (.int .u64 e) ∧ wx.cell? ⟨w.heap.size, 1, none⟩ = some (.int .i64 f) ∧ wx.cell? ⟨w.heap.size, 2, none⟩ = some (.slice PA np pc) ∧ wx.cell? ⟨w.heap.size, 3, none⟩ = some (.slice SA ns sc) ∧ wx.cell? ⟨w.heap.size, 4, none⟩ = some (.slice QA nQ qc) ∧ wx.cell? ⟨w.heap.size, 5, none⟩ = some (.slice AA na acp)) := fun wx b => by
    have h2 := (b.block _ (lt_of_block hx0)).trans hx0
    refine ⟨?_, ?_, ?_, ?_, ?_, ?_⟩
    all_goals (rw [cell_of_row _ _ _ _ _ _ h2]; rfl)
  have HRX : Hid (∀ W, Below W1.heap.size W1 W → W.heap[w.heap.size + 1]? = some (.cells #[.int .i64 0, .int .i64 0, .int .i64 0] 36 (0, 0))) := fun W b => (b.block _ (lt_of_block hr0)).trans hr0
  have HBW : Hid (∀ W, Below W1.heap.size W1 W → Below w.heap.size w W) := fun W b => hb0.trans (b.mono hb0.size)
  have HSI : Hid (∀ W, Below W1.heap.size W1 W → Calls Tryz.prog 15 #[.agg #[.int .u64 e, .int .i64 f, .slice PA np pc, .slice SA ns sc, .slice QA nQ qc, .slice AA na acp]] W fun e w' => ∃ A c, e = .returned (.slice A ns c) ∧ IntsBelow w'.heap.size w' (.slice A ns c) (ss.map SC.id) ∧ ZAt w' A (ss.map SC.id) ∧ Below W.heap.size W w') := fun W b => sids_any (hm.kept (hb0.trans (b.mono hb0.size))) hs (h.kept (hb0.trans (b.mono hb0.size)))
  have HPI : Hid (∀ W, Below W1.heap.size W1 W → Calls Tryz.prog 13 #[.agg #[.int .u64 e, .int .i64 f, .slice PA np pc, .slice SA ns sc, .slice QA nQ qc, .slice AA na acp]] W fun e w' => ∃ A c, e = .returned (.slice A np c) ∧ ZAt w' A (ps.map PT.id) ∧ Below W.heap.size W w') := fun W b => pids2_any (hm.kept (hb0.trans (b.mono hb0.size))) hp (h.kept (hb0.trans (b.mono hb0.size)))
  have HTW : Hid (∀ W, Below W1.heap.size W1 W → Calls Tryz.prog 25 #[.agg #[.int .u64 e, .int .i64 f, .slice PA np pc, .slice SA ns sc, .slice QA nQ qc, .slice AA na acp]] W fun e w' => e = .returned (fV (twoM ps ss)) ∧ Below W.heap.size W w') := fun W b => two_any (hb0.trans (b.mono hb0.size) |> h.kept) (hm.kept (hb0.trans (b.mono hb0.size))) hp hs hw
  have HIS : Hid (∀ (W : World) (A : Option Addr) (c : Nat) (v : Int), ZAt W A (ss.map SC.id) → Calls Tryz.prog 23 #[.slice A ns c, .int .i64 v] W fun e w' => e = .returned (.bool (inL (ss.map SC.id) v)) ∧ Below W.heap.size W w') := fun W A c v hz => rin15_any A c ns (ss.map SC.id) v W hz (by rw [List.length_map, h.sl]) (by omega)
  have HIP : Hid (∀ (W : World) (A : Option Addr) (c : Nat) (v : Int), ZAt W A (ps.map PT.id) → Calls Tryz.prog 23 #[.slice A np c, .int .i64 v] W fun e w' => e = .returned (.bool (inL (ps.map PT.id) v)) ∧ Below W.heap.size W w') := fun W A c v hz => rin15_any A c np (ps.map PT.id) v W hz (by rw [List.length_map, h.pl]) (by omega)
  have HCR : Hid (∀ (W : World) (I : Option Addr) (ci : Nat), Below W1.heap.size W1 W → IntsBelow W.heap.size W (.slice I ns ci) (ss.map SC.id) → Calls Tryz.prog 26 #[.slice QA nQ qc, .slice I ns ci] W fun e w' => e = .returned (.tuple #[.int .i64 (badR (ss.map SC.id) qs).2, .int .i64 ((badR (ss.map SC.id) qs).1 : Nat)]) ∧ Below W.heap.size W w') := fun W I ci b hI => rchk15_any QA qc nQ qs I ns ci (ss.map SC.id) W (h.kept (hb0.trans (b.mono hb0.size))).q h.ql hqn hI (by rw [List.length_map, h.sl]; omega)
  have HM := Lib.hid h
  have HQN : Hid (nQ ≤ 1000) := hqn
  have HNA : Hid (na ≤ 9223372036854775807) := hna
  obtain ⟨tq, htq⟩ : ∃ q, modM f ps ss qs av = q := ⟨_, rfl⟩
  have HTQ := Lib.hid htq
  rw [htq]
  obtain ⟨d0, d1, d2, d3, d4, d5⟩ := HMC.out W1 (Below.refl _ _)
  have HBD : Hid (Below W1.heap.size W1 W1.drew) := below_refl_drew W1
  clear h hm hp hs hw hqn hna hb0 hx0 hr0 hW1 htq
  go_enter Tryz.func8, Tryz.ntmps8
  go_upto_region 1 with fail
  rw [HW1.out]
  obtain ⟨fb, hfb⟩ : ∃ b, inL (ss.map SC.id) f = b := ⟨_, rfl⟩
  have HFBX := Lib.hid hfb
  clear hfb
  go_wp2_with fail
  go_region_held3 (fun wx => wx.cell? ⟨w.heap.size, 0, none⟩ = some (.int .u64 e) ∧ wx.cell? ⟨w.heap.size, 1, none⟩ = some (.int .i64 f) ∧ wx.cell? ⟨w.heap.size, 2, none⟩ = some (.slice PA np pc) ∧ wx.cell? ⟨w.heap.size, 3, none⟩ = some (.slice SA ns sc) ∧ wx.cell? ⟨w.heap.size, 4, none⟩ = some (.slice QA nQ qc) ∧ wx.cell? ⟨w.heap.size, 5, none⟩ = some (.slice AA na acp))
    (first | (refine ⟨?_, ?_, ?_, ?_, ?_, ?_⟩ <;> assumption) | (go_keep; done))
    (first
      | (go_at_call 15; refine (HSI.out _ HBD.out).mono ?_; rintro e0 W2 ⟨A2, c2, rfl, hi2, hz2, hb2⟩; have HB2 := Lib.hid (HBD.out.trans (hb2.mono HBD.out.size)); have HIN := Lib.hid (HIS.out W2 A2 c2 f hz2); obtain ⟨f0, f1, f2, f3, f4, f5⟩ := HMC.out _ HB2.out; clear hi2 hz2 hb2)
      | (go_at_call 23; refine HIN.out.mono ?_; rintro e0 W3 ⟨rfl, hb3⟩; have HB3 := Lib.hid (HB2.out.trans (hb3.mono HB2.out.size)); obtain ⟨g0, g1, g2, g3, g4, g5⟩ := HMC.out _ HB3.out; clear hb3))
  clear d0 d1 d2 d3 d4 d5 f0 f1 f2 f3 f4 f5
  rw [HFBX.out]
  cases fb with
  | false =>
    have htc : tq = (10, [(true, 1)]) := by rw [← HTQ.out]; exact mod_first HFBX.out
    have HTC := Lib.hid htc
    clear htc
    have HBD := Lib.hid (bad_any 10 1 0 W3)
    have HBL := Lib.hid HB3.out
    skip
    go_wp2_with (first
      | (go_at_call 24; refine HBD.out.mono ?_; rintro e W8 ⟨rfl, hb8⟩; have HBL8 := Lib.hid (HBL.out.trans (hb8.mono HBL.out.size)); have HR8 := Lib.hid (HRX.out _ HBL8.out); clear hb8)
      | ((with_reducible show wpList _ _ _ _ _ _); refine wpList_store_row rfl 36 (.tmp 2) (.tmp 14) rfl (w.heap.size + 1) #[.int .i64 10, .int .i64 1, .int .i64 0] rfl rfl 36 #[.int .i64 0, .int .i64 0, .int .i64 0] HR8.out (by rw [size_flt]; rfl) rfl (one_flt _ _ _) ?_))
    refine bodyPost_ret (v := fltV 10 1 0) (results_cell_row (by rfl) _ _ (w.heap.size + 1) 36 _ (0, 0) _ rfl (setRow_heap _ _ _ _ _ _ HR8.out) Tryz.underlying36 rfl (by rw [size_flt]; rfl)) rfl ⟨by rw [HTC.out]; rfl, ?_⟩
    exact HB0.out.trans ((HBL8.out.mono HB0.out.size).trans ⟨rfl, rfl, rfl, by simp, fun b hb => setRow_other _ _ _ _ (by omega)⟩)
  | true =>
    have HMT : Hid (tq = if (twoM ps ss).1 = 0 then restM ss ps qs av else twoM ps ss) := by show _ = _; rw [← HTQ.out]; exact mod_two HFBX.out
    have hx3 := HMX.out W3 HB3.out
    have HT3 := Lib.hid (HTW.out W3 HB3.out)
    obtain ⟨t2, ht2⟩ : ∃ q, twoM ps ss = q := ⟨_, rfl⟩
    rw [ht2] at HMT HT3
    clear ht2 HTW
    go_wp2_with ((with_reducible show wpList _ _ _ _ _ _); refine wpList_load_row rfl 28 (.tmp 1) rfl w.heap.size rfl 28 _ (0, 0) _ hx3 Tryz.underlying28 rfl (by kernel_rfl) ?_)
    refine HT3.out.mono ?_
    rintro e0 W4 ⟨rfl, hb4⟩
    have HB4 := Lib.hid (HB3.out.trans (hb4.mono HB3.out.size))
    obtain ⟨t2k, t2w⟩ := t2
    unfold fV fltV
    dsimp only at HMT ⊢
    obtain ⟨ts, hts⟩ : ∃ s, secOf t2w = s := ⟨_, rfl⟩
    obtain ⟨ta, hta⟩ : ∃ s, atOf t2w = s := ⟨_, rfl⟩
    rw [hts, hta]
    have HTS := Lib.hid hts
    have HTA := Lib.hid hta
    have hx5 := heap_alloc_new W4 (.cells #[.int .i64 (t2k : Int), .int .i64 ts, .int .i64 ta] 36)
    have hb5 := (Below.refl W4.heap.size W4).alloc (Nat.le_refl _) (.cells #[.int .i64 (t2k : Int), .int .i64 ts, .int .i64 ta] 36)
    clear hts hta hb4 hx3 g0 g1 g2 g3 g4 g5
    obtain ⟨W5, hW5⟩ : ∃ W5, W4.alloc (.cells #[.int .i64 (t2k : Int), .int .i64 ts, .int .i64 ta] 36) = W5 := ⟨_, rfl⟩
    obtain ⟨F, hF⟩ : ∃ F, W4.heap.size = F := ⟨_, rfl⟩
    have HB5 := Lib.hid (HB4.out.trans (hb5.mono HB4.out.size))
    rw [hW5] at hx5 HB5
    rw [hF] at hx5
    have HX5 := Lib.hid hx5
    have HW5 := Lib.hid hW5
    have HF := Lib.hid hF
    have z0 := cell_of_row _ _ 0 _ _ _ hx5
    simp only [List.getElem?_toArray, List.getElem?_cons_zero, List.getElem?_cons_succ] at z0
    clear hb5 hW5 hF
    go_upto_region 4 with fail
    rw [HW5.out, HF.out]
    by_cases ht0 : t2k = 0
    rotate_left
    · have tt : ((t2k : Int) != 0) = true := by simp [ht0]
      have htc : tq = (t2k, t2w) := by rw [HMT.out, if_neg ht0]
      have HTC := Lib.hid htc
      have HR8 := Lib.hid (HRX.out _ HB5.out)
      clear htc ht0
      go_wp2_with (first
        | ((with_reducible show wpList _ _ _ _ _ _); refine wpList_load_row rfl 36 (.tmp 3) rfl F rfl 36 _ (0, 0) _ HX5.out Tryz.underlying36 rfl (by rw [size_flt]; rfl) ?_)
        | ((with_reducible show wpList _ _ _ _ _ _); refine wpList_store_row rfl 36 (.tmp 2) (.tmp 20) rfl (w.heap.size + 1) #[.int .i64 (t2k : Int), .int .i64 ts, .int .i64 ta] rfl rfl 36 #[.int .i64 0, .int .i64 0, .int .i64 0] HR8.out (by rw [size_flt]; rfl) rfl (one_flt _ _ _) ?_))
      refine bodyPost_ret (v := fltV (t2k : Int) ts ta) (results_cell_row (by rfl) _ _ (w.heap.size + 1) 36 _ (0, 0) _ rfl (setRow_heap _ _ _ _ _ _ HR8.out) Tryz.underlying36 rfl (by rw [size_flt]; rfl)) rfl ⟨by rw [HTC.out, ← HTS.out, ← HTA.out]; rfl, ?_⟩
      exact HB0.out.trans ((HB5.out.mono HB0.out.size).trans ⟨rfl, rfl, rfl, by simp, fun b hb => setRow_other _ _ _ _ (by omega)⟩)
    have tt : ((t2k : Int) != 0) = false := by simp [ht0]
    have HR : Hid (tq = restM ss ps qs av) := by show _ = _; rw [HMT.out, if_pos ht0]
    clear ht0 hx5 HMT
    go_wp2_with fail
    obtain ⟨d0, d1, d2, d3, d4, d5⟩ := HMC.out W5 HB5.out
    have hbd5 : Below W1.heap.size W1 W5.drew := HB5.out.trans ((below_refl_drew W5).mono HB5.out.size)
    have HBD5 := Lib.hid hbd5
    clear hbd5 z0
    go_region_held3 (fun wx => wx.cell? ⟨w.heap.size, 0, none⟩ = some (.int .u64 e) ∧ wx.cell? ⟨w.heap.size, 1, none⟩ = some (.int .i64 f) ∧ wx.cell? ⟨w.heap.size, 2, none⟩ = some (.slice PA np pc) ∧ wx.cell? ⟨w.heap.size, 3, none⟩ = some (.slice SA ns sc) ∧ wx.cell? ⟨w.heap.size, 4, none⟩ = some (.slice QA nQ qc) ∧ wx.cell? ⟨w.heap.size, 5, none⟩ = some (.slice AA na acp))
      (first | (refine ⟨?_, ?_, ?_, ?_, ?_, ?_⟩ <;> assumption) | (go_keep; done))
      (first
        | (go_at_call 15; refine (HSI.out _ HBD5.out).mono ?_; rintro e0 W6 ⟨A6, c6, rfl, hi6, hz6, hb6⟩; have HB6 := Lib.hid (HBD5.out.trans (hb6.mono HBD5.out.size)); have HCK := Lib.hid (HCR.out W6 A6 c6 HB6.out hi6); obtain ⟨f0, f1, f2, f3, f4, f5⟩ := HMC.out _ HB6.out; clear hi6 hz6 hb6)
        | (go_at_call 26; refine HCK.out.mono ?_; rintro e0 W7 ⟨rfl, hb7⟩; have HB7 := Lib.hid (HB6.out.trans (hb7.mono HB6.out.size)); obtain ⟨g0, g1, g2, g3, g4, g5⟩ := HMC.out _ HB7.out; clear hb7))
    clear d0 d1 d2 d3 d4 d5 f0 f1 f2 f3 f4 f5
    obtain ⟨bq, hbq⟩ : ∃ q, badR (ss.map SC.id) qs = q := ⟨_, rfl⟩
    rw [hbq]
    have HPR : Hid (secPr (ss.map SC.id) qs = if bq.1 = 0 then manyM nQ 0 240 else (bq.1, [(false, bq.2)])) := by show _ = _; unfold secPr; rw [hbq, HM.out.ql]
    clear hbq
    obtain ⟨bk, bi⟩ := bq
    dsimp only at HPR ⊢
    by_cases hk0 : bk = 0
    rotate_left
    · have tb : ((bk : Int) != 0) = true := by simp [hk0]
      have htc : tq = (bk, [(true, 4), (false, bi)]) := by rw [HR.out, restM, HPR.out, if_neg hk0, inS, if_neg hk0]
      have HTC := Lib.hid htc
      clear htc hk0
      have HBD := Lib.hid (bad_any (bk : Int) 4 bi W7)
      have HBL := Lib.hid HB7.out
      skip
      go_wp2_with (first
        | (go_at_call 24; refine HBD.out.mono ?_; rintro e W8 ⟨rfl, hb8⟩; have HBL8 := Lib.hid (HBL.out.trans (hb8.mono HBL.out.size)); have HR8 := Lib.hid (HRX.out _ HBL8.out); clear hb8)
        | ((with_reducible show wpList _ _ _ _ _ _); refine wpList_store_row rfl 36 (.tmp 2) (.tmp 33) rfl (w.heap.size + 1) #[.int .i64 (bk : Int), .int .i64 4, .int .i64 bi] rfl rfl 36 #[.int .i64 0, .int .i64 0, .int .i64 0] HR8.out (by rw [size_flt]; rfl) rfl (one_flt _ _ _) ?_))
      refine bodyPost_ret (v := fltV (bk : Int) 4 bi) (results_cell_row (by rfl) _ _ (w.heap.size + 1) 36 _ (0, 0) _ rfl (setRow_heap _ _ _ _ _ _ HR8.out) Tryz.underlying36 rfl (by rw [size_flt]; rfl)) rfl ⟨by rw [HTC.out]; rfl, ?_⟩
      exact HB0.out.trans ((HBL8.out.mono HB0.out.size).trans ⟨rfl, rfl, rfl, by simp, fun b hb => setRow_other _ _ _ _ (by omega)⟩)
    have tb : ((bk : Int) != 0) = false := by simp [hk0]
    by_cases hq2 : 240 < nQ
    · have t3 : decide ((240 : Int) < (nQ : Int)) = true := decide_eq_true (by omega)
      have t3n : decide (240 < nQ) = true := decide_eq_true hq2
      have htc : tq = (8, [(true, 4)]) := by rw [HR.out, restM, HPR.out, if_pos hk0, manyM, if_pos (.inr hq2), inS, if_neg (by decide)]
      have HTC := Lib.hid htc
      clear htc hk0 hq2
      have HBD := Lib.hid (bad_any 8 4 0 W7)
      have HBL := Lib.hid HB7.out
      skip
      go_wp2_with (first
        | (go_at_call 24; refine HBD.out.mono ?_; rintro e W8 ⟨rfl, hb8⟩; have HBL8 := Lib.hid (HBL.out.trans (hb8.mono HBL.out.size)); have HR8 := Lib.hid (HRX.out _ HBL8.out); clear hb8)
        | ((with_reducible show wpList _ _ _ _ _ _); refine wpList_store_row rfl 36 (.tmp 2) (.tmp 38) rfl (w.heap.size + 1) #[.int .i64 8, .int .i64 4, .int .i64 0] rfl rfl 36 #[.int .i64 0, .int .i64 0, .int .i64 0] HR8.out (by rw [size_flt]; rfl) rfl (one_flt _ _ _) ?_))
      refine bodyPost_ret (v := fltV 8 4 0) (results_cell_row (by rfl) _ _ (w.heap.size + 1) 36 _ (0, 0) _ rfl (setRow_heap _ _ _ _ _ _ HR8.out) Tryz.underlying36 rfl (by rw [size_flt]; rfl)) rfl ⟨by rw [HTC.out]; rfl, ?_⟩
      exact HB0.out.trans ((HBL8.out.mono HB0.out.size).trans ⟨rfl, rfl, rfl, by simp, fun b hb => setRow_other _ _ _ _ (by omega)⟩)
    have t3 : decide ((240 : Int) < (nQ : Int)) = false := decide_eq_false (by omega)
    have t3n : decide (240 < nQ) = false := decide_eq_false hq2
    have HRA : Hid (tq = inS 5 (secAc (ss.map SC.id) (ps.map PT.id) av) (0, [])) := by show _ = _; rw [HR.out, restM, HPR.out, if_pos hk0, manyM, if_neg (by omega), inS, if_pos rfl]
    clear hk0 hq2 HPR HR
    go_wp2
    go_loopw [6] (fun i W => AwRel na (ss.map SC.id) (ps.map PT.id) av W1 i W) (fun i _ => na - (intOf i).toNat)
    case atStart => exact ⟨0, Nat.zero_le _, rfl, by rw [List.take_zero, List.drop_zero], HB7.out⟩
    case round =>
      rename World => W
      obtain ⟨k, hk, rfl, hfb, hb⟩ := hrel
      have HFB := Lib.hid hfb
      have HBL0 := Lib.hid hb
      have HBW0 := Lib.hid (HBW.out W hb)
      have HR0 := Lib.hid (HMC.out W hb)
      clear hfb hb HB7
      clear g0 g1 g2 g3 g4 g5
      obtain ⟨d0, d1, d2, d3, d4, d5⟩ := HR0.out
      by_cases hlt : k < na
      · obtain ⟨x, hx⟩ : ∃ x, av[k]? = some x := ⟨_, List.getElem?_eq_getElem (by rw [HM.out.al]; exact hlt)⟩
        obtain ⟨ax, rfl, c1, c2, c3⟩ := (HM.out.kept HBW0.out).a k x hx
        have HST : Hid (fbw (fun pre x => (b1A (ss.map SC.id) (ps.map PT.id) pre x, [])) (av.take k) (av.drop k) = if b1A (ss.map SC.id) (ps.map PT.id) (av.take k) x = 0 then fbw (fun pre x => (b1A (ss.map SC.id) (ps.map PT.id) pre x, [])) (av.take (k + 1)) (av.drop (k + 1)) else (b1A (ss.map SC.id) (ps.map PT.id) (av.take k) x, [(false, (k : Int))])) := fbw_step (fun pre x => (b1A (ss.map SC.id) (ps.map PT.id) pre x, [])) av k x hx
        have HLT : Hid (k < na) := hlt
        have hki : (0 : Int) ≤ k := by omega
        have hkb : (k : Int) < na := by omega
        have hk1 : IntKind.i64.wrap ((k : Int) + 1) = (k : Int) + 1 := IntWalk.i64_in _ (by have := HNA.out; omega)
        have hb4 : Below W.heap.size W (W.alloc (.cells #[.int .i64 x.s, .int .i64 x.p, .int .i64 x.a] 63)) := (Below.refl _ _).alloc (Nat.le_refl _) _
        have hx4 := heap_alloc_new W (.cells #[.int .i64 x.s, .int .i64 x.p, .int .i64 x.a] 63)
        clear hlt
        go_upto_region 15 with fail
        obtain ⟨W2, hW2⟩ : ∃ W2, W.alloc (.cells #[.int .i64 x.s, .int .i64 x.p, .int .i64 x.a] 63) = W2 := ⟨_, rfl⟩
        obtain ⟨Q, hQ⟩ : ∃ Q, W.heap.size = Q := ⟨_, rfl⟩
        rw [hW2, hQ] at hx4
        rw [hW2] at hb4
        rw [hW2, hQ]
        have HB2 := Lib.hid (HBL0.out.trans (hb4.mono HBL0.out.size))
        have HQC : Hid (∀ wx, Below W2.heap.size W2 wx → wx.cell? ⟨w.heap.size, 0, none⟩ = some (.int .u64 e) ∧ wx.cell? ⟨w.heap.size, 1, none⟩ = some (.int .i64 f) ∧ wx.cell? ⟨w.heap.size, 2, none⟩ = some (.slice PA np pc) ∧ wx.cell? ⟨w.heap.size, 3, none⟩ = some (.slice SA ns sc) ∧ wx.cell? ⟨w.heap.size, 4, none⟩ = some (.slice QA nQ qc) ∧ wx.cell? ⟨w.heap.size, 5, none⟩ = some (.slice (some ax) na acp) ∧ wx.cell? ⟨Q, 0, none⟩ = some (.int .i64 x.s) ∧ wx.cell? ⟨Q, 1, none⟩ = some (.int .i64 x.p) ∧ wx.cell? ⟨Q, 2, none⟩ = some (.int .i64 x.a)) := fun wx b => by
          have h1 := (b.block _ (lt_of_block hx4)).trans hx4
          obtain ⟨x0, x1, x2, x3, x4, x5⟩ := HMC.out wx (HB2.out.trans (b.mono HB2.out.size))
          refine ⟨x0, x1, x2, x3, x4, x5, ?_, ?_, ?_⟩
          all_goals (rw [cell_of_row _ _ _ _ _ _ h1]; rfl)
        have HAC : Hid (∀ W', Below W2.heap.size W2 W' → ActsAt W' (some ax) av) := fun W' b => (HM.out.kept (HBW.out W' (HB2.out.trans (b.mono HB2.out.size)))).a
        clear hb4 hW2 hQ hx4 c1 c2 c3 d0 d1 d2 d3 d4 d5
        obtain ⟨d0, d1, d2, d3, d4, d5, d6, d7, d8⟩ := HQC.out W2 (Below.refl _ _)
        have HBD2 : Hid (Below W2.heap.size W2 W2.drew) := below_refl_drew W2
        obtain ⟨b1, hb1⟩ : ∃ b, inL (ss.map SC.id) x.s = b := ⟨_, rfl⟩
        obtain ⟨b2, hb2⟩ : ∃ b, inL (ps.map PT.id) x.p = b := ⟨_, rfl⟩
        have HC1 := Lib.hid hb1
        have HC2 := Lib.hid hb2
        clear hb1 hb2
        cases b1 with
        | false =>
          clear d0 d1 d2 d3 d4 d5 d6 d7 d8
          refine wp_region_held_drew (S := (fun wx => wx.cell? ⟨w.heap.size, 0, none⟩ = some (.int .u64 e) ∧ wx.cell? ⟨w.heap.size, 1, none⟩ = some (.int .i64 f) ∧ wx.cell? ⟨w.heap.size, 2, none⟩ = some (.slice PA np pc) ∧ wx.cell? ⟨w.heap.size, 3, none⟩ = some (.slice SA ns sc) ∧ wx.cell? ⟨w.heap.size, 4, none⟩ = some (.slice QA nQ qc) ∧ wx.cell? ⟨w.heap.size, 5, none⟩ = some (.slice (some ax) na acp) ∧ wx.cell? ⟨Q, 0, none⟩ = some (.int .i64 x.s) ∧ wx.cell? ⟨Q, 1, none⟩ = some (.int .i64 x.p) ∧ wx.cell? ⟨Q, 2, none⟩ = some (.int .i64 x.a))) (by kernel_rfl) (HQC.out W2.drew HBD2.out) (fun hS => ?_)
          refine wpAnyH_take (i := 0) (v := ?_) rfl (by kernel_rfl) (by kernel_rfl) (by kernel_rfl) (fun _ _ _ h => h) (Or.inl ⟨by kernel_rfl, ?_⟩) (by assumption) ?_
          rotate_left
          · intro wx hSw
            try dsimp only at hSw
            go_simp <;> with_reducible rfl
          simp only [List.getElem_toArray, List.getElem_cons_zero, List.getElem_cons_succ, Act.put, List.setIfInBounds_toArray, List.set_cons_zero, List.set_cons_succ]
          refine wpAnyH_take (i := 2) (v := ?_) rfl (by kernel_rfl) (by kernel_rfl) (by kernel_rfl) (fun _ _ _ h => h) (Or.inl ⟨by kernel_rfl, ?_⟩) (by assumption) ?_
          rotate_left
          · intro wx hSw
            try dsimp only at hSw
            go_simp <;> with_reducible rfl
          simp only [List.getElem_toArray, List.getElem_cons_zero, List.getElem_cons_succ, Act.put, List.setIfInBounds_toArray, List.set_cons_zero, List.set_cons_succ]
          refine wpAnyH_take (i := 3) (v := ?_) rfl (by kernel_rfl) (by kernel_rfl) (by kernel_rfl) (fun _ _ _ h => h) (Or.inl ⟨by kernel_rfl, ?_⟩) (by assumption) ?_
          rotate_left
          · intro wx hSw
            try dsimp only at hSw
            go_simp <;> with_reducible rfl
          simp only [List.getElem_toArray, List.getElem_cons_zero, List.getElem_cons_succ, Act.put, List.setIfInBounds_toArray, List.set_cons_zero, List.set_cons_succ]
          refine wpAnyH_ready (rs := [1]) (by kernel_rfl) (by simp) ?_
          refine AllReadyH.cons rfl (fun K hK => ?_) AllReadyH.nil
          rw [if_pos (by kernel_rfl)]
          go_simp
          go_at_call 15
          refine (HSI.out _ (HB2.out.trans (HBD2.out.mono HB2.out.size))).mono ?_
          rintro e0 W3 ⟨A3, c3, rfl, hi3, hz3, hb3⟩
          have HB3' := Lib.hid (HBD2.out.trans (hb3.mono HBD2.out.size))
          have hin := HIS.out W3 A3 c3 x.s hz3
          rw [HC1.out] at hin
          have HIN1 := Lib.hid hin
          clear hi3 hz3 hb3 hin
          refine hK.out _ _ (HQC.out W3 HB3'.out) (fun hS1 => ?_)
          clear hK K
          try simp only [List.getElem_toArray, List.getElem_cons_zero, List.getElem_cons_succ, Act.put, List.setIfInBounds_toArray, List.set_cons_zero, List.set_cons_succ]
          refine wpAnyH_ready (rs := [4]) (by kernel_rfl) (by simp) ?_
          refine AllReadyH.cons rfl (fun K hK => ?_) AllReadyH.nil
          rw [if_pos (by kernel_rfl)]
          go_simp
          go_at_call 23
          refine HIN1.out.mono ?_
          rintro e0 W4 ⟨rfl, hb4⟩
          have HB4 := Lib.hid (HB3'.out.trans (hb4.mono HB3'.out.size))
          clear hb4 HIN1
          refine hK.out _ _ (HQC.out W4 HB4.out) (fun hS4 => ?_)
          clear hK K
          try simp only [List.getElem_toArray, List.getElem_cons_zero, List.getElem_cons_succ, Act.put, List.setIfInBounds_toArray, List.set_cons_zero, List.set_cons_succ]
          refine wpAnyH_take (i := 5) (v := ?_) rfl (by kernel_rfl) (by kernel_rfl) (by kernel_rfl) (fun _ _ _ h => h) (Or.inl ⟨by kernel_rfl, ?_⟩) (by assumption) ?_
          rotate_left
          · intro wx hSw
            try dsimp only at hSw
            go_simp <;> with_reducible rfl
          simp only [List.getElem_toArray, List.getElem_cons_zero, List.getElem_cons_succ, Act.put, List.setIfInBounds_toArray, List.set_cons_zero, List.set_cons_succ]
          refine wpAnyH_take (i := 6) (v := ?_) rfl (by kernel_rfl) (by kernel_rfl) (by kernel_rfl) (fun _ _ _ h => h) (Or.inl ⟨by kernel_rfl, ?_⟩) (by assumption) ?_
          rotate_left
          · intro wx hSw
            try dsimp only at hSw
            go_simp <;> with_reducible rfl
          simp only [List.getElem_toArray, List.getElem_cons_zero, List.getElem_cons_succ, Act.put, List.setIfInBounds_toArray, List.set_cons_zero, List.set_cons_succ]
          refine wpAnyH_take (i := 7) (v := undef) rfl (by kernel_rfl) (by kernel_rfl) (by kernel_rfl) (fun _ _ _ h => h) (Or.inr ⟨by kernel_rfl, rfl⟩) (by assumption) ?_
          try simp only [List.getElem_toArray, List.getElem_cons_zero, List.getElem_cons_succ, Act.put, List.setIfInBounds_toArray, List.set_cons_zero, List.set_cons_succ]
          refine wpAnyH_take (i := 8) (v := undef) rfl (by kernel_rfl) (by kernel_rfl) (by kernel_rfl) (fun _ _ _ h => h) (Or.inr ⟨by kernel_rfl, rfl⟩) (by assumption) ?_
          try simp only [List.getElem_toArray, List.getElem_cons_zero, List.getElem_cons_succ, Act.put, List.setIfInBounds_toArray, List.set_cons_zero, List.set_cons_succ]
          refine wpAnyH_take (i := 9) (v := undef) rfl (by kernel_rfl) (by kernel_rfl) (by kernel_rfl) (fun _ _ _ h => h) (Or.inr ⟨by kernel_rfl, rfl⟩) (by assumption) ?_
          try simp only [List.getElem_toArray, List.getElem_cons_zero, List.getElem_cons_succ, Act.put, List.setIfInBounds_toArray, List.set_cons_zero, List.set_cons_succ]
          refine wpAnyH_take (i := 10) (v := undef) rfl (by kernel_rfl) (by kernel_rfl) (by kernel_rfl) (fun _ _ _ h => h) (Or.inr ⟨by kernel_rfl, rfl⟩) (by assumption) ?_
          try simp only [List.getElem_toArray, List.getElem_cons_zero, List.getElem_cons_succ, Act.put, List.setIfInBounds_toArray, List.set_cons_zero, List.set_cons_succ]
          refine wpAnyH_take (i := 11) (v := undef) rfl (by kernel_rfl) (by kernel_rfl) (by kernel_rfl) (fun _ _ _ h => h) (Or.inr ⟨by kernel_rfl, rfl⟩) (by assumption) ?_
          try simp only [List.getElem_toArray, List.getElem_cons_zero, List.getElem_cons_succ, Act.put, List.setIfInBounds_toArray, List.set_cons_zero, List.set_cons_succ]
          refine wpAnyH_take (i := 12) (v := undef) rfl (by kernel_rfl) (by kernel_rfl) (by kernel_rfl) (fun _ _ _ h => h) (Or.inr ⟨by kernel_rfl, rfl⟩) (by assumption) ?_
          try simp only [List.getElem_toArray, List.getElem_cons_zero, List.getElem_cons_succ, Act.put, List.setIfInBounds_toArray, List.set_cons_zero, List.set_cons_succ]
          refine wpAnyH_take (i := 13) (v := ?_) rfl (by kernel_rfl) (by kernel_rfl) (by kernel_rfl) (fun _ _ _ h => h) (Or.inl ⟨by kernel_rfl, ?_⟩) (by assumption) ?_
          rotate_left
          · intro wx hSw
            try dsimp only at hSw
            go_simp <;> with_reducible rfl
          simp only [List.getElem_toArray, List.getElem_cons_zero, List.getElem_cons_succ, Act.put, List.setIfInBounds_toArray, List.set_cons_zero, List.set_cons_succ]
          refine wpAnyH_done (by kernel_rfl) ?_ _
          have HBW4 := Lib.hid (HB2.out.trans (HB4.out.mono HB2.out.size))
          have HTC := Lib.hid (ac_of (x := x) (c := 10) HRA.out HFB.out HST.out (by unfold b1A; rw [HC1.out]; rfl) (by decide))
          have HBD := Lib.hid (bad_any 10 5 (k : Int) W4)
          have HBL := Lib.hid HBW4.out
          skip
          go_wp2_with (first
            | (go_at_call 24; refine HBD.out.mono ?_; rintro e W8 ⟨rfl, hb8⟩; have HBL8 := Lib.hid (HBL.out.trans (hb8.mono HBL.out.size)); have HR8 := Lib.hid (HRX.out _ HBL8.out); clear hb8)
            | ((with_reducible show wpList _ _ _ _ _ _); refine wpList_store_row rfl 36 (.tmp 2) (.tmp 66) rfl (w.heap.size + 1) #[.int .i64 10, .int .i64 5, .int .i64 (k : Int)] rfl rfl 36 #[.int .i64 0, .int .i64 0, .int .i64 0] HR8.out (by rw [size_flt]; rfl) rfl (one_flt _ _ _) ?_))
          refine bodyPost_ret (v := fltV 10 5 (k : Int)) (results_cell_row (by rfl) _ _ (w.heap.size + 1) 36 _ (0, 0) _ rfl (setRow_heap _ _ _ _ _ _ HR8.out) Tryz.underlying36 rfl (by rw [size_flt]; rfl)) rfl ⟨by rw [HTC.out]; rfl, ?_⟩
          exact HB0.out.trans ((HBL8.out.mono HB0.out.size).trans ⟨rfl, rfl, rfl, by simp, fun b hb => setRow_other _ _ _ _ (by omega)⟩)
        | true =>
          go_region_held3 (fun wx => wx.cell? ⟨w.heap.size, 0, none⟩ = some (.int .u64 e) ∧ wx.cell? ⟨w.heap.size, 1, none⟩ = some (.int .i64 f) ∧ wx.cell? ⟨w.heap.size, 2, none⟩ = some (.slice PA np pc) ∧ wx.cell? ⟨w.heap.size, 3, none⟩ = some (.slice SA ns sc) ∧ wx.cell? ⟨w.heap.size, 4, none⟩ = some (.slice QA nQ qc) ∧ wx.cell? ⟨w.heap.size, 5, none⟩ = some (.slice (some ax) na acp) ∧ wx.cell? ⟨Q, 0, none⟩ = some (.int .i64 x.s) ∧ wx.cell? ⟨Q, 1, none⟩ = some (.int .i64 x.p) ∧ wx.cell? ⟨Q, 2, none⟩ = some (.int .i64 x.a))
            (first | (refine ⟨?_, ?_, ?_, ?_, ?_, ?_, ?_, ?_, ?_⟩ <;> assumption) | (go_keep; done))
            (first
              | (go_at_call 15; refine (HSI.out _ (HB2.out.trans (HBD2.out.mono HB2.out.size))).mono ?_; rintro e0 W3 ⟨A3, c3, rfl, hi3, hz3, hb3⟩; have HB3' := Lib.hid (HBD2.out.trans (hb3.mono HBD2.out.size)); have hin := HIS.out W3 A3 c3 x.s hz3; rw [HC1.out] at hin; have HIN1 := Lib.hid hin; obtain ⟨f0, f1, f2, f3, f4, f5, f6, f7, f8⟩ := HQC.out _ HB3'.out; clear hi3 hz3 hb3 hin)
              | (go_at_call 23; refine HIN1.out.mono ?_; rintro e0 W4 ⟨rfl, hb4⟩; have HB4 := Lib.hid (HB3'.out.trans (hb4.mono HB3'.out.size)); obtain ⟨g0, g1, g2, g3, g4, g5, g6, g7, g8⟩ := HQC.out _ HB4.out; clear hb4 HIN1)
              | (go_at_call 13; refine (HPI.out _ (HB2.out.trans (HB4.out.mono HB2.out.size))).mono ?_; rintro e0 W5' ⟨A5, c5, rfl, hz5, hb5⟩; have HB5' := Lib.hid (HB4.out.trans (hb5.mono HB4.out.size)); have HIN2 := Lib.hid (HIP.out W5' A5 c5 x.p hz5); obtain ⟨h0, h1, h2, h3, h4, h5, h6, h7, h8⟩ := HQC.out _ HB5'.out; clear hz5 hb5)
              | (go_at_call 23; refine HIN2.out.mono ?_; rintro e0 W6 ⟨rfl, hb6⟩; have HB6 := Lib.hid (HB5'.out.trans (hb6.mono HB5'.out.size)); obtain ⟨j0, j1, j2, j3, j4, j5, j6, j7, j8⟩ := HQC.out _ HB6.out; clear hb6))
          have HBW6 := Lib.hid (HB6.out)
          clear d0 d1 d2 d3 d4 d5 d6 d7 d8 f0 f1 f2 f3 f4 f5 f6 f7 f8 g0 g1 g2 g3 g4 g5 g6 g7 g8 h0 h1 h2 h3 h4 h5 h6 h7 h8
          rw [HC2.out]
          cases b2 with
          | false =>
            have HBW7 := Lib.hid (HB2.out.trans (HB6.out.mono HB2.out.size))
            have HTC := Lib.hid (ac_of (x := x) (c := 10) HRA.out HFB.out HST.out (by unfold b1A; rw [HC1.out, HC2.out]; rfl) (by decide))
            clear j0 j1 j2 j3 j4 j5 j6 j7 j8
            have HBD := Lib.hid (bad_any 10 5 (k : Int) W6)
            have HBL := Lib.hid HBW7.out
            skip
            go_wp2_with (first
              | (go_at_call 24; refine HBD.out.mono ?_; rintro e W8 ⟨rfl, hb8⟩; have HBL8 := Lib.hid (HBL.out.trans (hb8.mono HBL.out.size)); have HR8 := Lib.hid (HRX.out _ HBL8.out); clear hb8)
              | ((with_reducible show wpList _ _ _ _ _ _); refine wpList_store_row rfl 36 (.tmp 2) (.tmp 66) rfl (w.heap.size + 1) #[.int .i64 10, .int .i64 5, .int .i64 (k : Int)] rfl rfl 36 #[.int .i64 0, .int .i64 0, .int .i64 0] HR8.out (by rw [size_flt]; rfl) rfl (one_flt _ _ _) ?_))
            refine bodyPost_ret (v := fltV 10 5 (k : Int)) (results_cell_row (by rfl) _ _ (w.heap.size + 1) 36 _ (0, 0) _ rfl (setRow_heap _ _ _ _ _ _ HR8.out) Tryz.underlying36 rfl (by rw [size_flt]; rfl)) rfl ⟨by rw [HTC.out]; rfl, ?_⟩
            exact HB0.out.trans ((HBL8.out.mono HB0.out.size).trans ⟨rfl, rfl, rfl, by simp, fun b hb => setRow_other _ _ _ _ (by omega)⟩)
          | true =>
            by_cases ha : x.a = 1 ∨ x.a = 2
            rotate_left
            · have t1 : (x.a != 1) = true := by simp; omega
              have t2 : (x.a != 2) = true := by simp; omega
              have HBW7 := Lib.hid (HB2.out.trans (HB6.out.mono HB2.out.size))
              have HTC := Lib.hid (ac_of (x := x) (c := 6) HRA.out HFB.out HST.out (by unfold b1A; rw [HC1.out, HC2.out, show (x.a == 1 || x.a == 2) = false by simp; omega]; rfl) (by decide))
              clear ha
              have HBD := Lib.hid (bad_any 6 5 (k : Int) W6)
              have HBL := Lib.hid HBW7.out
              skip
              go_wp2_with (first
                | (go_at_call 24; refine HBD.out.mono ?_; rintro e W8 ⟨rfl, hb8⟩; have HBL8 := Lib.hid (HBL.out.trans (hb8.mono HBL.out.size)); have HR8 := Lib.hid (HRX.out _ HBL8.out); clear hb8)
                | ((with_reducible show wpList _ _ _ _ _ _); refine wpList_store_row rfl 36 (.tmp 2) (.tmp 76) rfl (w.heap.size + 1) #[.int .i64 6, .int .i64 5, .int .i64 (k : Int)] rfl rfl 36 #[.int .i64 0, .int .i64 0, .int .i64 0] HR8.out (by rw [size_flt]; rfl) rfl (one_flt _ _ _) ?_))
              refine bodyPost_ret (v := fltV 6 5 (k : Int)) (results_cell_row (by rfl) _ _ (w.heap.size + 1) 36 _ (0, 0) _ rfl (setRow_heap _ _ _ _ _ _ HR8.out) Tryz.underlying36 rfl (by rw [size_flt]; rfl)) rfl ⟨by rw [HTC.out]; rfl, ?_⟩
              exact HB0.out.trans ((HBL8.out.mono HB0.out.size).trans ⟨rfl, rfl, rfl, by simp, fun b hb => setRow_other _ _ _ _ (by omega)⟩)
            have HB1A : Hid (b1A (ss.map SC.id) (ps.map PT.id) (av.take k) x = match (av.take k).getLast? with | some y => if lessA y x then 0 else 9 | none => 0) := by
              show _ = _
              unfold b1A
              rw [HC1.out, HC2.out, show (x.a == 1 || x.a == 2) = true by simp; omega]
              rfl
            by_cases hk0 : k = 0
            · have HZ : Hid (b1A (ss.map SC.id) (ps.map PT.id) (av.take k) x = 0) := by show _ = _; rw [HB1A.out, hk0]; rfl
              have HST2 : Hid (fbw (fun pre x => (b1A (ss.map SC.id) (ps.map PT.id) pre x, [])) [] av = fbw (fun pre x => (b1A (ss.map SC.id) (ps.map PT.id) pre x, [])) (av.take (k + 1)) (av.drop (k + 1))) := by
                have h3 := HST.out
                rw [HZ.out, if_pos rfl] at h3
                exact HFB.out.trans h3
              have tg : decide ((0 : Int) < (k : Int)) = false := decide_eq_false (by omega)
              have tgn : decide (0 < k) = false := decide_eq_false (by omega)
              have HK0 := Lib.hid hk0
              clear hk0
              rcases ha with ha | ha
              · have t1 : (x.a != 1) = false := by simp [ha]
                clear ha
                go_wp2
                go_quiet (fail)
                have HBQ := Lib.hid (HB2.out.trans ((HB6.out.trans ((show Below W6.heap.size W6 (W6.drewN nq) from ⟨rfl, rfl, rfl, Nat.le_refl _, fun _ _ => rfl⟩).mono HB6.out.size)).mono HB2.out.size))
                clear j0 j1 j2 j3 j4 j5 j6 j7 j8
                go_wp2
                go_roundw
                case rel => exact ⟨k + 1, HLT.out, by go_num, HST2.out, HBQ.out⟩
                case measure => have := HLT.out; simp [intOf]; omega
              · have t1 : (x.a != 1) = true := by simp [ha]
                have t2 : (x.a != 2) = false := by simp [ha]
                clear ha
                go_wp2
                go_quiet (fail)
                have HBQ := Lib.hid (HB2.out.trans ((HB6.out.trans ((show Below W6.heap.size W6 (W6.drewN nq) from ⟨rfl, rfl, rfl, Nat.le_refl _, fun _ _ => rfl⟩).mono HB6.out.size)).mono HB2.out.size))
                clear j0 j1 j2 j3 j4 j5 j6 j7 j8
                go_wp2
                go_roundw
                case rel => exact ⟨k + 1, HLT.out, by go_num, HST2.out, HBQ.out⟩
                case measure => have := HLT.out; simp [intOf]; omega
            · obtain ⟨m1, hm1⟩ : ∃ m, k = m + 1 := ⟨k - 1, by omega⟩
              obtain ⟨yy, hyy⟩ : ∃ yy, av[m1]? = some yy := ⟨_, List.getElem?_eq_getElem (by rw [HM.out.al]; have := HLT.out; omega)⟩
              have HYC : Hid (∀ wx, Below W2.heap.size W2 wx → wx.cell? (ax.add (m1 * 3)) = some (.int .i64 yy.s) ∧ wx.cell? ⟨(ax.add (m1 * 3)).block, (ax.add (m1 * 3)).off + 1, none⟩ = some (.int .i64 yy.p) ∧ wx.cell? ⟨(ax.add (m1 * 3)).block, (ax.add (m1 * 3)).off + 2, none⟩ = some (.int .i64 yy.a)) := fun wx b => by
                obtain ⟨ay, hay, f1, f2, f3⟩ := HAC.out wx b m1 yy hyy
                obtain rfl := Option.some.inj hay
                exact ⟨f1, f2, f3⟩
              have HBL1 : Hid (b1A (ss.map SC.id) (ps.map PT.id) (av.take k) x = if lessA yy x then 0 else 9) := by
                show _ = _
                rw [HB1A.out, hm1, last_take hyy]
              have hwk : IntKind.i64.wrap ((k : Int) - 1) = (m1 : Int) := by rw [show (k : Int) - 1 = (m1 : Int) by omega]; exact IntWalk.i64_in _ (by have := HNA.out; omega)
              have g0 : (0 : Int) ≤ m1 := by omega
              have g1 : (m1 : Int) < na := by omega
              have tg : decide ((0 : Int) < (k : Int)) = true := decide_eq_true (by omega)
              have tgn : decide (0 < k) = true := decide_eq_true (by omega)
              have HM1 := Lib.hid hm1
              clear hk0 hyy hm1
              rcases ha with ha | ha
              · have t1 : (x.a != 1) = false := by simp [ha]
                clear ha
                obtain ⟨y0, y1, y2⟩ := HYC.out W6 HB6.out
                have HBD6 : Hid (Below W2.heap.size W2 W6.drew) := HB6.out.trans ((below_refl_drew W6).mono HB6.out.size)
                have HLS := Lib.hid (less11_any yy x W6.drew)
                go_wp2_with fail
                go_region_held3 (fun wx => wx.cell? ⟨w.heap.size, 0, none⟩ = some (.int .u64 e) ∧ wx.cell? ⟨w.heap.size, 1, none⟩ = some (.int .i64 f) ∧ wx.cell? ⟨w.heap.size, 2, none⟩ = some (.slice PA np pc) ∧ wx.cell? ⟨w.heap.size, 3, none⟩ = some (.slice SA ns sc) ∧ wx.cell? ⟨w.heap.size, 4, none⟩ = some (.slice QA nQ qc) ∧ wx.cell? ⟨w.heap.size, 5, none⟩ = some (.slice (some ax) na acp) ∧ wx.cell? ⟨Q, 0, none⟩ = some (.int .i64 x.s) ∧ wx.cell? ⟨Q, 1, none⟩ = some (.int .i64 x.p) ∧ wx.cell? ⟨Q, 2, none⟩ = some (.int .i64 x.a) ∧ wx.cell? (ax.add (m1 * 3)) = some (.int .i64 yy.s) ∧ wx.cell? ⟨(ax.add (m1 * 3)).block, (ax.add (m1 * 3)).off + 1, none⟩ = some (.int .i64 yy.p) ∧ wx.cell? ⟨(ax.add (m1 * 3)).block, (ax.add (m1 * 3)).off + 2, none⟩ = some (.int .i64 yy.a))
                  (first | (refine ⟨?_, ?_, ?_, ?_, ?_, ?_, ?_, ?_, ?_, ?_, ?_, ?_⟩ <;> assumption) | (go_keep; done))
                  (first
                    | (go_at_call 27; refine HLS.out.mono ?_; rintro e0 W7' ⟨rfl, hb7⟩; have HB7' := Lib.hid (HBD6.out.trans (hb7.mono HBD6.out.size)); obtain ⟨q0, q1, q2, q3, q4, q5, q6, q7, q8⟩ := HQC.out _ HB7'.out; obtain ⟨z0, z1, z2⟩ := HYC.out _ HB7'.out; clear hb7))
                have HBW8 := Lib.hid (HB2.out.trans (HB7'.out.mono HB2.out.size))
                clear j0 j1 j2 j3 j4 j5 j6 j7 j8 q0 q1 q2 q3 q4 q5 q6 q7 q8 y0 y1 y2 z0 z1 z2
                cases hls : lessA yy x with
                | true =>
                  have HZ : Hid (b1A (ss.map SC.id) (ps.map PT.id) (av.take k) x = 0) := by show _ = _; rw [HBL1.out, hls]; rfl
                  have HST2 : Hid (fbw (fun pre x => (b1A (ss.map SC.id) (ps.map PT.id) pre x, [])) [] av = fbw (fun pre x => (b1A (ss.map SC.id) (ps.map PT.id) pre x, [])) (av.take (k + 1)) (av.drop (k + 1))) := by
                    have h3 := HST.out
                    rw [HZ.out, if_pos rfl] at h3
                    exact HFB.out.trans h3
                  clear hls
                  go_wp2
                  go_roundw
                  case rel => exact ⟨k + 1, HLT.out, by go_num, HST2.out, HBW8.out⟩
                  case measure => have := HLT.out; simp [intOf]; omega
                | false =>
                  have HTC := Lib.hid (ac_of (x := x) (c := 9) HRA.out HFB.out HST.out (by rw [HBL1.out, hls]; rfl) (by decide))
                  clear hls
                  have HBD := Lib.hid (bad_any 9 5 (k : Int) W7')
                  have HBL := Lib.hid HBW8.out
                  skip
                  go_wp2_with (first
                    | (go_at_call 24; refine HBD.out.mono ?_; rintro e W8 ⟨rfl, hb8⟩; have HBL8 := Lib.hid (HBL.out.trans (hb8.mono HBL.out.size)); have HR8 := Lib.hid (HRX.out _ HBL8.out); clear hb8)
                    | ((with_reducible show wpList _ _ _ _ _ _); refine wpList_store_row rfl 36 (.tmp 2) (.tmp 91) rfl (w.heap.size + 1) #[.int .i64 9, .int .i64 5, .int .i64 (k : Int)] rfl rfl 36 #[.int .i64 0, .int .i64 0, .int .i64 0] HR8.out (by rw [size_flt]; rfl) rfl (one_flt _ _ _) ?_))
                  refine bodyPost_ret (v := fltV 9 5 (k : Int)) (results_cell_row (by rfl) _ _ (w.heap.size + 1) 36 _ (0, 0) _ rfl (setRow_heap _ _ _ _ _ _ HR8.out) Tryz.underlying36 rfl (by rw [size_flt]; rfl)) rfl ⟨by rw [HTC.out]; rfl, ?_⟩
                  exact HB0.out.trans ((HBL8.out.mono HB0.out.size).trans ⟨rfl, rfl, rfl, by simp, fun b hb => setRow_other _ _ _ _ (by omega)⟩)
              · have t1 : (x.a != 1) = true := by simp [ha]
                have t2 : (x.a != 2) = false := by simp [ha]
                clear ha
                obtain ⟨y0, y1, y2⟩ := HYC.out W6 HB6.out
                have HBD6 : Hid (Below W2.heap.size W2 W6.drew) := HB6.out.trans ((below_refl_drew W6).mono HB6.out.size)
                have HLS := Lib.hid (less11_any yy x W6.drew)
                go_wp2_with fail
                go_region_held3 (fun wx => wx.cell? ⟨w.heap.size, 0, none⟩ = some (.int .u64 e) ∧ wx.cell? ⟨w.heap.size, 1, none⟩ = some (.int .i64 f) ∧ wx.cell? ⟨w.heap.size, 2, none⟩ = some (.slice PA np pc) ∧ wx.cell? ⟨w.heap.size, 3, none⟩ = some (.slice SA ns sc) ∧ wx.cell? ⟨w.heap.size, 4, none⟩ = some (.slice QA nQ qc) ∧ wx.cell? ⟨w.heap.size, 5, none⟩ = some (.slice (some ax) na acp) ∧ wx.cell? ⟨Q, 0, none⟩ = some (.int .i64 x.s) ∧ wx.cell? ⟨Q, 1, none⟩ = some (.int .i64 x.p) ∧ wx.cell? ⟨Q, 2, none⟩ = some (.int .i64 x.a) ∧ wx.cell? (ax.add (m1 * 3)) = some (.int .i64 yy.s) ∧ wx.cell? ⟨(ax.add (m1 * 3)).block, (ax.add (m1 * 3)).off + 1, none⟩ = some (.int .i64 yy.p) ∧ wx.cell? ⟨(ax.add (m1 * 3)).block, (ax.add (m1 * 3)).off + 2, none⟩ = some (.int .i64 yy.a))
                  (first | (refine ⟨?_, ?_, ?_, ?_, ?_, ?_, ?_, ?_, ?_, ?_, ?_, ?_⟩ <;> assumption) | (go_keep; done))
                  (first
                    | (go_at_call 27; refine HLS.out.mono ?_; rintro e0 W7' ⟨rfl, hb7⟩; have HB7' := Lib.hid (HBD6.out.trans (hb7.mono HBD6.out.size)); obtain ⟨q0, q1, q2, q3, q4, q5, q6, q7, q8⟩ := HQC.out _ HB7'.out; obtain ⟨z0, z1, z2⟩ := HYC.out _ HB7'.out; clear hb7))
                have HBW8 := Lib.hid (HB2.out.trans (HB7'.out.mono HB2.out.size))
                clear j0 j1 j2 j3 j4 j5 j6 j7 j8 q0 q1 q2 q3 q4 q5 q6 q7 q8 y0 y1 y2 z0 z1 z2
                cases hls : lessA yy x with
                | true =>
                  have HZ : Hid (b1A (ss.map SC.id) (ps.map PT.id) (av.take k) x = 0) := by show _ = _; rw [HBL1.out, hls]; rfl
                  have HST2 : Hid (fbw (fun pre x => (b1A (ss.map SC.id) (ps.map PT.id) pre x, [])) [] av = fbw (fun pre x => (b1A (ss.map SC.id) (ps.map PT.id) pre x, [])) (av.take (k + 1)) (av.drop (k + 1))) := by
                    have h3 := HST.out
                    rw [HZ.out, if_pos rfl] at h3
                    exact HFB.out.trans h3
                  clear hls
                  go_wp2
                  go_roundw
                  case rel => exact ⟨k + 1, HLT.out, by go_num, HST2.out, HBW8.out⟩
                  case measure => have := HLT.out; simp [intOf]; omega
                | false =>
                  have HTC := Lib.hid (ac_of (x := x) (c := 9) HRA.out HFB.out HST.out (by rw [HBL1.out, hls]; rfl) (by decide))
                  clear hls
                  have HBD := Lib.hid (bad_any 9 5 (k : Int) W7')
                  have HBL := Lib.hid HBW8.out
                  skip
                  go_wp2_with (first
                    | (go_at_call 24; refine HBD.out.mono ?_; rintro e W8 ⟨rfl, hb8⟩; have HBL8 := Lib.hid (HBL.out.trans (hb8.mono HBL.out.size)); have HR8 := Lib.hid (HRX.out _ HBL8.out); clear hb8)
                    | ((with_reducible show wpList _ _ _ _ _ _); refine wpList_store_row rfl 36 (.tmp 2) (.tmp 91) rfl (w.heap.size + 1) #[.int .i64 9, .int .i64 5, .int .i64 (k : Int)] rfl rfl 36 #[.int .i64 0, .int .i64 0, .int .i64 0] HR8.out (by rw [size_flt]; rfl) rfl (one_flt _ _ _) ?_))
                  refine bodyPost_ret (v := fltV 9 5 (k : Int)) (results_cell_row (by rfl) _ _ (w.heap.size + 1) 36 _ (0, 0) _ rfl (setRow_heap _ _ _ _ _ _ HR8.out) Tryz.underlying36 rfl (by rw [size_flt]; rfl)) rfl ⟨by rw [HTC.out]; rfl, ?_⟩
                  exact HB0.out.trans ((HBL8.out.mono HB0.out.size).trans ⟨rfl, rfl, rfl, by simp, fun b hb => setRow_other _ _ _ _ (by omega)⟩)
      · obtain rfl : na = k := by omega
        have HSA : Hid (secAc (ss.map SC.id) (ps.map PT.id) av = manyM na 0 512) := by
          have h1 : fbw (fun pre x => (b1A (ss.map SC.id) (ps.map PT.id) pre x, [])) [] av = (0, []) := by
            have h2 := HFB.out
            have hal := HM.out.al
            rw [← hal, fbw_end] at h2
            exact h2
          show _ = _
          unfold secAc
          rw [h1, if_pos rfl, HM.out.al]
        clear hlt hk
        by_cases hhi : 512 < na
        · have thi : decide ((512 : Int) < (na : Int)) = true := decide_eq_true (by omega)
          have thn : decide (512 < na) = true := decide_eq_true hhi
          have htc : tq = (8, [(true, 5)]) := by rw [HRA.out, HSA.out, manyM, if_pos (.inr hhi), inS, if_neg (by decide)]
          have HTC := Lib.hid htc
          clear htc
          have HBD := Lib.hid (bad_any 8 5 0 W)
          have HBL := Lib.hid HBL0.out
          skip
          go_wp2_with (first
            | (go_at_call 24; refine HBD.out.mono ?_; rintro e W8 ⟨rfl, hb8⟩; have HBL8 := Lib.hid (HBL.out.trans (hb8.mono HBL.out.size)); have HR8 := Lib.hid (HRX.out _ HBL8.out); clear hb8)
            | ((with_reducible show wpList _ _ _ _ _ _); refine wpList_store_row rfl 36 (.tmp 2) (.tmp 96) rfl (w.heap.size + 1) #[.int .i64 8, .int .i64 5, .int .i64 0] rfl rfl 36 #[.int .i64 0, .int .i64 0, .int .i64 0] HR8.out (by rw [size_flt]; rfl) rfl (one_flt _ _ _) ?_))
          refine bodyPost_ret (v := fltV 8 5 0) (results_cell_row (by rfl) _ _ (w.heap.size + 1) 36 _ (0, 0) _ rfl (setRow_heap _ _ _ _ _ _ HR8.out) Tryz.underlying36 rfl (by rw [size_flt]; rfl)) rfl ⟨by rw [HTC.out]; rfl, ?_⟩
          exact HB0.out.trans ((HBL8.out.mono HB0.out.size).trans ⟨rfl, rfl, rfl, by simp, fun b hb => setRow_other _ _ _ _ (by omega)⟩)
        have thi : decide ((512 : Int) < (na : Int)) = false := decide_eq_false (by omega)
        have thn : decide (512 < na) = false := decide_eq_false hhi
        have htc : tq = (0, []) := by rw [HRA.out, HSA.out, manyM, if_neg (by omega), inS, if_pos rfl]
        have HTC := Lib.hid htc
        have HR8 := Lib.hid (HRX.out _ HBL0.out)
        clear htc hhi
        go_wp2_with (first
          | ((with_reducible show wpList _ _ _ _ _ _); refine wpList_store_row rfl 36 (.tmp 2) (.tmp 97) rfl (w.heap.size + 1) #[.int .i64 0, .int .i64 0, .int .i64 0] rfl rfl 36 #[.int .i64 0, .int .i64 0, .int .i64 0] HR8.out (by rw [size_flt]; rfl) rfl (one_flt _ _ _) ?_))
        refine bodyPost_ret (v := fltV 0 0 0) (results_cell_row (by rfl) _ _ (w.heap.size + 1) 36 _ (0, 0) _ rfl (setRow_heap _ _ _ _ _ _ HR8.out) Tryz.underlying36 rfl (by rw [size_flt]; rfl)) rfl ⟨by rw [HTC.out]; rfl, ?_⟩
        exact HB0.out.trans ((HBL0.out.mono HB0.out.size).trans ⟨rfl, rfl, rfl, by simp, fun b hb => setRow_other _ _ _ _ (by omega)⟩)
end

end Go.Proofs.YtmcmmbkodllpkaaGreatDoor.Chk
