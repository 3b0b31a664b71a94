/- What is wrong with a module's partitions (check.partitions), and with how many there are. Condition: at most a thousand of each. -/
import Derived.Test.YtmcmmbkodllpkaaGreatDoorMg32
import Derived.Test.YtmcmmbkodllpkaaGreatDoorMg34
namespace Go.Proofs.YtmcmmbkodllpkaaGreatDoor.Chk

open Go.RowKit Go.PlainAid Go.Proofs.YtmcmmbkodllpkaaGreatDoor.Flt Go.Proofs.YtmcmmbkodllpkaaGreatDoor.Rdr

open Go.Proofs.YtmcmmbkodllpkaaGreatDoor.Cel (own_slice own_keep own_base)

open Go.Proofs.YtmcmmbkodllpkaaGreatDoor.Mpv (wpList_upd wpList_look)

open Go.Proofs.YtmcmmbkodllpkaaGreatDoor.Prt (PT PartsAt PartsAt.kept rg rg_le lastP lastP_snoc ptC P4 rgtP pright_any WideP)

open Go.Proofs.YtmcmmbkodllpkaaGreatDoor.Scd (SC ScdAt ScdAt.kept WideS)

open Go.Proofs.YtmcmmbkodllpkaaGreatDoor.Pai (P2 PairsAt PairsAt.kept)

open Go.Proofs.YtmcmmbkodllpkaaGreatDoor.Act (A3 ActsAt ActsAt.kept)

set_option linter.unusedVariables false

set_option linter.unusedSimpArgs false

theorem size_mod : (Tryz.prog.info? 28).map (·.size) = some 6 := by kernel_rfl
theorem grown_other {w w' : World} {a k : Nat} (h : w.grownBy w' (some a)) (hk : k < w.heap.size) (hne : k ≠ a) : w'.heap[k]? = w.heap[k]? := h.block k hk (fun e => hne (Option.some.inj e))
/-- A module's lists in memory, whole. -/
structure BMod (w : World) (PA SA QA AA : Option Addr) (np ns nq na : Nat) (ps : List PT) (ss : List SC) (qs : List P2) (av : List A3) : Prop where
  p : PartsAt w PA ps
  s : ScdAt w SA ss
  q : PairsAt w QA qs
  a : ActsAt w AA av
  pl : ps.length = np
  sl : ss.length = ns
  ql : qs.length = nq
  al : av.length = na
  pw : ∀ x ∈ ps, WideP x
  sw : ∀ x ∈ ss, WideS x
  qw : ∀ x ∈ qs, Go.Proofs.YtmcmmbkodllpkaaGreatDoor.Pai.Wide x
  aw : ∀ x ∈ av, Go.Proofs.YtmcmmbkodllpkaaGreatDoor.Act.Wide x
theorem BMod.kept {w w' : World} {PA SA QA AA : Option Addr} {np ns nq na : Nat} {ps : List PT} {ss : List SC} {qs : List P2} {av : List A3} (h : BMod w PA SA QA AA np ns nq na ps ss qs av) (b : Below w.heap.size w w') : BMod w' PA SA QA AA np ns nq na ps ss qs av :=
  ⟨h.p.kept b, h.s.kept b, h.q.kept b, h.a.kept b, h.pl, h.sl, h.ql, h.al, h.pw, h.sw, h.qw, h.aw⟩
theorem rgt_rg (x : PT) (A : Option Addr) (c : Nat) : rgtP ⟨x.id, x.nm, x.may, A, x.cs.length, c⟩ = rg x := rfl
set_option maxRecDepth 4000 in
theorem many_any (n least most : Nat) (w : World) (hn : Names w) :
    Calls Tryz.prog 58 #[.int .i64 (n : Int), .int .i64 (least : Int), .int .i64 (most : Int)] w fun e w' => ∃ x, e = .returned x ∧ WrongK w' x (manyM n least most) ∧ w = w' := by
  have HN := Lib.hid (new_yes 8 (by omega) (by omega) w hn)
  unfold manyM
  by_cases h1 : n < least
  · have t1 : decide ((n : Int) < (least : Int)) = true := decide_eq_true (by omega)
    have t1' : decide (n < least) = true := decide_eq_true h1
    rw [if_pos (.inl h1)]
    clear h1
    go_enter Tryz.func58, Tryz.ntmps58
    go_wp2_with (go_at_call 55; refine HN.out.mono ?_; rintro e w' ⟨rfl, rfl⟩)
    go_ret
    exact ⟨_, rfl, .inr ⟨by decide, by decide, rfl⟩, rfl⟩
  · have t1 : decide ((n : Int) < (least : Int)) = false := decide_eq_false (by omega)
    have t1' : decide (n < least) = false := decide_eq_false h1
    by_cases h2 : most < n
    · have t2 : decide ((most : Int) < (n : Int)) = true := decide_eq_true (by omega)
      have t2' : decide (most < n) = true := decide_eq_true h2
      rw [if_pos (.inr h2)]
      clear h1 h2
      go_enter Tryz.func58, Tryz.ntmps58
      go_wp2_with (go_at_call 55; refine HN.out.mono ?_; rintro e w' ⟨rfl, rfl⟩)
      go_ret
      exact ⟨_, rfl, .inr ⟨by decide, by decide, rfl⟩, rfl⟩
    · have t2 : decide ((most : Int) < (n : Int)) = false := decide_eq_false (by omega)
      have t2' : decide (most < n) = false := decide_eq_false h2
      rw [if_neg (by omega)]
      clear h1 h2
      go_enter Tryz.func58, Tryz.ntmps58
      go_wp2
      go_ret
      exact ⟨_, rfl, .inl ⟨rfl, rfl⟩, rfl⟩
section

variable {w : World} {PA SA QA AA : Option Addr} {np pc ns sc nq qc na acp : Nat} {ps : List PT} {ss : List SC} {qs : List P2} {av : List A3} {e f : Int}

/-- The module's box b, the map of names m. -/
def PmRel (n b m : Nat) (cs : Array Value) (ps : List PT) (q : KW) (w : World) (L i : Value) (W : World) : Prop :=
  ∃ k : Nat, k ≤ n ∧ i = .int .i64 (k : Int) ∧ L = .int .i64 (lastP (ps.take k)) ∧ W.heap[b]? = some (.cells cs 28 (0, 0)) ∧ SMap W m (nmB (ps.take k)) k ∧ q = fbw (fun pre x => (b1M pre x, [])) (ps.take k) (ps.drop k) ∧ Names W ∧ Below w.heap.size w W
set_option maxRecDepth 8000 in
set_option maxHeartbeats 3200000 in
theorem partitions_any (hn : Names w) (h : BMod w PA SA QA AA np ns nq na ps ss qs av) (hp : np ≤ 1000) :
    Calls Tryz.prog 39 #[.agg #[.int .u64 e, .int .i64 f, .slice PA np pc, .slice SA ns sc, .slice QA nq qc, .slice AA na acp]] w fun e w' => ∃ x, e = .returned x ∧ WrongK w' x (secPt ps) ∧ Below w.heap.size w w' := by
  have hmm := @run_makeMap Tryz.prog
  obtain ⟨cs, hcs⟩ : ∃ cs : Array Value, #[Value.int .u64 e, .int .i64 f, .slice PA np pc, .slice SA ns sc, .slice QA nq qc, .slice AA na acp] = cs := ⟨_, rfl⟩
  have hb0 : Below w.heap.size w ((w.alloc (.cells cs 28)).alloc (.map #[] 0)) := ((Below.refl _ _).alloc (Nat.le_refl _) _).alloc (by simp) _
  have hx0 : ((w.alloc (.cells cs 28)).alloc (.map #[] 0)).heap[w.heap.size]? = some (.cells cs 28 (0, 0)) := by
    rw [heap_alloc_old _ _ (by simp)]; exact heap_alloc_new _ _
  have hm0 : SMap ((w.alloc (.cells cs 28)).alloc (.map #[] 0)) (w.heap.size + 1) (fun _ => false) 0 := by
    have h1 := maps_made (w.alloc (.cells cs 28))
    rw [show (w.alloc (.cells cs 28)).heap.size = w.heap.size + 1 by simp] at h1
    exact ⟨0, Nat.le_refl _, h1⟩
  obtain ⟨W1, hW1⟩ : ∃ W, (w.alloc (.cells cs 28)).alloc (.map #[] 0) = W := ⟨_, rfl⟩
  rw [hW1] at hb0 hx0 hm0
  obtain ⟨m, hm⟩ : ∃ m, w.heap.size + 1 = m := ⟨_, rfl⟩
  rw [hm] at hm0
  obtain ⟨q, hq⟩ : ∃ q, fbw (fun pre x => (b1M pre x, [])) [] ps = q := ⟨_, rfl⟩
  have HS0 : Hid (PmRel np w.heap.size m cs ps q w (.int .i64 (-1)) (.int .i64 0) W1) := ⟨0, Nat.zero_le _, rfl, rfl, hx0, hm0, hq.symm, hn.kept hb0, hb0⟩
  have x2 := cell_of_row _ _ 2 _ _ _ hx0
  rw [← hcs] at x2 hW1
  simp only [List.getElem?_toArray, List.getElem?_cons_zero, List.getElem?_cons_succ] at x2
  have HM := Lib.hid h
  have HCS := Lib.hid hcs
  have HP : Hid (np ≤ 1000) := hp
  have HW1 := Lib.hid hW1
  have HMM := Lib.hid hm
  have HQ := Lib.hid hq
  have HNP : Hid (0 < w.heap.size) := hn.pos
  clear h hp hcs hb0 hx0 hm0 hW1 hm hq hn
  go_enter Tryz.func39, Tryz.ntmps39
  go_upto_region 2 with fail
  rw [HMM.out, HW1.out]
  clear hmm
  go_wp2_with fail
  go_loopw [4, 12] (fun L i W => PmRel np w.heap.size m cs ps q w L i W) (fun _ i _ => np - (intOf i).toNat)
  case atStart => exact HS0.out
  case round =>
    rename World => W
    obtain ⟨k, hk, rfl, rfl, hbx, hsm, hqk, hn, hb⟩ := hrel
    have HBX := Lib.hid hbx
    have HSM := Lib.hid hsm
    have HQK := Lib.hid hqk
    have HN := Lib.hid hn
    have HB := Lib.hid hb
    clear hbx hsm hqk hn hb HS0 x2
    by_cases hlt : k < np
    · obtain ⟨x, hx⟩ : ∃ x, ps[k]? = some x := ⟨_, List.getElem?_eq_getElem (by rw [HM.out.pl]; exact hlt)⟩
      obtain ⟨y, BB, bc, rfl, e1, e2, e3, e4, -, -, -, -⟩ := (HM.out.kept HB.out).p k x hx
      have hwx := HM.out.pw x (List.mem_of_getElem? hx)
      have HST := Lib.hid (fbw_step (fun pre x => (b1M pre x, [])) ps k x hx)
      have htk : ps.take (k + 1) = ps.take k ++ [x] := by rw [List.take_add_one, hx]; rfl
      have HTK := Lib.hid htk
      have HLT := Lib.hid hlt
      have hki : (0 : Int) ≤ k := by omega
      have hkb : (k : Int) < np := by omega
      have HK1 : Hid (IntKind.i64.wrap ((k : Int) + 1) = (k : Int) + 1) := IntWalk.i64_in _ (by have := HP.out; omega)
      have hb4 : Below W.heap.size W (W.alloc (.cells #[.int .i64 x.id, .string x.nm, .bool x.may, .slice BB x.cs.length bc] 52)) := (Below.refl _ _).alloc (Nat.le_refl _) _
      have hx4 := heap_alloc_new W (.cells #[.int .i64 x.id, .string x.nm, .bool x.may, .slice BB x.cs.length bc] 52)
      obtain ⟨lp, hlp⟩ : ∃ lp, lastP (ps.take k) = lp := ⟨_, rfl⟩
      have HB1M : Hid (b1M (ps.take k) x = if rg x = 0 then (if x.id ≤ lp then 9 else if nmB (ps.take k) x.nm then 7 else 0) else rg x) := by show _ = _; rw [← hlp]; rfl
      rw [hlp]
      clear hlt hk hx htk hlp
      go_upto_region 6 with fail
      obtain ⟨W2, hW2⟩ : ∃ W2, W.alloc (.cells #[.int .i64 x.id, .string x.nm, .bool x.may, .slice BB x.cs.length bc] 52) = W2 := ⟨_, rfl⟩
      obtain ⟨Q, hQ⟩ : ∃ Q, W.heap.size = Q := ⟨_, rfl⟩
      have HQM : Hid (Q ≠ m) := by show _ ≠ _; have := HSM.out.blk; omega
      rw [hW2, hQ] at hx4
      rw [hW2] at hb4
      rw [hW2, hQ]
      have HXQ := Lib.hid hx4
      have HBX2 := Lib.hid ((hb4.block _ (lt_of_block HBX.out)).trans HBX.out)
      have HSM2 := Lib.hid (HSM.out.keep hb4)
      have HN2 := Lib.hid (HN.out.kept hb4)
      have HB2 := Lib.hid (HB.out.trans (hb4.mono HB.out.size))
      have HRI := Lib.hid (pright_any ⟨x.id, x.nm, x.may, BB, x.cs.length, bc⟩ hwx.1 hwx.2 W2)
      have HWX : Hid (x.nm.size ≤ maxLen) := hwx.2
      clear hb4 hW2 hQ e1 e2 e3 e4 HBX HSM HN HB hwx
      rw [rgt_rg] at HRI
      obtain ⟨rk, hrk⟩ : ∃ rk, rg x = rk := ⟨_, rfl⟩
      have HRL : Hid (rk ≤ 18) := by show _ ≤ _; rw [← hrk]; exact rg_le x
      rw [hrk] at HRI HB1M
      obtain ⟨id, nm, may, xcs⟩ := x
      dsimp only at HB1M HRI hx4 HWX
      clear hrk
      go_wp2_with ((with_reducible show wpList _ _ _ _ _ _); refine wpList_load_row rfl 52 (.tmp 6) rfl Q rfl 52 _ (0, 0) _ hx4 Tryz.underlying52 rfl (by kernel_rfl) ?_)
      refine HRI.out.mono ?_
      rintro e W3 ⟨rfl, hb3⟩
      have HB3 := Lib.hid (HB2.out.trans (hb3.mono HB2.out.size))
      have hx3 := (hb3.block _ (lt_of_block HXQ.out)).trans HXQ.out
      have HBX3 := Lib.hid ((hb3.block _ (lt_of_block HBX2.out)).trans HBX2.out)
      have HSM3 := Lib.hid (HSM2.out.keep hb3)
      have HN3 := Lib.hid (HN2.out.kept hb3)
      have d0 := cell_of_row _ _ 0 _ _ _ hx3
      have d1 := cell_of_row _ _ 1 _ _ _ hx3
      simp only [List.getElem?_toArray, List.getElem?_cons_zero, List.getElem?_cons_succ] at d0 d1
      have hlook := HSM3.out.look nm HWX.out
      have HX3 := Lib.hid hx3
      obtain ⟨nb, hnb⟩ : ∃ nb, nmB (ps.take k) nm = nb := ⟨_, rfl⟩
      rw [hnb] at hlook HB1M
      have HNB := Lib.hid hnb
      clear hb3 hx3 hx4 HBX2 HSM2 HN2 HB2 HXQ HRI hnb
      have hwrong : ∀ c : Nat, 1 ≤ c → c ≤ 18 → b1M (ps.take k) ⟨id, nm, may, xcs⟩ = c → ∀ (W' : World) (x : Value), IsFault W' x [(false, (k : Int))] c → WrongK W' x (secPt ps) := fun c h1 h2 h3 W' x h4 => by
        have h5 : fbw (fun pre x => (b1M pre x, [])) [] ps = (c, [(false, (k : Int))]) := by
          rw [HQ.out, HQK.out, HST.out, h3, if_neg (by omega)]
        unfold secPt
        rw [h5, if_neg (by dsimp only; omega)]
        exact .inr ⟨h1, h2, h4⟩
      have HWR := Lib.hid hwrong
      clear hwrong
      by_cases hr0 : rk = 0
      · subst hr0
        rw [if_pos rfl] at HB1M
        by_cases hle : id ≤ lp
        · have t1 : decide (id ≤ lp) = true := decide_eq_true hle
          have HC : Hid (b1M (ps.take k) ⟨id, nm, may, xcs⟩ = 9) := by show _ = _; rw [HB1M.out, if_pos hle]
          have HNW := Lib.hid (new_yes 9 (by omega) (by omega) W3 HN3.out)
          clear hle hlook
          go_wp2_with (first
            | (go_at_call 55; refine HNW.out.mono ?_; rintro e W4 ⟨rfl, rfl⟩)
            | (go_at_call 57; refine (at_any (k : Int) _ [] 9 W3 rfl).mono ?_; rintro e W5 ⟨y5, rfl, hy5, hb5⟩; have HY5 := Lib.hid (HWR.out 9 (by omega) (by omega) HC.out W5 y5 hy5); have HB5 := Lib.hid (HB3.out.trans (hb5.mono HB3.out.size)); clear hy5 hb5))
          go_ret
          exact ⟨_, rfl, HY5.out, HB5.out⟩
        · have t1 : decide (id ≤ lp) = false := decide_eq_false hle
          cases nb with
          | true =>
            have HC : Hid (b1M (ps.take k) ⟨id, nm, may, xcs⟩ = 7) := by show _ = _; rw [HB1M.out, if_neg hle]; rfl
            have HNW := Lib.hid (new_yes 7 (by omega) (by omega) W3 HN3.out)
            clear hle
            go_wp2_with (first
              | (go_at_call 55; refine HNW.out.mono ?_; rintro e W4 ⟨rfl, rfl⟩)
              | (go_at_call 57; refine (at_any (k : Int) _ [] 7 W3 rfl).mono ?_; rintro e W5 ⟨y5, rfl, hy5, hb5⟩; have HY5 := Lib.hid (HWR.out 7 (by omega) (by omega) HC.out W5 y5 hy5); have HB5 := Lib.hid (HB3.out.trans (hb5.mono HB3.out.size)); clear hy5 hb5))
            go_ret
            exact ⟨_, rfl, HY5.out, HB5.out⟩
          | false =>
            have HC : Hid (b1M (ps.take k) ⟨id, nm, may, xcs⟩ = 0) := by show _ = _; rw [HB1M.out, if_neg hle]; rfl
            obtain ⟨w', hru, hsm', hgr⟩ := HSM3.out.put nm HWX.out (by have := HP.out; have := HLT.out; omega)
            have HRU := Lib.hid hru
            have hx5 := (grown_other hgr (lt_of_block HX3.out) HQM.out).trans HX3.out
            have d0' := cell_of_row _ _ 0 _ _ _ hx5
            simp only [List.getElem?_toArray, List.getElem?_cons_zero, List.getElem?_cons_succ] at d0'
            have HREL : Hid (PmRel np w.heap.size m cs ps q w (.int .i64 id) (.int .i64 ((k + 1 : Nat) : Int)) w') := by
              refine ⟨k + 1, HLT.out, rfl, by rw [HTK.out, lastP_snoc], (grown_other hgr (lt_of_block HBX3.out) (by have := HMM.out; omega)).trans HBX3.out, ?_, ?_, ?_, HB3.out.grown hgr HB3.out.size (fun j hj => by have := Option.some.inj hj; have := HMM.out; omega)⟩
              · rw [HTK.out, ← nmB_snoc]; exact hsm'
              · rw [HQK.out, HST.out, if_pos HC.out]
              · obtain ⟨tt, htt⟩ := HN3.out
                exact ⟨tt, (grown_other hgr (lt_of_block htt) (by have h1 := HMM.out; have h2 := HNP.out; omega)).trans htt⟩
            clear hle hru hsm' hgr hx5
            have hk1 := HK1.out
            go_wp2_with (at_mapUpdate; refine wpList_upd _ rfl _ _ _ 105 rfl _ _ _ rfl rfl rfl w' HRU.out ?_)
            go_roundw
            case rel => exact HREL.out
            case measure => have := HLT.out; simp [intOf]; omega
      · have t0 : ((rk : Int) != 0) = true := by simp [hr0]
        have HC : Hid (b1M (ps.take k) ⟨id, nm, may, xcs⟩ = rk) := by show _ = _; rw [HB1M.out, if_neg hr0]
        have hr1 : 1 ≤ rk := by omega
        have HNW := Lib.hid (new_yes rk hr1 HRL.out W3 HN3.out)
        have HR1 : Hid (1 ≤ rk) := hr1
        clear hr0 hlook hr1
        go_wp2_with (first
          | (go_at_call 55; refine HNW.out.mono ?_; rintro e W4 ⟨rfl, rfl⟩)
          | (go_at_call 57; refine (at_any (k : Int) _ [] rk W3 rfl).mono ?_; rintro e W5 ⟨y5, rfl, hy5, hb5⟩; have HY5 := Lib.hid (HWR.out rk HR1.out HRL.out HC.out W5 y5 hy5); have HB5 := Lib.hid (HB3.out.trans (hb5.mono HB3.out.size)); clear hy5 hb5))
        go_ret
        exact ⟨_, rfl, HY5.out, HB5.out⟩
    · obtain rfl : np = k := by omega
      have x2 := cell_of_row _ _ 2 _ _ _ HBX.out
      rw [← HCS.out] at x2
      simp only [List.getElem?_toArray, List.getElem?_cons_zero, List.getElem?_cons_succ] at x2
      have HMN := Lib.hid (many_any np 1 32 W HN.out)
      have HSP : Hid (secPt ps = manyM np 1 32) := by
        have h1 : fbw (fun pre x => (b1M pre x, [])) [] ps = (0, []) := by
          have h2 := HQK.out
          have hpl := HM.out.pl
          rw [← hpl, fbw_end] at h2
          rw [HQ.out, h2]
        show secPt ps = _
        unfold secPt
        rw [h1, if_pos rfl, HM.out.pl]
      clear hlt hk
      go_wp2_with (go_at_call 58; refine HMN.out.mono ?_; rintro e W5 ⟨y5, rfl, hy5, rfl⟩; have HY5 := Lib.hid hy5; clear hy5)
      go_ret
      exact ⟨_, rfl, by rw [HSP.out]; exact HY5.out, HB.out⟩
end

end Go.Proofs.YtmcmmbkodllpkaaGreatDoor.Chk
