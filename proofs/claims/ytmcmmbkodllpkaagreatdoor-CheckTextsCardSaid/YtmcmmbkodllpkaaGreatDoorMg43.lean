/- The document's two: what is wrong with a module's partitions, and with its schedules. Condition: at most a thousand of each, its schedules at most 400 windows. -/
import Derived.Test.YtmcmmbkodllpkaaGreatDoorMg42
namespace Go.Proofs.YtmcmmbkodllpkaaGreatDoor.Chk

open Go.RowKit Go.PlainAid Go.Proofs.YtmcmmbkodllpkaaGreatDoor.Flt Go.Proofs.YtmcmmbkodllpkaaGreatDoor.Rdr Go.Proofs.YtmcmmbkodllpkaaGreatDoor.Win Go.Proofs.YtmcmmbkodllpkaaGreatDoor.Nee Go.Proofs.YtmcmmbkodllpkaaGreatDoor.Rel

open Go.Proofs.YtmcmmbkodllpkaaGreatDoor.Cel (own_slice own_keep own_base)

open Go.Proofs.YtmcmmbkodllpkaaGreatDoor.Prt (PT PartsAt)

open Go.Proofs.YtmcmmbkodllpkaaGreatDoor.Scd (SC ScdAt ScdAt.kept)

open Go.Proofs.YtmcmmbkodllpkaaGreatDoor.Pai (P2 PairsAt PairsAt.kept)

open Go.Proofs.YtmcmmbkodllpkaaGreatDoor.Act (A3 ActsAt ActsAt.kept I64 Wide)

open Go.Proofs.YtmcmmbkodllpkaaGreatDoor.Lat (LP LS LPAt LSAt MAt cparts_any cscheds_any rscheds_any long_any LongPost PidPost IdsPost ZAt ZAt.kept zat_own)

set_option linter.unusedVariables false

set_option linter.unusedSimpArgs false

open Go.Proofs.YtmcmmbkodllpkaaGreatDoor.Prt (rg rg_le lastP lastP_snoc ptC P4 rgtP pright08_any WideP PartsAt.kept)

open Go.Proofs.YtmcmmbkodllpkaaGreatDoor.Scd (WideS scC rgS rgS_le rgS_in rowB lastS lastS_snoc sright09_any)

def twoM (ps : List PT) (ss : List SC) : KW := inS 2 (secPt ps) (inS 3 (secSc (ps.map PT.id) ss) (0, []))
/-- A fault, as the document tells it. -/
def fV (q : KW) : Value := fltV q.1 (secOf q.2) (atOf q.2)
def fC (q : KW) : Array Value := #[.int .i64 q.1, .int .i64 (secOf q.2), .int .i64 (atOf q.2)]
def eJ (e0 : Nat) (pre : List PT) (nm : ByteArray) : Nat := if e0 = 0 then (if nmB pre nm then 7 else 0) else e0
theorem eJ_nil (e0 : Nat) (nm : ByteArray) : eJ e0 [] nm = e0 := by
  unfold eJ nmB
  simp
  omega
theorem eJ_pos {e0 : Nat} (h : e0 ≠ 0) (pre : List PT) (nm : ByteArray) : eJ e0 pre nm = e0 := by unfold eJ; rw [if_neg h]
theorem nmB_snoc' (pre : List PT) (x : PT) (nm : ByteArray) : nmB (pre ++ [x]) nm = (nmB pre nm || eqS x.nm nm) := by rw [← nmB_snoc]
theorem eJ_snoc (pre : List PT) (x : PT) (nm : ByteArray) : eJ 0 (pre ++ [x]) nm = if nmB pre nm then 7 else (if eqS x.nm nm then 7 else 0) := by
  unfold eJ
  rw [if_pos rfl, nmB_snoc']
  cases nmB pre nm <;> cases eqS x.nm nm <;> rfl
theorem eJ_0 (pre : List PT) (nm : ByteArray) : eJ 0 pre nm = if nmB pre nm then 7 else 0 := by unfold eJ; rw [if_pos rfl]
theorem b1M_eJ (pre : List PT) (x : PT) : b1M pre x = eJ (if rg x = 0 then (if x.id ≤ lastP pre then 9 else 0) else rg x) pre x.nm := by
  unfold b1M eJ
  by_cases h : rg x = 0
  · rw [if_pos h, if_pos h]
    by_cases h2 : x.id ≤ lastP pre
    · rw [if_pos h2, if_pos h2, if_neg (by omega)]
    · rw [if_neg h2, if_neg h2, if_pos rfl]
  · rw [if_neg h, if_neg h, if_neg h]
theorem rg_id0 {x : PT} (h : rg x = 0) : 0 ≤ x.id := by
  unfold rg rgtP at h
  split at h
  · omega
  · rename_i h1
    simp at h1
    omega
theorem below_refl_drew (w : World) : Below w.heap.size w w.drew := ⟨rfl, rfl, rfl, Nat.le_refl _, fun _ _ => rfl⟩
section

variable {w : World} {PA SA QA AA : Option Addr} {np pc ns sc nQ qc na acp : Nat} {ps : List PT} {ss : List SC} {qs : List P2} {av : List A3} {e f : Int} {lp : List LP} {ls : List LS} {lq : List Go.Proofs.YtmcmmbkodllpkaaGreatDoor.Lat.P2}

/-- How many are looked at; nothing is wrong so far. -/
def TwRel (np : Nat) (ps : List PT) (W1 : World) (i : Value) (W : World) : Prop :=
  ∃ k : Nat, k ≤ np ∧ i = .int .i64 (k : Int) ∧ fbw (fun pre x => (b1M pre x, [])) [] ps = fbw (fun pre x => (b1M pre x, [])) (ps.take k) (ps.drop k) ∧ Below W1.heap.size W1 W
def NmRel (e0 : Nat) (ps : List PT) (nm : ByteArray) (i : Nat) (W3 : World) (v j : Value) (W : World) : Prop :=
  ∃ k : Nat, k ≤ i ∧ j = .int .i64 (k : Int) ∧ v = .int .i64 (eJ e0 (ps.take k) nm : Nat) ∧ Below W3.heap.size W3 W
/-- How many schedules are looked at; nothing is wrong so far. -/
def SwRel (ns : Nat) (ids : List Int) (ss : List SC) (W1 : World) (i : Value) (W : World) : Prop :=
  ∃ k : Nat, k ≤ ns ∧ i = .int .i64 (k : Int) ∧ fbw (fun pre x => oneS ids (lastS pre) x) [] ss = fbw (fun pre x => oneS ids (lastS pre) x) (ss.take k) (ss.drop k) ∧ Below W1.heap.size W1 W
theorem tq_of {tq : KW} {ids : List Int} {k : Nat} {x : SC} {c : Nat} {rest : List (Bool × Int)} (h1 : tq = inS 3 (secSc ids ss) (0, [])) (h2 : fbw (fun pre x => oneS ids (lastS pre) x) [] ss = fbw (fun pre x => oneS ids (lastS pre) x) (ss.take k) (ss.drop k)) (h3 : fbw (fun pre x => oneS ids (lastS pre) x) (ss.take k) (ss.drop k) = if (oneS ids (lastS (ss.take k)) x).1 = 0 then fbw (fun pre x => oneS ids (lastS pre) x) (ss.take (k + 1)) (ss.drop (k + 1)) else ((oneS ids (lastS (ss.take k)) x).1, (false, (k : Int)) :: (oneS ids (lastS (ss.take k)) x).2)) (h : oneS ids (lastS (ss.take k)) x = (c, rest)) (hc : c ≠ 0) : tq = (c, (true, 3) :: (false, (k : Int)) :: rest) := by
  rw [h, if_neg hc] at h3
  have h4 : secSc ids ss = (c, (false, (k : Int)) :: rest) := by unfold secSc; rw [h2, h3, if_neg hc]
  rw [h1, h4, inS, if_neg hc]
theorem st_of {ids : List Int} {k : Nat} {x : SC} {rest : List (Bool × Int)} (h2 : fbw (fun pre x => oneS ids (lastS pre) x) [] ss = fbw (fun pre x => oneS ids (lastS pre) x) (ss.take k) (ss.drop k)) (h3 : fbw (fun pre x => oneS ids (lastS pre) x) (ss.take k) (ss.drop k) = if (oneS ids (lastS (ss.take k)) x).1 = 0 then fbw (fun pre x => oneS ids (lastS pre) x) (ss.take (k + 1)) (ss.drop (k + 1)) else ((oneS ids (lastS (ss.take k)) x).1, (false, (k : Int)) :: (oneS ids (lastS (ss.take k)) x).2)) (h : oneS ids (lastS (ss.take k)) x = (0, rest)) : fbw (fun pre x => oneS ids (lastS pre) x) [] ss = fbw (fun pre x => oneS ids (lastS pre) x) (ss.take (k + 1)) (ss.drop (k + 1)) := by
  rw [h, if_pos rfl] at h3
  exact h2.trans h3
theorem pids_any (hm : MAt w PA SA QA np ns nQ lp ls lq) (hl : np ≤ 1000) (h : BMod w PA SA QA AA np ns nQ na ps ss qs av) :
    Calls Tryz.prog 13 #[.agg #[.int .u64 e, .int .i64 f, .slice PA np pc, .slice SA ns sc, .slice QA nQ qc, .slice AA na acp]] w fun e w' => ∃ A c, e = .returned (.slice A np c) ∧ IntsBelow w'.heap.size w' (.slice A np c) (ps.map PT.id) ∧ Below w.heap.size w w' := by
  refine (Go.Proofs.YtmcmmbkodllpkaaGreatDoor.Lat.rparts_any hm (by omega)).mono ?_
  rintro e' w' ⟨V, rfl, ho, hb⟩
  obtain ⟨A, c, rfl⟩ := own_slice ho
  rw [hm.pl] at ho ⊢
  have e1 : (lp.map fun x => Value.int .i64 x.id) = (lp.map LP.id).map (Value.int .i64) := by rw [List.map_map]; rfl
  rw [e1, link_p hm.p h.p (by rw [hm.pl, h.pl])] at ho
  exact ⟨A, c, rfl, ints_own ho, hb⟩
set_option maxRecDepth 8000 in
set_option maxHeartbeats 12800000 in
theorem two_any (h : BMod w PA SA QA AA np ns nQ na ps ss qs av) (hm : MAt w PA SA QA np ns nQ lp ls lq) (hp : np ≤ 1000) (hs : ns ≤ 1000) (hw : ∀ x ∈ ss, x.ws.length ≤ 400 ∧ x.ns.length ≤ 9223372036854775807) :
    Calls Tryz.prog 25 #[.agg #[.int .u64 e, .int .i64 f, .slice PA np pc, .slice SA ns sc, .slice QA nQ qc, .slice AA na acp]] w fun e w' => e = .returned (fV (twoM ps ss)) ∧ Below w.heap.size w w' := by
  have hb0 : Below w.heap.size w ((w.alloc (.cells #[.int .u64 e, .int .i64 f, .slice PA np pc, .slice SA ns sc, .slice QA nQ qc, .slice AA na acp] 28)).alloc (.cells #[.int .i64 0, .int .i64 0, .int .i64 0] 36)) := ((Below.refl _ _).alloc (Nat.le_refl _) _).alloc (by simp) _
  have hx0 : ((w.alloc (.cells #[.int .u64 e, .int .i64 f, .slice PA np pc, .slice SA ns sc, .slice QA nQ qc, .slice AA na acp] 28)).alloc (.cells #[.int .i64 0, .int .i64 0, .int .i64 0] 36)).heap[w.heap.size]? = some (.cells #[.int .u64 e, .int .i64 f, .slice PA np pc, .slice SA ns sc, .slice QA nQ qc, .slice AA na acp] 28 (0, 0)) := (heap_alloc_old _ _ (by simp)).trans (heap_alloc_new _ _)
  have hr0 : ((w.alloc (.cells #[.int .u64 e, .int .i64 f, .slice PA np pc, .slice SA ns sc, .slice QA nQ qc, .slice AA na acp] 28)).alloc (.cells #[.int .i64 0, .int .i64 0, .int .i64 0] 36)).heap[w.heap.size + 1]? = some (.cells #[.int .i64 0, .int .i64 0, .int .i64 0] 36 (0, 0)) := by
    have h := heap_alloc_new (w.alloc (.cells #[.int .u64 e, .int .i64 f, .slice PA np pc, .slice SA ns sc, .slice QA nQ qc, .slice AA na acp] 28)) (.cells #[.int .i64 0, .int .i64 0, .int .i64 0] 36)
    rwa [World.size_alloc] at h
  obtain ⟨W1, hW1⟩ : ∃ W, (w.alloc (.cells #[.int .u64 e, .int .i64 f, .slice PA np pc, .slice SA ns sc, .slice QA nQ qc, .slice AA na acp] 28)).alloc (.cells #[.int .i64 0, .int .i64 0, .int .i64 0] 36) = W := ⟨_, rfl⟩
  rw [hW1] at hb0 hx0 hr0
  have HW1 := Lib.hid hW1
  have HB0 := Lib.hid hb0
  have HMB : Hid (∀ W, Below W1.heap.size W1 W → W.cell? ⟨w.heap.size, 2, none⟩ = some (.slice PA np pc) ∧ W.cell? ⟨w.heap.size, 3, none⟩ = some (.slice SA ns sc)) := fun W b => by
    have hx := (b.block _ (lt_of_block hx0)).trans hx0
    exact ⟨by rw [cell_of_row _ _ _ _ _ _ hx]; rfl, by rw [cell_of_row _ _ _ _ _ _ hx]; rfl⟩
  have HMX : Hid (∀ W, Below W1.heap.size W1 W → W.heap[w.heap.size]? = some (.cells #[.int .u64 e, .int .i64 f, .slice PA np pc, .slice SA ns sc, .slice QA nQ qc, .slice AA na acp] 28 (0, 0))) := fun W b => (b.block _ (lt_of_block hx0)).trans hx0
  have HRX : Hid (∀ W, Below W1.heap.size W1 W → W.heap[w.heap.size + 1]? = some (.cells #[.int .i64 0, .int .i64 0, .int .i64 0] 36 (0, 0))) := fun W b => (b.block _ (lt_of_block hr0)).trans hr0
  have HBW : Hid (∀ W, Below W1.heap.size W1 W → Below w.heap.size w W) := fun W b => hb0.trans (b.mono hb0.size)
  have HFIN : Hid (∀ (W : World) (q : KW), Below W1.heap.size W1 W → Below w.heap.size w (W.setRow (w.heap.size + 1) (fC q))) := fun W q b => by
    have h1 := hb0.trans (b.mono hb0.size)
    exact h1.trans ⟨rfl, rfl, rfl, by simp, fun k hk => setRow_other _ _ _ _ (by omega)⟩
  have HM := Lib.hid h
  have HMM := Lib.hid hm
  have HP : Hid (np ≤ 1000) := hp
  have HSN : Hid (ns ≤ 1000) := hs
  have HWN := Lib.hid hw
  obtain ⟨tq, htq⟩ : ∃ q, twoM ps ss = q := ⟨_, rfl⟩
  have HTQ := Lib.hid htq
  rw [htq]
  clear h hm hp hs hw hb0 hx0 hr0 hW1 htq
  go_enter Tryz.func25, Tryz.ntmps25
  go_upto_region 1 with fail
  rw [HW1.out]
  go_wp2_with fail
  go_loopw [3] (fun i W => TwRel np ps W1 i W) (fun i _ => np - (intOf i).toNat)
  case atStart => exact ⟨0, Nat.zero_le _, rfl, by rw [List.take_zero, List.drop_zero], Below.refl _ _⟩
  case round =>
    rename World => W
    obtain ⟨k, hk, rfl, hfb, hb⟩ := hrel
    have HFB := Lib.hid hfb
    have HB := Lib.hid hb
    have HBW0 := Lib.hid (HBW.out W hb)
    obtain ⟨m2, m3⟩ := HMB.out W hb
    clear hfb hb
    by_cases hlt : k < np
    · obtain ⟨x, hx⟩ : ∃ x, ps[k]? = some x := ⟨_, List.getElem?_eq_getElem (by rw [HM.out.pl]; exact hlt)⟩
      obtain ⟨y, BB, bc, rfl, e1, e2, e3, e4, -, -, -, -⟩ := (HM.out.kept HBW0.out).p k x hx
      have hwx := HM.out.pw x (List.mem_of_getElem? hx)
      have HST := Lib.hid (fbw_step (fun pre x => (b1M pre x, [])) ps k x hx)
      have HLT := Lib.hid hlt
      have hki : (0 : Int) ≤ k := by omega
      have hkb : (k : Int) < np := by omega
      have hk1 : IntKind.i64.wrap ((k : Int) + 1) = (k : Int) + 1 := IntWalk.i64_in _ (by have := HP.out; omega)
      have hb4 : Below W.heap.size W (W.alloc (.cells #[.int .i64 x.id, .string x.nm, .bool x.may, .slice BB x.cs.length bc] 52)) := (Below.refl _ _).alloc (Nat.le_refl _) _
      have hx4 := heap_alloc_new W (.cells #[.int .i64 x.id, .string x.nm, .bool x.may, .slice BB x.cs.length bc] 52)
      have HX := Lib.hid hx
      have HBE := Lib.hid (b1M_eJ (ps.take k) x)
      clear hlt hx
      go_upto_region 5 with fail
      obtain ⟨W2, hW2⟩ : ∃ W2, W.alloc (.cells #[.int .i64 x.id, .string x.nm, .bool x.may, .slice BB x.cs.length bc] 52) = W2 := ⟨_, rfl⟩
      obtain ⟨Q, hQ⟩ : ∃ Q, W.heap.size = Q := ⟨_, rfl⟩
      rw [hW2, hQ] at hx4
      rw [hW2] at hb4
      rw [hW2, hQ]
      have HXQ := Lib.hid hx4
      have HB2 := Lib.hid (HB.out.trans (hb4.mono HB.out.size))
      have HRI := Lib.hid (pright08_any ⟨x.id, x.nm, x.may, BB, x.cs.length, bc⟩ hwx.2 W2)
      have HWX : Hid (x.nm.size ≤ maxLen) := hwx.2
      clear hb4 hW2 hQ e1 e2 e3 e4 hwx m2 m3
      rw [rgt_rg] at HRI
      have HRG0 : Hid (rg x = 0 → 0 ≤ x.id) := rg_id0
      obtain ⟨rk, hrk⟩ : ∃ rk, rg x = rk := ⟨_, rfl⟩
      have HRL : Hid (rk ≤ 18) := by show _ ≤ _; rw [← hrk]; exact rg_le x
      rw [hrk] at HRI HBE HRG0
      clear hrk
      go_wp2_with ((with_reducible show wpList _ _ _ _ _ _); refine wpList_load_row rfl 52 (.tmp 4) rfl Q rfl 52 _ (0, 0) _ hx4 Tryz.underlying52 rfl (by kernel_rfl) ?_)
      refine HRI.out.mono ?_
      rintro e W3 ⟨rfl, hb3⟩
      have HB3 := Lib.hid (HB2.out.trans (hb3.mono HB2.out.size))
      have hx3 := (hb3.block _ (lt_of_block HXQ.out)).trans HXQ.out
      have HX3 := Lib.hid hx3
      have d0 := cell_of_row _ _ 0 _ _ _ hx3
      have d1 := cell_of_row _ _ 1 _ _ _ hx3
      simp only [List.getElem?_toArray, List.getElem?_cons_zero, List.getElem?_cons_succ] at d0 d1
      obtain ⟨m2, m3⟩ := HMB.out W3 HB3.out
      have HPT : Hid (∀ W', Below W3.heap.size W3 W' → PartsAt W' (some y) ps) := fun W' b => (HM.out.kept (HBW.out W' (HB3.out.trans (b.mono HB3.out.size)))).p
      clear hb3 hx3 hx4 HXQ HRI HB2
      by_cases hr0 : rk = 0
      rotate_left
      · have t0 : ((rk : Int) == 0) = false := by simp [hr0]
        have HR0 : Hid (rk ≠ 0) := hr0
        go_wp2
        go_quiet (fail)
        have HE1 : Hid (b1M (ps.take k) x = eJ rk (ps.take k) x.nm) := by
          show _ = _
          rw [HBE.out]
          rw [if_neg hr0]
        have HWQ : Hid (Below W3.heap.size W3 (W3.drewN nq)) := ⟨rfl, rfl, rfl, Nat.le_refl _, fun _ _ => rfl⟩
        clear HBE
        obtain ⟨WQ, hWQ⟩ : ∃ WQ, W3.drewN nq = WQ := ⟨_, rfl⟩
        rw [hWQ] at HWQ
        rw [hWQ]
        clear hWQ d0 d1 m2 m3
        go_wp2
        go_loopw [5, 6] (fun v j W' => NmRel rk ps x.nm k W3 v j W') (fun _ j _ => k - (intOf j).toNat)
        case atStart => exact ⟨0, Nat.zero_le _, rfl, by (rw [List.take_zero, eJ_nil]; try rfl), HWQ.out⟩
        case round =>
          rename World => W5
          obtain ⟨j, hj, rfl, rfl, hb5⟩ := hrel
          have HB5 := Lib.hid hb5
          have HBW5 := Lib.hid (HB3.out.trans (hb5.mono HB3.out.size))
          obtain ⟨m2, m3⟩ := HMB.out W5 HBW5.out
          have hx5 := (hb5.block _ (lt_of_block HX3.out)).trans HX3.out
          have d0 := cell_of_row _ _ 0 _ _ _ hx5
          have d1 := cell_of_row _ _ 1 _ _ _ hx5
          simp only [List.getElem?_toArray, List.getElem?_cons_zero, List.getElem?_cons_succ] at d0 d1
          by_cases hjk : j < k
          · obtain ⟨z, hz⟩ : ∃ z, ps[j]? = some z := ⟨_, List.getElem?_eq_getElem (by rw [HM.out.pl]; have := HLT.out; omega)⟩
            obtain ⟨y', BZ, bz, hy', f1, f2, -, -, -, -, -, -⟩ := HPT.out W5 hb5 j z hz
            obtain rfl := Option.some.inj hy'
            have HJK : Hid (j < k) := hjk
            have htz : ps.take (j + 1) = ps.take j ++ [z] := by rw [List.take_add_one, hz]; rfl
            have g0 : (0 : Int) ≤ j := by omega
            have g1 : (j : Int) < np := by omega
            have g2 : decide ((j : Int) < (k : Int)) = true := decide_eq_true (by omega)
            have gj1 : IntKind.i64.wrap ((j : Int) + 1) = (j : Int) + 1 := IntWalk.i64_in _ (by have := HP.out; omega)
            have HEN : Hid (eJ rk (ps.take (j + 1)) x.nm = rk) := eJ_pos HR0.out _ _
            rw [eJ_pos HR0.out]
            clear hjk hj hz htz hy' hb5 hx5
            go_wp2
            go_quiet (fail)
            have HBQ : Hid (Below W5.heap.size W5 (W5.drewN nq)) := ⟨rfl, rfl, rfl, Nat.le_refl _, fun _ _ => rfl⟩
            obtain ⟨W6, hW6⟩ : ∃ W6, W5.drewN nq = W6 := ⟨_, rfl⟩
            rw [hW6] at HBQ
            rw [hW6]
            clear hW6 m2 m3 d0 d1 f1 f2
            go_wp2
            go_roundw
            case rel => exact ⟨j + 1, HJK.out, by go_num, by (rw [HEN.out]; try rfl), HB5.out.trans (HBQ.out.mono HB5.out.size)⟩
            case measure => have := HJK.out; simp [intOf]; omega
          · obtain rfl : j = k := by omega
            have hb1 := HE1.out
            rw [← hb1]
            have hle := b1M_le (ps.take j) x
            obtain ⟨c, hc⟩ : ∃ c, b1M (ps.take j) x = c := ⟨_, rfl⟩
            have hst := HST.out
            rw [hc] at hst hle ⊢
            have g2 : decide ((j : Int) < (j : Int)) = false := decide_eq_false (by omega)
            by_cases hc0 : c = 0
            · subst hc0
              rw [if_pos rfl] at hst
              have HST2 : Hid (fbw (fun pre x => (b1M pre x, [])) [] ps = fbw (fun pre x => (b1M pre x, [])) (ps.take (j + 1)) (ps.drop (j + 1))) := HFB.out.trans hst
              clear hb1 hle hc hst hjk hj hb5 hx5
              go_wp2
              go_roundw
              case rel => exact ⟨j + 1, HLT.out, by go_num, HST2.out, HBW5.out⟩
              case measure => have := HLT.out; simp [intOf]; omega
            · rw [if_neg hc0] at hst
              have htq : tq = (c, [(true, 2), (false, (j : Int))]) := by
                rw [← HTQ.out]
                unfold twoM
                have h1 : secPt ps = (c, [(false, (j : Int))]) := by unfold secPt; rw [HFB.out, hst, if_neg hc0]
                rw [h1, inS, if_neg hc0]
              have HTC := Lib.hid htq
              have tc : ((c : Int) != 0) = true := by simp [hc0]
              clear hb1 hle hc hst hjk hj hb5 hx5 hc0 htq
              have HBD := Lib.hid (bad_any (c : Int) 2 (j : Int) W5)
              have HBL := Lib.hid HBW5.out
              clear m2 m3 d0 d1
              go_wp2_with (first
                | (go_at_call 24; refine HBD.out.mono ?_; rintro e W8 ⟨rfl, hb8⟩; have HBL8 := Lib.hid (HBL.out.trans (hb8.mono HBL.out.size)); have HR8 := Lib.hid (HRX.out _ HBL8.out); clear hb8)
                | ((with_reducible show wpList _ _ _ _ _ _); refine wpList_store_row rfl 36 (.tmp 2) (.tmp 64) rfl (w.heap.size + 1) #[.int .i64 (c : Int), .int .i64 2, .int .i64 (j : Int)] rfl rfl 36 #[.int .i64 0, .int .i64 0, .int .i64 0] HR8.out (by rw [size_flt]; rfl) rfl (one_flt _ _ _) ?_))
              refine bodyPost_ret (v := fltV (c : Int) 2 (j : Int)) (results_cell_row (by rfl) _ _ (w.heap.size + 1) 36 _ (0, 0) _ rfl (setRow_heap _ _ _ _ _ _ HR8.out) Tryz.underlying36 rfl (by rw [size_flt]; rfl)) rfl ⟨by rw [HTC.out]; rfl, ?_⟩
              exact HB0.out.trans ((HBL8.out.mono HB0.out.size).trans ⟨rfl, rfl, rfl, by simp, fun b hb => setRow_other _ _ _ _ (by omega)⟩)
      subst hr0
      have t0 : (((0 : Nat) : Int) == 0) = true := rfl
      have HR0 := Lib.hid (show (9 : Nat) ≠ 0 by decide)
      by_cases hk0 : k = 0
      · have hlp : ¬ x.id ≤ lastP (ps.take k) := by
          rw [hk0]
          have h1 := HRG0.out rfl
          show ¬ x.id ≤ -1
          omega
        have tg : decide ((0 : Int) < (k : Int)) = false := decide_eq_false (by omega)
        have tgn : decide (0 < k) = false := decide_eq_false (by omega)
        have HK0 := Lib.hid hk0
        have HLP := Lib.hid hlp
        clear hk0 hlp
        go_wp2
        go_quiet (fail)
        have HE1 : Hid (b1M (ps.take k) x = eJ 0 (ps.take k) x.nm) := by
          show _ = _
          rw [HBE.out]
          (first | rw [if_pos rfl] | rw [if_pos trivial]); rw [if_neg (by have := HLP.out; omega)]
        have HWQ : Hid (Below W3.heap.size W3 (W3.drewN nq)) := ⟨rfl, rfl, rfl, Nat.le_refl _, fun _ _ => rfl⟩
        clear HBE
        obtain ⟨WQ, hWQ⟩ : ∃ WQ, W3.drewN nq = WQ := ⟨_, rfl⟩
        rw [hWQ] at HWQ
        rw [hWQ]
        clear hWQ d0 d1 m2 m3
        go_wp2
        go_loopw [5, 6] (fun v j W' => NmRel 0 ps x.nm k W3 v j W') (fun _ j _ => k - (intOf j).toNat)
        case atStart => exact ⟨0, Nat.zero_le _, rfl, by (rw [List.take_zero, eJ_nil]; try rfl), HWQ.out⟩
        case round =>
          rename World => W5
          obtain ⟨j, hj, rfl, rfl, hb5⟩ := hrel
          have HB5 := Lib.hid hb5
          have HBW5 := Lib.hid (HB3.out.trans (hb5.mono HB3.out.size))
          obtain ⟨m2, m3⟩ := HMB.out W5 HBW5.out
          have hx5 := (hb5.block _ (lt_of_block HX3.out)).trans HX3.out
          have d0 := cell_of_row _ _ 0 _ _ _ hx5
          have d1 := cell_of_row _ _ 1 _ _ _ hx5
          simp only [List.getElem?_toArray, List.getElem?_cons_zero, List.getElem?_cons_succ] at d0 d1
          by_cases hjk : j < k
          · obtain ⟨z, hz⟩ : ∃ z, ps[j]? = some z := ⟨_, List.getElem?_eq_getElem (by rw [HM.out.pl]; have := HLT.out; omega)⟩
            obtain ⟨y', BZ, bz, hy', f1, f2, -, -, -, -, -, -⟩ := HPT.out W5 hb5 j z hz
            obtain rfl := Option.some.inj hy'
            have HJK : Hid (j < k) := hjk
            have htz : ps.take (j + 1) = ps.take j ++ [z] := by rw [List.take_add_one, hz]; rfl
            have g0 : (0 : Int) ≤ j := by omega
            have g1 : (j : Int) < np := by omega
            have g2 : decide ((j : Int) < (k : Int)) = true := decide_eq_true (by omega)
            have gj1 : IntKind.i64.wrap ((j : Int) + 1) = (j : Int) + 1 := IntWalk.i64_in _ (by have := HP.out; omega)
            rw [eJ_0]
            have hen := eJ_snoc (ps.take j) z x.nm
            rw [← htz] at hen
            clear hjk hj hz htz hb5 hx5
            cases hnb : nmB (ps.take j) x.nm with
            | true =>
              rw [hnb, if_pos rfl] at hen
              rw [if_pos rfl]
              have HEN := Lib.hid hen
              have t7 : (((7 : Nat) : Int) == 0) = false := rfl
              clear hen hnb
              go_wp2
              go_quiet (fail)
              have HBQ : Hid (Below W5.heap.size W5 (W5.drewN nq)) := ⟨rfl, rfl, rfl, Nat.le_refl _, fun _ _ => rfl⟩
              obtain ⟨W6, hW6⟩ : ∃ W6, W5.drewN nq = W6 := ⟨_, rfl⟩
              rw [hW6] at HBQ
              rw [hW6]
              clear hW6 m2 m3 d0 d1 f1 f2
              go_wp2
              go_roundw
              case rel => exact ⟨j + 1, HJK.out, by go_num, by (rw [HEN.out]; try rfl), HB5.out.trans (HBQ.out.mono HB5.out.size)⟩
              case measure => have := HJK.out; simp [intOf]; omega
            | false =>
              rw [hnb, if_neg (by simp)] at hen
              rw [if_neg (by simp)]
              have t7 : (((0 : Nat) : Int) == 0) = true := rfl
              cases hqs : eqS z.nm x.nm with
              | true =>
                rw [hqs, if_pos rfl] at hen
                have HEN := Lib.hid hen
                unfold eqS at hqs
                have hqt : (z.nm.toList == x.nm.toList) = true := by rw [ByteArray.toList_eq, ByteArray.toList_eq]; exact hqs
                clear hen hnb
                go_wp2
                go_quiet (fail)
                have HBQ : Hid (Below W5.heap.size W5 (W5.drewN nq)) := ⟨rfl, rfl, rfl, Nat.le_refl _, fun _ _ => rfl⟩
                obtain ⟨W6, hW6⟩ : ∃ W6, W5.drewN nq = W6 := ⟨_, rfl⟩
                rw [hW6] at HBQ
                rw [hW6]
                clear hW6 m2 m3 d0 d1 f1 f2
                go_wp2
                go_roundw
                case rel => exact ⟨j + 1, HJK.out, by go_num, by (rw [HEN.out]; try rfl), HB5.out.trans (HBQ.out.mono HB5.out.size)⟩
                case measure => have := HJK.out; simp [intOf]; omega
              | false =>
                rw [hqs, if_neg (by simp)] at hen
                have HEN := Lib.hid hen
                unfold eqS at hqs
                have hqt : (z.nm.toList == x.nm.toList) = false := by rw [ByteArray.toList_eq, ByteArray.toList_eq]; exact hqs
                clear hen hnb
                go_wp2
                go_quiet (fail)
                have HBQ : Hid (Below W5.heap.size W5 (W5.drewN nq)) := ⟨rfl, rfl, rfl, Nat.le_refl _, fun _ _ => rfl⟩
                obtain ⟨W6, hW6⟩ : ∃ W6, W5.drewN nq = W6 := ⟨_, rfl⟩
                rw [hW6] at HBQ
                rw [hW6]
                clear hW6 m2 m3 d0 d1 f1 f2
                go_wp2
                go_roundw
                case rel => exact ⟨j + 1, HJK.out, by go_num, by (rw [HEN.out]; try rfl), HB5.out.trans (HBQ.out.mono HB5.out.size)⟩
                case measure => have := HJK.out; simp [intOf]; omega
          · obtain rfl : j = k := by omega
            have hb1 := HE1.out
            rw [← hb1]
            have hle := b1M_le (ps.take j) x
            obtain ⟨c, hc⟩ : ∃ c, b1M (ps.take j) x = c := ⟨_, rfl⟩
            have hst := HST.out
            rw [hc] at hst hle ⊢
            have g2 : decide ((j : Int) < (j : Int)) = false := decide_eq_false (by omega)
            by_cases hc0 : c = 0
            · subst hc0
              rw [if_pos rfl] at hst
              have HST2 : Hid (fbw (fun pre x => (b1M pre x, [])) [] ps = fbw (fun pre x => (b1M pre x, [])) (ps.take (j + 1)) (ps.drop (j + 1))) := HFB.out.trans hst
              clear hb1 hle hc hst hjk hj hb5 hx5
              go_wp2
              go_roundw
              case rel => exact ⟨j + 1, HLT.out, by go_num, HST2.out, HBW5.out⟩
              case measure => have := HLT.out; simp [intOf]; omega
            · rw [if_neg hc0] at hst
              have htq : tq = (c, [(true, 2), (false, (j : Int))]) := by
                rw [← HTQ.out]
                unfold twoM
                have h1 : secPt ps = (c, [(false, (j : Int))]) := by unfold secPt; rw [HFB.out, hst, if_neg hc0]
                rw [h1, inS, if_neg hc0]
              have HTC := Lib.hid htq
              have tc : ((c : Int) != 0) = true := by simp [hc0]
              clear hb1 hle hc hst hjk hj hb5 hx5 hc0 htq
              have HBD := Lib.hid (bad_any (c : Int) 2 (j : Int) W5)
              have HBL := Lib.hid HBW5.out
              clear m2 m3 d0 d1
              go_wp2_with (first
                | (go_at_call 24; refine HBD.out.mono ?_; rintro e W8 ⟨rfl, hb8⟩; have HBL8 := Lib.hid (HBL.out.trans (hb8.mono HBL.out.size)); have HR8 := Lib.hid (HRX.out _ HBL8.out); clear hb8)
                | ((with_reducible show wpList _ _ _ _ _ _); refine wpList_store_row rfl 36 (.tmp 2) (.tmp 64) rfl (w.heap.size + 1) #[.int .i64 (c : Int), .int .i64 2, .int .i64 (j : Int)] rfl rfl 36 #[.int .i64 0, .int .i64 0, .int .i64 0] HR8.out (by rw [size_flt]; rfl) rfl (one_flt _ _ _) ?_))
              refine bodyPost_ret (v := fltV (c : Int) 2 (j : Int)) (results_cell_row (by rfl) _ _ (w.heap.size + 1) 36 _ (0, 0) _ rfl (setRow_heap _ _ _ _ _ _ HR8.out) Tryz.underlying36 rfl (by rw [size_flt]; rfl)) rfl ⟨by rw [HTC.out]; rfl, ?_⟩
              exact HB0.out.trans ((HBL8.out.mono HB0.out.size).trans ⟨rfl, rfl, rfl, by simp, fun b hb => setRow_other _ _ _ _ (by omega)⟩)
      · obtain ⟨m1, hm1⟩ : ∃ m, k = m + 1 := ⟨k - 1, by omega⟩
        obtain ⟨yy, hyy⟩ : ∃ yy, ps[m1]? = some yy := ⟨_, List.getElem?_eq_getElem (by rw [HM.out.pl]; have := HLT.out; omega)⟩
        obtain ⟨y', BZ, bz, hy', f1, -, -, -, -, -, -, -⟩ := HPT.out W3 (Below.refl _ _) m1 yy hyy
        obtain rfl := Option.some.inj hy'
        have hlp : lastP (ps.take k) = yy.id := by rw [hm1, List.take_add_one, hyy]; exact lastP_snoc _ _
        have hwk : IntKind.i64.wrap ((k : Int) - 1) = (m1 : Int) := by rw [show (k : Int) - 1 = (m1 : Int) by omega]; exact IntWalk.i64_in _ (by have := HP.out; omega)
        have g0 : (0 : Int) ≤ m1 := by omega
        have g1 : (m1 : Int) < np := by omega
        have tg : decide ((0 : Int) < (k : Int)) = true := decide_eq_true (by omega)
        have tgn : decide (0 < k) = true := decide_eq_true (by omega)
        by_cases hle : x.id ≤ yy.id
        · have tl : decide (x.id ≤ yy.id) = true := decide_eq_true hle
          have HLP := Lib.hid hlp
          have HLE := Lib.hid hle
          have HM1 := Lib.hid hm1
          clear hk0 hyy hlp hle hm1
          go_wp2
          go_quiet (fail)
          have HE1 : Hid (b1M (ps.take k) x = eJ 9 (ps.take k) x.nm) := by
            show _ = _
            rw [HBE.out]
            (first | rw [if_pos rfl] | rw [if_pos trivial]); rw [HLP.out, if_pos (by have := HLE.out; omega)]
          have HWQ : Hid (Below W3.heap.size W3 (W3.drewN nq)) := ⟨rfl, rfl, rfl, Nat.le_refl _, fun _ _ => rfl⟩
          clear HBE
          obtain ⟨WQ, hWQ⟩ : ∃ WQ, W3.drewN nq = WQ := ⟨_, rfl⟩
          rw [hWQ] at HWQ
          rw [hWQ]
          clear hWQ d0 d1 m2 m3 f1
          go_wp2
          go_loopw [5, 6] (fun v j W' => NmRel 9 ps x.nm k W3 v j W') (fun _ j _ => k - (intOf j).toNat)
          case atStart => exact ⟨0, Nat.zero_le _, rfl, by (rw [List.take_zero, eJ_nil]; try rfl), HWQ.out⟩
          case round =>
            rename World => W5
            obtain ⟨j, hj, rfl, rfl, hb5⟩ := hrel
            have HB5 := Lib.hid hb5
            have HBW5 := Lib.hid (HB3.out.trans (hb5.mono HB3.out.size))
            obtain ⟨m2, m3⟩ := HMB.out W5 HBW5.out
            have hx5 := (hb5.block _ (lt_of_block HX3.out)).trans HX3.out
            have d0 := cell_of_row _ _ 0 _ _ _ hx5
            have d1 := cell_of_row _ _ 1 _ _ _ hx5
            simp only [List.getElem?_toArray, List.getElem?_cons_zero, List.getElem?_cons_succ] at d0 d1
            by_cases hjk : j < k
            · obtain ⟨z, hz⟩ : ∃ z, ps[j]? = some z := ⟨_, List.getElem?_eq_getElem (by rw [HM.out.pl]; have := HLT.out; omega)⟩
              obtain ⟨y', BZ, bz, hy', f1, f2, -, -, -, -, -, -⟩ := HPT.out W5 hb5 j z hz
              obtain rfl := Option.some.inj hy'
              have HJK : Hid (j < k) := hjk
              have htz : ps.take (j + 1) = ps.take j ++ [z] := by rw [List.take_add_one, hz]; rfl
              have g0 : (0 : Int) ≤ j := by omega
              have g1 : (j : Int) < np := by omega
              have g2 : decide ((j : Int) < (k : Int)) = true := decide_eq_true (by omega)
              have gj1 : IntKind.i64.wrap ((j : Int) + 1) = (j : Int) + 1 := IntWalk.i64_in _ (by have := HP.out; omega)
              have HEN : Hid (eJ 9 (ps.take (j + 1)) x.nm = 9) := eJ_pos HR0.out _ _
              rw [eJ_pos HR0.out]
              clear hjk hj hz htz hy' hb5 hx5
              go_wp2
              go_quiet (fail)
              have HBQ : Hid (Below W5.heap.size W5 (W5.drewN nq)) := ⟨rfl, rfl, rfl, Nat.le_refl _, fun _ _ => rfl⟩
              obtain ⟨W6, hW6⟩ : ∃ W6, W5.drewN nq = W6 := ⟨_, rfl⟩
              rw [hW6] at HBQ
              rw [hW6]
              clear hW6 m2 m3 d0 d1 f1 f2
              go_wp2
              go_roundw
              case rel => exact ⟨j + 1, HJK.out, by go_num, by (rw [HEN.out]; try rfl), HB5.out.trans (HBQ.out.mono HB5.out.size)⟩
              case measure => have := HJK.out; simp [intOf]; omega
            · obtain rfl : j = k := by omega
              have hb1 := HE1.out
              rw [← hb1]
              have hle := b1M_le (ps.take j) x
              obtain ⟨c, hc⟩ : ∃ c, b1M (ps.take j) x = c := ⟨_, rfl⟩
              have hst := HST.out
              rw [hc] at hst hle ⊢
              have g2 : decide ((j : Int) < (j : Int)) = false := decide_eq_false (by omega)
              by_cases hc0 : c = 0
              · subst hc0
                rw [if_pos rfl] at hst
                have HST2 : Hid (fbw (fun pre x => (b1M pre x, [])) [] ps = fbw (fun pre x => (b1M pre x, [])) (ps.take (j + 1)) (ps.drop (j + 1))) := HFB.out.trans hst
                clear hb1 hle hc hst hjk hj hb5 hx5
                go_wp2
                go_roundw
                case rel => exact ⟨j + 1, HLT.out, by go_num, HST2.out, HBW5.out⟩
                case measure => have := HLT.out; simp [intOf]; omega
              · rw [if_neg hc0] at hst
                have htq : tq = (c, [(true, 2), (false, (j : Int))]) := by
                  rw [← HTQ.out]
                  unfold twoM
                  have h1 : secPt ps = (c, [(false, (j : Int))]) := by unfold secPt; rw [HFB.out, hst, if_neg hc0]
                  rw [h1, inS, if_neg hc0]
                have HTC := Lib.hid htq
                have tc : ((c : Int) != 0) = true := by simp [hc0]
                clear hb1 hle hc hst hjk hj hb5 hx5 hc0 htq
                have HBD := Lib.hid (bad_any (c : Int) 2 (j : Int) W5)
                have HBL := Lib.hid HBW5.out
                clear m2 m3 d0 d1
                go_wp2_with (first
                  | (go_at_call 24; refine HBD.out.mono ?_; rintro e W8 ⟨rfl, hb8⟩; have HBL8 := Lib.hid (HBL.out.trans (hb8.mono HBL.out.size)); have HR8 := Lib.hid (HRX.out _ HBL8.out); clear hb8)
                  | ((with_reducible show wpList _ _ _ _ _ _); refine wpList_store_row rfl 36 (.tmp 2) (.tmp 64) rfl (w.heap.size + 1) #[.int .i64 (c : Int), .int .i64 2, .int .i64 (j : Int)] rfl rfl 36 #[.int .i64 0, .int .i64 0, .int .i64 0] HR8.out (by rw [size_flt]; rfl) rfl (one_flt _ _ _) ?_))
                refine bodyPost_ret (v := fltV (c : Int) 2 (j : Int)) (results_cell_row (by rfl) _ _ (w.heap.size + 1) 36 _ (0, 0) _ rfl (setRow_heap _ _ _ _ _ _ HR8.out) Tryz.underlying36 rfl (by rw [size_flt]; rfl)) rfl ⟨by rw [HTC.out]; rfl, ?_⟩
                exact HB0.out.trans ((HBL8.out.mono HB0.out.size).trans ⟨rfl, rfl, rfl, by simp, fun b hb => setRow_other _ _ _ _ (by omega)⟩)
        · have tl : decide (x.id ≤ yy.id) = false := decide_eq_false hle
          have HLP := Lib.hid hlp
          have HLE : Hid (¬ x.id ≤ yy.id) := hle
          have HM1 := Lib.hid hm1
          clear hk0 hyy hlp hle hm1
          go_wp2
          go_quiet (fail)
          have HE1 : Hid (b1M (ps.take k) x = eJ 0 (ps.take k) x.nm) := by
            show _ = _
            rw [HBE.out]
            (first | rw [if_pos rfl] | rw [if_pos trivial]); rw [HLP.out, if_neg (by have := HLE.out; omega)]
          have HWQ : Hid (Below W3.heap.size W3 (W3.drewN nq)) := ⟨rfl, rfl, rfl, Nat.le_refl _, fun _ _ => rfl⟩
          clear HBE
          obtain ⟨WQ, hWQ⟩ : ∃ WQ, W3.drewN nq = WQ := ⟨_, rfl⟩
          rw [hWQ] at HWQ
          rw [hWQ]
          clear hWQ d0 d1 m2 m3 f1
          go_wp2
          go_loopw [5, 6] (fun v j W' => NmRel 0 ps x.nm k W3 v j W') (fun _ j _ => k - (intOf j).toNat)
          case atStart => exact ⟨0, Nat.zero_le _, rfl, by (rw [List.take_zero, eJ_nil]; try rfl), HWQ.out⟩
          case round =>
            rename World => W5
            obtain ⟨j, hj, rfl, rfl, hb5⟩ := hrel
            have HB5 := Lib.hid hb5
            have HBW5 := Lib.hid (HB3.out.trans (hb5.mono HB3.out.size))
            obtain ⟨m2, m3⟩ := HMB.out W5 HBW5.out
            have hx5 := (hb5.block _ (lt_of_block HX3.out)).trans HX3.out
            have d0 := cell_of_row _ _ 0 _ _ _ hx5
            have d1 := cell_of_row _ _ 1 _ _ _ hx5
            simp only [List.getElem?_toArray, List.getElem?_cons_zero, List.getElem?_cons_succ] at d0 d1
            by_cases hjk : j < k
            · obtain ⟨z, hz⟩ : ∃ z, ps[j]? = some z := ⟨_, List.getElem?_eq_getElem (by rw [HM.out.pl]; have := HLT.out; omega)⟩
              obtain ⟨y', BZ, bz, hy', f1, f2, -, -, -, -, -, -⟩ := HPT.out W5 hb5 j z hz
              obtain rfl := Option.some.inj hy'
              have HJK : Hid (j < k) := hjk
              have htz : ps.take (j + 1) = ps.take j ++ [z] := by rw [List.take_add_one, hz]; rfl
              have g0 : (0 : Int) ≤ j := by omega
              have g1 : (j : Int) < np := by omega
              have g2 : decide ((j : Int) < (k : Int)) = true := decide_eq_true (by omega)
              have gj1 : IntKind.i64.wrap ((j : Int) + 1) = (j : Int) + 1 := IntWalk.i64_in _ (by have := HP.out; omega)
              rw [eJ_0]
              have hen := eJ_snoc (ps.take j) z x.nm
              rw [← htz] at hen
              clear hjk hj hz htz hb5 hx5
              cases hnb : nmB (ps.take j) x.nm with
              | true =>
                rw [hnb, if_pos rfl] at hen
                rw [if_pos rfl]
                have HEN := Lib.hid hen
                have t7 : (((7 : Nat) : Int) == 0) = false := rfl
                clear hen hnb
                go_wp2
                go_quiet (fail)
                have HBQ : Hid (Below W5.heap.size W5 (W5.drewN nq)) := ⟨rfl, rfl, rfl, Nat.le_refl _, fun _ _ => rfl⟩
                obtain ⟨W6, hW6⟩ : ∃ W6, W5.drewN nq = W6 := ⟨_, rfl⟩
                rw [hW6] at HBQ
                rw [hW6]
                clear hW6 m2 m3 d0 d1 f1 f2
                go_wp2
                go_roundw
                case rel => exact ⟨j + 1, HJK.out, by go_num, by (rw [HEN.out]; try rfl), HB5.out.trans (HBQ.out.mono HB5.out.size)⟩
                case measure => have := HJK.out; simp [intOf]; omega
              | false =>
                rw [hnb, if_neg (by simp)] at hen
                rw [if_neg (by simp)]
                have t7 : (((0 : Nat) : Int) == 0) = true := rfl
                cases hqs : eqS z.nm x.nm with
                | true =>
                  rw [hqs, if_pos rfl] at hen
                  have HEN := Lib.hid hen
                  unfold eqS at hqs
                  have hqt : (z.nm.toList == x.nm.toList) = true := by rw [ByteArray.toList_eq, ByteArray.toList_eq]; exact hqs
                  clear hen hnb
                  go_wp2
                  go_quiet (fail)
                  have HBQ : Hid (Below W5.heap.size W5 (W5.drewN nq)) := ⟨rfl, rfl, rfl, Nat.le_refl _, fun _ _ => rfl⟩
                  obtain ⟨W6, hW6⟩ : ∃ W6, W5.drewN nq = W6 := ⟨_, rfl⟩
                  rw [hW6] at HBQ
                  rw [hW6]
                  clear hW6 m2 m3 d0 d1 f1 f2
                  go_wp2
                  go_roundw
                  case rel => exact ⟨j + 1, HJK.out, by go_num, by (rw [HEN.out]; try rfl), HB5.out.trans (HBQ.out.mono HB5.out.size)⟩
                  case measure => have := HJK.out; simp [intOf]; omega
                | false =>
                  rw [hqs, if_neg (by simp)] at hen
                  have HEN := Lib.hid hen
                  unfold eqS at hqs
                  have hqt : (z.nm.toList == x.nm.toList) = false := by rw [ByteArray.toList_eq, ByteArray.toList_eq]; exact hqs
                  clear hen hnb
                  go_wp2
                  go_quiet (fail)
                  have HBQ : Hid (Below W5.heap.size W5 (W5.drewN nq)) := ⟨rfl, rfl, rfl, Nat.le_refl _, fun _ _ => rfl⟩
                  obtain ⟨W6, hW6⟩ : ∃ W6, W5.drewN nq = W6 := ⟨_, rfl⟩
                  rw [hW6] at HBQ
                  rw [hW6]
                  clear hW6 m2 m3 d0 d1 f1 f2
                  go_wp2
                  go_roundw
                  case rel => exact ⟨j + 1, HJK.out, by go_num, by (rw [HEN.out]; try rfl), HB5.out.trans (HBQ.out.mono HB5.out.size)⟩
                  case measure => have := HJK.out; simp [intOf]; omega
            · obtain rfl : j = k := by omega
              have hb1 := HE1.out
              rw [← hb1]
              have hle := b1M_le (ps.take j) x
              obtain ⟨c, hc⟩ : ∃ c, b1M (ps.take j) x = c := ⟨_, rfl⟩
              have hst := HST.out
              rw [hc] at hst hle ⊢
              have g2 : decide ((j : Int) < (j : Int)) = false := decide_eq_false (by omega)
              by_cases hc0 : c = 0
              · subst hc0
                rw [if_pos rfl] at hst
                have HST2 : Hid (fbw (fun pre x => (b1M pre x, [])) [] ps = fbw (fun pre x => (b1M pre x, [])) (ps.take (j + 1)) (ps.drop (j + 1))) := HFB.out.trans hst
                clear hb1 hle hc hst hjk hj hb5 hx5
                go_wp2
                go_roundw
                case rel => exact ⟨j + 1, HLT.out, by go_num, HST2.out, HBW5.out⟩
                case measure => have := HLT.out; simp [intOf]; omega
              · rw [if_neg hc0] at hst
                have htq : tq = (c, [(true, 2), (false, (j : Int))]) := by
                  rw [← HTQ.out]
                  unfold twoM
                  have h1 : secPt ps = (c, [(false, (j : Int))]) := by unfold secPt; rw [HFB.out, hst, if_neg hc0]
                  rw [h1, inS, if_neg hc0]
                have HTC := Lib.hid htq
                have tc : ((c : Int) != 0) = true := by simp [hc0]
                clear hb1 hle hc hst hjk hj hb5 hx5 hc0 htq
                have HBD := Lib.hid (bad_any (c : Int) 2 (j : Int) W5)
                have HBL := Lib.hid HBW5.out
                clear m2 m3 d0 d1
                go_wp2_with (first
                  | (go_at_call 24; refine HBD.out.mono ?_; rintro e W8 ⟨rfl, hb8⟩; have HBL8 := Lib.hid (HBL.out.trans (hb8.mono HBL.out.size)); have HR8 := Lib.hid (HRX.out _ HBL8.out); clear hb8)
                  | ((with_reducible show wpList _ _ _ _ _ _); refine wpList_store_row rfl 36 (.tmp 2) (.tmp 64) rfl (w.heap.size + 1) #[.int .i64 (c : Int), .int .i64 2, .int .i64 (j : Int)] rfl rfl 36 #[.int .i64 0, .int .i64 0, .int .i64 0] HR8.out (by rw [size_flt]; rfl) rfl (one_flt _ _ _) ?_))
                refine bodyPost_ret (v := fltV (c : Int) 2 (j : Int)) (results_cell_row (by rfl) _ _ (w.heap.size + 1) 36 _ (0, 0) _ rfl (setRow_heap _ _ _ _ _ _ HR8.out) Tryz.underlying36 rfl (by rw [size_flt]; rfl)) rfl ⟨by rw [HTC.out]; rfl, ?_⟩
                exact HB0.out.trans ((HBL8.out.mono HB0.out.size).trans ⟨rfl, rfl, rfl, by simp, fun b hb => setRow_other _ _ _ _ (by omega)⟩)
    · obtain rfl : np = k := by omega
      have HSP : Hid (secPt ps = manyM np 1 32) := by
        have h1 : fbw (fun pre x => (b1M pre x, [])) [] ps = (0, []) := by
          have h2 := HFB.out
          have hpl := HM.out.pl
          rw [← hpl, fbw_end] at h2
          exact h2
        show secPt ps = _
        unfold secPt
        rw [h1, if_pos rfl, HM.out.pl]
      clear hlt hk
      by_cases hlo : np < 1
      · have tlo : decide ((np : Int) < 1) = true := decide_eq_true (by omega)
        have tln : decide (np < 1) = true := decide_eq_true hlo
        have htq : tq = (8, [(true, 2)]) := by
          rw [← HTQ.out]
          unfold twoM
          rw [HSP.out, manyM, if_pos (.inl hlo), inS, if_neg (by decide)]
        have HTC := Lib.hid htq
        clear htq
        have HBD := Lib.hid (bad_any 8 2 0 W)
        have HBL := Lib.hid HB.out
        skip
        go_wp2_with (first
          | (go_at_call 24; refine HBD.out.mono ?_; rintro e W8 ⟨rfl, hb8⟩; have HBL8 := Lib.hid (HBL.out.trans (hb8.mono HBL.out.size)); have HR8 := Lib.hid (HRX.out _ HBL8.out); clear hb8)
          | ((with_reducible show wpList _ _ _ _ _ _); refine wpList_store_row rfl 36 (.tmp 2) (.tmp 75) rfl (w.heap.size + 1) #[.int .i64 8, .int .i64 2, .int .i64 0] rfl rfl 36 #[.int .i64 0, .int .i64 0, .int .i64 0] HR8.out (by rw [size_flt]; rfl) rfl (one_flt _ _ _) ?_))
        refine bodyPost_ret (v := fltV 8 2 0) (results_cell_row (by rfl) _ _ (w.heap.size + 1) 36 _ (0, 0) _ rfl (setRow_heap _ _ _ _ _ _ HR8.out) Tryz.underlying36 rfl (by rw [size_flt]; rfl)) rfl ⟨by rw [HTC.out]; rfl, ?_⟩
        exact HB0.out.trans ((HBL8.out.mono HB0.out.size).trans ⟨rfl, rfl, rfl, by simp, fun b hb => setRow_other _ _ _ _ (by omega)⟩)
      have tlo : decide ((np : Int) < 1) = false := decide_eq_false (by omega)
      have tln : decide (np < 1) = false := decide_eq_false hlo
      by_cases hhi : 32 < np
      · have thi : decide ((32 : Int) < (np : Int)) = true := decide_eq_true (by omega)
        have thn : decide (32 < np) = true := decide_eq_true hhi
        have htq : tq = (8, [(true, 2)]) := by
          rw [← HTQ.out]
          unfold twoM
          rw [HSP.out, manyM, if_pos (.inr hhi), inS, if_neg (by decide)]
        have HTC := Lib.hid htq
        clear htq
        have HBD := Lib.hid (bad_any 8 2 0 W)
        have HBL := Lib.hid HB.out
        skip
        go_wp2_with (first
          | (go_at_call 24; refine HBD.out.mono ?_; rintro e W8 ⟨rfl, hb8⟩; have HBL8 := Lib.hid (HBL.out.trans (hb8.mono HBL.out.size)); have HR8 := Lib.hid (HRX.out _ HBL8.out); clear hb8)
          | ((with_reducible show wpList _ _ _ _ _ _); refine wpList_store_row rfl 36 (.tmp 2) (.tmp 75) rfl (w.heap.size + 1) #[.int .i64 8, .int .i64 2, .int .i64 0] rfl rfl 36 #[.int .i64 0, .int .i64 0, .int .i64 0] HR8.out (by rw [size_flt]; rfl) rfl (one_flt _ _ _) ?_))
        refine bodyPost_ret (v := fltV 8 2 0) (results_cell_row (by rfl) _ _ (w.heap.size + 1) 36 _ (0, 0) _ rfl (setRow_heap _ _ _ _ _ _ HR8.out) Tryz.underlying36 rfl (by rw [size_flt]; rfl)) rfl ⟨by rw [HTC.out]; rfl, ?_⟩
        exact HB0.out.trans ((HBL8.out.mono HB0.out.size).trans ⟨rfl, rfl, rfl, by simp, fun b hb => setRow_other _ _ _ _ (by omega)⟩)
      have thi : decide ((32 : Int) < (np : Int)) = false := decide_eq_false (by omega)
      have thn : decide (32 < np) = false := decide_eq_false hhi
      have HTS : Hid (tq = inS 3 (secSc (ps.map PT.id) ss) (0, [])) := by
        show _ = _
        rw [← HTQ.out]
        unfold twoM
        rw [HSP.out, manyM, if_neg (by omega), inS, if_pos rfl]
      clear hlo hhi HSP HFB
      obtain ⟨WA, rfl⟩ : ∃ WA, WA = W := ⟨_, rfl⟩
      go_wp2
      go_loopw [7] (fun i W => SwRel ns (ps.map PT.id) ss W1 i W) (fun i _ => ns - (intOf i).toNat)
      case atStart => exact ⟨0, Nat.zero_le _, rfl, by rw [List.take_zero, List.drop_zero], HB.out⟩
      case round =>
        rename World => W
        obtain ⟨k, hk, rfl, hfb, hb⟩ := hrel
        have HFB := Lib.hid hfb
        have HBL := Lib.hid hb
        have HBW0 := Lib.hid (HBW.out W hb)
        obtain ⟨m2, m3⟩ := HMB.out W hb
        clear hfb hb
        by_cases hlt : k < ns
        · obtain ⟨x, hx⟩ : ∃ x, ss[k]? = some x := ⟨_, List.getElem?_eq_getElem (by rw [HM.out.sl]; exact hlt)⟩
          obtain ⟨y, BB, cb, CC, cc, rfl, e1, e2, e3, e4, hB, -, -, -, hC, -, -, -⟩ := (HM.out.kept HBW0.out).s k x hx
          have hwx := HM.out.sw x (List.mem_of_getElem? hx)
          have hwn := HWN.out x (List.mem_of_getElem? hx)
          have HST := Lib.hid (fbw_step (fun pre x => oneS (ps.map PT.id) (lastS pre) x) ss k x hx)
          have HLT := Lib.hid hlt
          have hki : (0 : Int) ≤ k := by omega
          have hkb : (k : Int) < ns := by omega
          have hk1 : IntKind.i64.wrap ((k : Int) + 1) = (k : Int) + 1 := IntWalk.i64_in _ (by have := HSN.out; omega)
          have hb4 : Below W.heap.size W (W.alloc (.cells #[.int .i64 x.id, .int .i64 x.fr, .slice BB x.ws.length cb, .slice CC x.ns.length cc] 49)) := (Below.refl _ _).alloc (Nat.le_refl _) _
          have hx4 := heap_alloc_new W (.cells #[.int .i64 x.id, .int .i64 x.fr, .slice BB x.ws.length cb, .slice CC x.ns.length cc] 49)
          clear hlt
          go_upto_region 21 with fail
          obtain ⟨W2, hW2⟩ : ∃ W2, W.alloc (.cells #[.int .i64 x.id, .int .i64 x.fr, .slice BB x.ws.length cb, .slice CC x.ns.length cc] 49) = W2 := ⟨_, rfl⟩
          obtain ⟨Q, hQ⟩ : ∃ Q, W.heap.size = Q := ⟨_, rfl⟩
          rw [hW2, hQ] at hx4
          rw [hW2] at hb4
          rw [hW2, hQ]
          have HXQ := Lib.hid hx4
          have HB2 := Lib.hid (HBL.out.trans (hb4.mono HBL.out.size))
          have HBA := Lib.hid (hB.kept hb4)
          have HCA := Lib.hid (hC.kept hb4)
          have hri := sright09_any x BB cb CC cc W2 HBA.out HCA.out (by unfold maxLen; omega) (by unfold maxLen; omega)
          unfold scC at hri
          have HWX := Lib.hid hwx
          have HWL := Lib.hid hwn
          clear hb4 hW2 hQ e1 e2 e3 e4 hwx hwn m2 m3 hB hC
          obtain ⟨rk, hrk⟩ : ∃ rk, rgS x = rk := ⟨_, rfl⟩
          have HRK := Lib.hid hrk
          rw [hrk] at hri
          have HRI := Lib.hid hri
          clear hrk hri
          go_wp2_with ((with_reducible show wpList _ _ _ _ _ _); refine wpList_load_row rfl 49 (.tmp 8) rfl Q rfl 49 _ (0, 0) _ hx4 Tryz.underlying49 rfl (by kernel_rfl) ?_)
          refine HRI.out.mono ?_
          rintro e0 W3 ⟨rfl, hb3⟩
          have HB3 := Lib.hid (HB2.out.trans (hb3.mono HB2.out.size))
          have hx3 := (hb3.block _ (lt_of_block HXQ.out)).trans HXQ.out
          have HBC := Lib.hid (HBA.out.kept hb3)
          have HCC := Lib.hid (HCA.out.kept hb3)
          have HQC : Hid (∀ wx, Below W3.heap.size W3 wx → wx.cell? ⟨Q, 0, none⟩ = some (.int .i64 x.id) ∧ wx.cell? ⟨Q, 1, none⟩ = some (.int .i64 x.fr) ∧ wx.cell? ⟨Q, 2, none⟩ = some (.slice BB x.ws.length cb) ∧ wx.cell? ⟨Q, 3, none⟩ = some (.slice CC x.ns.length cc) ∧ wx.cell? ⟨w.heap.size, 0, none⟩ = some (.int .u64 e) ∧ wx.cell? ⟨w.heap.size, 1, none⟩ = some (.int .i64 f) ∧ wx.cell? ⟨w.heap.size, 2, none⟩ = some (.slice PA np pc) ∧ wx.cell? ⟨w.heap.size, 3, none⟩ = some (.slice (some y) ns sc) ∧ wx.cell? ⟨w.heap.size, 4, none⟩ = some (.slice QA nQ qc) ∧ wx.cell? ⟨w.heap.size, 5, none⟩ = some (.slice AA na acp)) := fun wx b => by
            have h1 := (b.block _ (lt_of_block hx3)).trans hx3
            have h2 := HMX.out wx (HB3.out.trans (b.mono HB3.out.size))
            refine ⟨?_, ?_, ?_, ?_, ?_, ?_, ?_, ?_, ?_, ?_⟩
            all_goals first | (rw [cell_of_row _ _ _ _ _ _ h1]; rfl) | (rw [cell_of_row _ _ _ _ _ _ h2]; rfl)
          have HPT : Hid (∀ W', Below W3.heap.size W3 W' → ScdAt W' (some y) ss) := fun W' b => (HM.out.kept (HBW.out W' (HB3.out.trans (b.mono HB3.out.size)))).s
          obtain ⟨d0, d1, d2, d3, d4, d5, d6, d7, d8, d9⟩ := HQC.out W3 (Below.refl _ _)
          clear hb3 hx3 hx4 HXQ HRI HB2 HBA HCA
          by_cases hr0 : rk = 0
          rotate_left
          · have t0 : ((rk : Int) == 0) = false := by simp [hr0]
            have t0' : ((rk : Int) != 0) = true := by simp [hr0]
            have HTC := Lib.hid (tq_of (x := x) (c := rk) (rest := []) HTS.out HFB.out HST.out (by unfold oneS; rw [HRK.out, if_neg hr0]) hr0)
            clear hr0
            go_wp2
            go_quiet (fail)
            have HWQ : Hid (Below W3.heap.size W3 (W3.drewN nq)) := ⟨rfl, rfl, rfl, Nat.le_refl _, fun _ _ => rfl⟩
            obtain ⟨WQ, hWQ⟩ : ∃ WQ, W3.drewN nq = WQ := ⟨_, rfl⟩
            rw [hWQ] at HWQ
            rw [hWQ]
            have HB4 := Lib.hid (HB3.out.trans (HWQ.out.mono HB3.out.size))
            clear hWQ d0 d1 d2 d3 d4 d5 d6 d7 d8 d9
            have HBD := Lib.hid (bad_any (rk : Int) 3 (k : Int) WQ)
            have HBL := Lib.hid HB4.out
            skip
            go_wp2_with (first
              | (go_at_call 24; refine HBD.out.mono ?_; rintro e W8 ⟨rfl, hb8⟩; have HBL8 := Lib.hid (HBL.out.trans (hb8.mono HBL.out.size)); have HR8 := Lib.hid (HRX.out _ HBL8.out); clear hb8)
              | ((with_reducible show wpList _ _ _ _ _ _); refine wpList_store_row rfl 36 (.tmp 2) (.tmp 130) rfl (w.heap.size + 1) #[.int .i64 (rk : Int), .int .i64 3, .int .i64 (k : Int)] rfl rfl 36 #[.int .i64 0, .int .i64 0, .int .i64 0] HR8.out (by rw [size_flt]; rfl) rfl (one_flt _ _ _) ?_))
            refine bodyPost_ret (v := fltV (rk : Int) 3 (k : Int)) (results_cell_row (by rfl) _ _ (w.heap.size + 1) 36 _ (0, 0) _ rfl (setRow_heap _ _ _ _ _ _ HR8.out) Tryz.underlying36 rfl (by rw [size_flt]; rfl)) rfl ⟨by rw [HTC.out]; rfl, ?_⟩
            exact HB0.out.trans ((HBL8.out.mono HB0.out.size).trans ⟨rfl, rfl, rfl, by simp, fun b hb => setRow_other _ _ _ _ (by omega)⟩)
          subst hr0
          have t0 : (((0 : Nat) : Int) == 0) = true := rfl
          by_cases hk0 : k = 0
          · have hlp : lastS (ss.take k) = -1 := by rw [hk0]; rfl
            have HLP := Lib.hid hlp
            have tg : decide ((0 : Int) < (k : Int)) = false := decide_eq_false (by omega)
            have tgn : decide (0 < k) = false := decide_eq_false (by omega)
            have HK0 := Lib.hid hk0
            clear hk0 hlp
            obtain ⟨hi1, hi2, hi3, hi4, hi5, hi6⟩ := rgS_in HRK.out
            obtain ⟨fn, hfn⟩ : ∃ n : Nat, x.fr = (n : Int) := ⟨x.fr.toNat, by omega⟩
            have hnum : ∀ y ∈ x.ws, Num y := fun y hy => (num_of (hi4 y hy)).1
            have hnns : ∀ y ∈ x.ns, Num y := fun y hy => (num_of (hi6 y hy)).1
            have hwl := HWL.out
            have hids : (ps.map PT.id).length ≤ 1099511627776 := by rw [List.length_map, HM.out.pl]; have := HP.out; omega
            have HPA : Hid (∀ W, Below W3.heap.size W3 W → Calls Tryz.prog 13 #[.agg #[.int .u64 e, .int .i64 f, .slice PA np pc, .slice (some y) ns sc, .slice QA nQ qc, .slice AA na acp]] W fun e w' => ∃ A c, e = .returned (.slice A np c) ∧ IntsBelow w'.heap.size w' (.slice A np c) (ps.map PT.id) ∧ Below W.heap.size W w') := fun W b => (by
              have hbw := HBW.out W (HB3.out.trans (b.mono HB3.out.size))
              exact pids_any (HMM.out.kept hbw) HP.out (HM.out.kept hbw))
            have HCK : Hid (∀ (W : World) (I : Option Addr) (ci : Nat), Below W3.heap.size W3 W → IntsBelow W.heap.size W (.slice I np ci) (ps.map PT.id) → Calls Tryz.prog 34 #[.agg #[.int .i64 x.id, .int .i64 x.fr, .slice BB x.ws.length cb, .slice CC x.ns.length cc], .slice I np ci] W fun e w' => e = .returned (.tuple #[.int .i64 (chkW (ps.map PT.id) x.fr ⟨0, 0, 0⟩ 0 x.ws).2, .int .i64 (chkW (ps.map PT.id) x.fr ⟨0, 0, 0⟩ 0 x.ws).1]) ∧ Below W.heap.size W w') := fun W I ci b hI => rcheck_any x.id x.fr BB cb x.ws CC x.ns.length cc I np ci (ps.map PT.id) W hI (HBC.out.kept b) HWX.out.2.1 ⟨by omega, by omega⟩ (by omega) hids
            have HNC : Hid (∀ (W : World) (I : Option Addr) (ci : Nat), Below W3.heap.size W3 W → IntsBelow W.heap.size W (.slice I np ci) (ps.map PT.id) → Calls Tryz.prog 35 #[.agg #[.int .i64 x.id, .int .i64 x.fr, .slice BB x.ws.length cb, .slice CC x.ns.length cc], .slice I np ci] W fun e w' => e = .returned (.tuple #[.int .i64 (chkN (ps.map PT.id) (ticksL (ownT (fn : Int) x.ws) 0 fn) fn ⟨0, 0, 0⟩ 0 x.ns).2, .int .i64 (chkN (ps.map PT.id) (ticksL (ownT (fn : Int) x.ws) 0 fn) fn ⟨0, 0, 0⟩ 0 x.ns).1]) ∧ Below W.heap.size W w') := fun W I ci b hI => (by
              rw [hfn]
              exact rncheck_any x.id BB x.ws.length cb x.ns CC cc I np ci (ps.map PT.id) (ticksL (ownT (fn : Int) x.ws) 0 fn) fn W hI (HCC.out.kept b) hnns hwl.2 hids (fun W' b' => rword_any x.id fn BB cb x.ws CC x.ns.length cc W' ((HBC.out.kept b).kept b') hnum (by omega) (by omega)) (ticks_len _ _ _) (by omega) (by omega))
            have HO : Hid (oneS (ps.map PT.id) (lastS (ss.take k)) x = if (chkW (ps.map PT.id) x.fr ⟨0, 0, 0⟩ 0 x.ws).1 = 0 then (if (chkN (ps.map PT.id) (ticksL (ownT (fn : Int) x.ws) 0 fn) fn ⟨0, 0, 0⟩ 0 x.ns).1 = 0 then (0, []) else ((chkN (ps.map PT.id) (ticksL (ownT (fn : Int) x.ws) 0 fn) fn ⟨0, 0, 0⟩ 0 x.ns).1, [(false, (chkN (ps.map PT.id) (ticksL (ownT (fn : Int) x.ws) 0 fn) fn ⟨0, 0, 0⟩ 0 x.ns).2)])) else ((chkW (ps.map PT.id) x.fr ⟨0, 0, 0⟩ 0 x.ws).1, [(false, (chkW (ps.map PT.id) x.fr ⟨0, 0, 0⟩ 0 x.ws).2)])) := by
              show _ = _
              unfold oneS
              rw [HRK.out, if_pos rfl, if_neg (by rw [HLP.out]; omega)]
              unfold w1S
              rw [hfn, Int.toNat_natCast]
              by_cases h1 : (chkW (ps.map PT.id) (fn : Int) ⟨0, 0, 0⟩ 0 x.ws).1 = 0
              · rw [if_pos h1, if_pos h1]
              · rw [if_neg h1, if_neg h1, if_neg h1]
            obtain ⟨q, hq⟩ : ∃ q, chkW (ps.map PT.id) x.fr ⟨0, 0, 0⟩ 0 x.ws = q := ⟨_, rfl⟩
            obtain ⟨q2, hq2⟩ : ∃ q, chkN (ps.map PT.id) (ticksL (ownT (fn : Int) x.ws) 0 fn) fn ⟨0, 0, 0⟩ 0 x.ns = q := ⟨_, rfl⟩
            rw [hq] at HCK HO
            rw [hq2] at HNC HO
            obtain ⟨k1, a1⟩ := q
            obtain ⟨k2, a2⟩ := q2
            dsimp only at HO HCK HNC
            clear hi1 hi2 hi3 hi4 hi5 hi6 hfn hnum hnns hwl hids hq hq2
            go_wp2
            go_quiet (fail)
            have HWQ : Hid (Below W3.heap.size W3 (W3.drewN nq)) := ⟨rfl, rfl, rfl, Nat.le_refl _, fun _ _ => rfl⟩
            obtain ⟨WQ, hWQ⟩ : ∃ WQ, W3.drewN nq = WQ := ⟨_, rfl⟩
            rw [hWQ] at HWQ
            rw [hWQ]
            have HB4 := Lib.hid (HB3.out.trans (HWQ.out.mono HB3.out.size))
            clear hWQ d0 d1 d2 d3 d4 d5 d6 d7 d8 d9
            have hbd : Below W3.heap.size W3 WQ.drew := HWQ.out.trans (((below_refl_drew WQ)).mono HWQ.out.size)
            have HBD0 := Lib.hid hbd
            clear hbd
            obtain ⟨d0, d1, d2, d3, d4, d5, d6, d7, d8, d9⟩ := HQC.out WQ HWQ.out
            go_wp2_with fail
            go_region_held3 (fun wx => wx.cell? ⟨Q, 0, none⟩ = some (.int .i64 x.id) ∧ wx.cell? ⟨Q, 1, none⟩ = some (.int .i64 x.fr) ∧ wx.cell? ⟨Q, 2, none⟩ = some (.slice BB x.ws.length cb) ∧ wx.cell? ⟨Q, 3, none⟩ = some (.slice CC x.ns.length cc) ∧ wx.cell? ⟨w.heap.size, 0, none⟩ = some (.int .u64 e) ∧ wx.cell? ⟨w.heap.size, 1, none⟩ = some (.int .i64 f) ∧ wx.cell? ⟨w.heap.size, 2, none⟩ = some (.slice PA np pc) ∧ wx.cell? ⟨w.heap.size, 3, none⟩ = some (.slice (some y) ns sc) ∧ wx.cell? ⟨w.heap.size, 4, none⟩ = some (.slice QA nQ qc) ∧ wx.cell? ⟨w.heap.size, 5, none⟩ = some (.slice AA na acp))
              (first | (refine ⟨?_, ?_, ?_, ?_, ?_, ?_, ?_, ?_, ?_, ?_⟩ <;> assumption) | (go_keep; done))
              (first
                | (go_at_call 13; refine (HPA.out _ HBD0.out).mono ?_; rintro e0 W6 ⟨A6, c6, rfl, hi6, hb6⟩; have HB6 := Lib.hid (HBD0.out.trans (hb6.mono HBD0.out.size)); have HCK6 := Lib.hid (HCK.out W6 _ _ HB6.out hi6); obtain ⟨f0, f1, f2, f3, f4, f5, f6, f7, f8, f9⟩ := HQC.out _ HB6.out; clear hi6 hb6)
                | (go_at_call 34; refine HCK6.out.mono ?_; rintro e0 W7 ⟨rfl, hb7⟩; have HB7 := Lib.hid (HB6.out.trans (hb7.mono HB6.out.size)); obtain ⟨g0, g1, g2, g3, g4, g5, g6, g7, g8, g9⟩ := HQC.out _ HB7.out; clear hb7))
            have HBW7 := Lib.hid (HB3.out.trans (HB7.out.mono HB3.out.size))
            clear d0 d1 d2 d3 d4 d5 d6 d7 d8 d9 f0 f1 f2 f3 f4 f5 f6 f7 f8 f9 HCK HCK6
            by_cases hk1 : k1 = 0
            rotate_left
            · have HTC := Lib.hid (tq_of (x := x) (c := k1) (rest := [(false, a1)]) HTS.out HFB.out HST.out (by rw [HO.out, if_neg hk1]) hk1)
              have t1 : ((k1 : Int) == 0) = false := by simp [hk1]
              have t2 : ((k1 : Int) != 0) = true := by simp [hk1]
              clear hk1 HNC HPA
              have HBD := Lib.hid (bad_any (k1 : Int) 3 (k : Int) W7)
              have HBL := Lib.hid HBW7.out
              clear g0 g1 g2 g3 g4 g5 g6 g7 g8 g9
              go_wp2_with (first
                | (go_at_call 24; refine HBD.out.mono ?_; rintro e W8 ⟨rfl, hb8⟩; have HBL8 := Lib.hid (HBL.out.trans (hb8.mono HBL.out.size)); have HR8 := Lib.hid (HRX.out _ HBL8.out); clear hb8)
                | ((with_reducible show wpList _ _ _ _ _ _); refine wpList_store_row rfl 36 (.tmp 2) (.tmp 130) rfl (w.heap.size + 1) #[.int .i64 (k1 : Int), .int .i64 3, .int .i64 (k : Int)] rfl rfl 36 #[.int .i64 0, .int .i64 0, .int .i64 0] HR8.out (by rw [size_flt]; rfl) rfl (one_flt _ _ _) ?_))
              refine bodyPost_ret (v := fltV (k1 : Int) 3 (k : Int)) (results_cell_row (by rfl) _ _ (w.heap.size + 1) 36 _ (0, 0) _ rfl (setRow_heap _ _ _ _ _ _ HR8.out) Tryz.underlying36 rfl (by rw [size_flt]; rfl)) rfl ⟨by rw [HTC.out]; rfl, ?_⟩
              exact HB0.out.trans ((HBL8.out.mono HB0.out.size).trans ⟨rfl, rfl, rfl, by simp, fun b hb => setRow_other _ _ _ _ (by omega)⟩)
            subst hk1
            have HO2 : Hid (oneS (ps.map PT.id) (lastS (ss.take k)) x = if k2 = 0 then (0, []) else (k2, [(false, a2)])) := by show _ = _; rw [HO.out, if_pos rfl]
            clear HO
            go_wp2_with fail
            have hbd7 : Below W3.heap.size W3 W7.drew := HB7.out.trans (((below_refl_drew W7)).mono HB7.out.size)
            have HBD7 := Lib.hid hbd7
            clear hbd7
            go_region_held3 (fun wx => wx.cell? ⟨Q, 0, none⟩ = some (.int .i64 x.id) ∧ wx.cell? ⟨Q, 1, none⟩ = some (.int .i64 x.fr) ∧ wx.cell? ⟨Q, 2, none⟩ = some (.slice BB x.ws.length cb) ∧ wx.cell? ⟨Q, 3, none⟩ = some (.slice CC x.ns.length cc) ∧ wx.cell? ⟨w.heap.size, 0, none⟩ = some (.int .u64 e) ∧ wx.cell? ⟨w.heap.size, 1, none⟩ = some (.int .i64 f) ∧ wx.cell? ⟨w.heap.size, 2, none⟩ = some (.slice PA np pc) ∧ wx.cell? ⟨w.heap.size, 3, none⟩ = some (.slice (some y) ns sc) ∧ wx.cell? ⟨w.heap.size, 4, none⟩ = some (.slice QA nQ qc) ∧ wx.cell? ⟨w.heap.size, 5, none⟩ = some (.slice AA na acp))
              (first | (refine ⟨?_, ?_, ?_, ?_, ?_, ?_, ?_, ?_, ?_, ?_⟩ <;> assumption) | (go_keep; done))
              (first
                | (go_at_call 13; refine (HPA.out _ HBD7.out).mono ?_; rintro e0 W6 ⟨A6, c6, rfl, hi6, hb6⟩; have HB8 := Lib.hid (HBD7.out.trans (hb6.mono HBD7.out.size)); have HCK6 := Lib.hid (HNC.out W6 _ _ HB8.out hi6); obtain ⟨f0, f1, f2, f3, f4, f5, f6, f7, f8, f9⟩ := HQC.out _ HB8.out; clear hi6 hb6)
                | (go_at_call 35; refine HCK6.out.mono ?_; rintro e0 W9 ⟨rfl, hb9⟩; have HB9 := Lib.hid (HB8.out.trans (hb9.mono HB8.out.size)); obtain ⟨j0, j1, j2, j3, j4, j5, j6, j7, j8, j9⟩ := HQC.out _ HB9.out; clear hb9))
            have HBW9 := Lib.hid (HB3.out.trans (HB9.out.mono HB3.out.size))
            clear g0 g1 g2 g3 g4 g5 g6 g7 g8 g9 f0 f1 f2 f3 f4 f5 f6 f7 f8 f9 j0 j1 j2 j3 j4 j5 j6 j7 j8 j9 HCK6 HNC HPA
            by_cases hk2 : k2 = 0
            rotate_left
            · have HTC := Lib.hid (tq_of (x := x) (c := k2) (rest := [(false, a2)]) HTS.out HFB.out HST.out (by rw [HO2.out, if_neg hk2]) hk2)
              have t2 : ((k2 : Int) != 0) = true := by simp [hk2]
              clear hk2
              have HBD := Lib.hid (bad_any (k2 : Int) 3 (k : Int) W9)
              have HBL := Lib.hid HBW9.out
              skip
              go_wp2_with (first
                | (go_at_call 24; refine HBD.out.mono ?_; rintro e W8 ⟨rfl, hb8⟩; have HBL8 := Lib.hid (HBL.out.trans (hb8.mono HBL.out.size)); have HR8 := Lib.hid (HRX.out _ HBL8.out); clear hb8)
                | ((with_reducible show wpList _ _ _ _ _ _); refine wpList_store_row rfl 36 (.tmp 2) (.tmp 130) rfl (w.heap.size + 1) #[.int .i64 (k2 : Int), .int .i64 3, .int .i64 (k : Int)] rfl rfl 36 #[.int .i64 0, .int .i64 0, .int .i64 0] HR8.out (by rw [size_flt]; rfl) rfl (one_flt _ _ _) ?_))
              refine bodyPost_ret (v := fltV (k2 : Int) 3 (k : Int)) (results_cell_row (by rfl) _ _ (w.heap.size + 1) 36 _ (0, 0) _ rfl (setRow_heap _ _ _ _ _ _ HR8.out) Tryz.underlying36 rfl (by rw [size_flt]; rfl)) rfl ⟨by rw [HTC.out]; rfl, ?_⟩
              exact HB0.out.trans ((HBL8.out.mono HB0.out.size).trans ⟨rfl, rfl, rfl, by simp, fun b hb => setRow_other _ _ _ _ (by omega)⟩)
            subst hk2
            have HST2 := Lib.hid (st_of (x := x) (rest := []) HFB.out HST.out (by rw [HO2.out, if_pos rfl]))
            have hkk1 : IntKind.i64.wrap ((k : Int) + 1) = (k : Int) + 1 := IntWalk.i64_in _ (by have := HLT.out; have := HSN.out; omega)
            go_wp2
            go_roundw
            case rel => exact ⟨k + 1, HLT.out, by go_num, HST2.out, HBW9.out⟩
            case measure => have := HLT.out; simp [intOf]; omega
          · obtain ⟨m1, hm1⟩ : ∃ m, k = m + 1 := ⟨k - 1, by omega⟩
            obtain ⟨yy, hyy⟩ : ∃ yy, ss[m1]? = some yy := ⟨_, List.getElem?_eq_getElem (by rw [HM.out.sl]; have := HLT.out; omega)⟩
            obtain ⟨y', BZ, bz, CZ, cz, hy', f1, -, -, -, -, -, -, -, -, -, -, -⟩ := HPT.out W3 (Below.refl _ _) m1 yy hyy
            obtain rfl := Option.some.inj hy'
            have hlp : lastS (ss.take k) = yy.id := by rw [hm1, List.take_add_one, hyy]; exact lastS_snoc _ _
            have hwk : IntKind.i64.wrap ((k : Int) - 1) = (m1 : Int) := by rw [show (k : Int) - 1 = (m1 : Int) by omega]; exact IntWalk.i64_in _ (by have := HSN.out; omega)
            have g0 : (0 : Int) ≤ m1 := by omega
            have g1 : (m1 : Int) < ns := by omega
            have tg : decide ((0 : Int) < (k : Int)) = true := decide_eq_true (by omega)
            have tgn : decide (0 < k) = true := decide_eq_true (by omega)
            have HLP := Lib.hid hlp
            have HM1 := Lib.hid hm1
            by_cases hle : x.id ≤ yy.id
            · have tl : decide (x.id ≤ yy.id) = true := decide_eq_true hle
              have HTC := Lib.hid (tq_of (x := x) (c := 9) (rest := []) HTS.out HFB.out HST.out (by unfold oneS; rw [HRK.out, if_pos rfl, HLP.out, if_pos hle]) (by decide))
              clear hk0 hyy hlp hle hm1
              go_wp2
              go_quiet (fail)
              have HWQ : Hid (Below W3.heap.size W3 (W3.drewN nq)) := ⟨rfl, rfl, rfl, Nat.le_refl _, fun _ _ => rfl⟩
              obtain ⟨WQ, hWQ⟩ : ∃ WQ, W3.drewN nq = WQ := ⟨_, rfl⟩
              rw [hWQ] at HWQ
              rw [hWQ]
              have HB4 := Lib.hid (HB3.out.trans (HWQ.out.mono HB3.out.size))
              clear hWQ d0 d1 d2 d3 d4 d5 d6 d7 d8 d9 f1
              have HBD := Lib.hid (bad_any 9 3 (k : Int) WQ)
              have HBL := Lib.hid HB4.out
              skip
              go_wp2_with (first
                | (go_at_call 24; refine HBD.out.mono ?_; rintro e W8 ⟨rfl, hb8⟩; have HBL8 := Lib.hid (HBL.out.trans (hb8.mono HBL.out.size)); have HR8 := Lib.hid (HRX.out _ HBL8.out); clear hb8)
                | ((with_reducible show wpList _ _ _ _ _ _); refine wpList_store_row rfl 36 (.tmp 2) (.tmp 130) rfl (w.heap.size + 1) #[.int .i64 9, .int .i64 3, .int .i64 (k : Int)] rfl rfl 36 #[.int .i64 0, .int .i64 0, .int .i64 0] HR8.out (by rw [size_flt]; rfl) rfl (one_flt _ _ _) ?_))
              refine bodyPost_ret (v := fltV 9 3 (k : Int)) (results_cell_row (by rfl) _ _ (w.heap.size + 1) 36 _ (0, 0) _ rfl (setRow_heap _ _ _ _ _ _ HR8.out) Tryz.underlying36 rfl (by rw [size_flt]; rfl)) rfl ⟨by rw [HTC.out]; rfl, ?_⟩
              exact HB0.out.trans ((HBL8.out.mono HB0.out.size).trans ⟨rfl, rfl, rfl, by simp, fun b hb => setRow_other _ _ _ _ (by omega)⟩)
            · have tl : decide (x.id ≤ yy.id) = false := decide_eq_false hle
              have HLE : Hid (yy.id < x.id) := by show _ < _; omega
              clear hk0 hyy hlp hle hm1
              obtain ⟨hi1, hi2, hi3, hi4, hi5, hi6⟩ := rgS_in HRK.out
              obtain ⟨fn, hfn⟩ : ∃ n : Nat, x.fr = (n : Int) := ⟨x.fr.toNat, by omega⟩
              have hnum : ∀ y ∈ x.ws, Num y := fun y hy => (num_of (hi4 y hy)).1
              have hnns : ∀ y ∈ x.ns, Num y := fun y hy => (num_of (hi6 y hy)).1
              have hwl := HWL.out
              have hids : (ps.map PT.id).length ≤ 1099511627776 := by rw [List.length_map, HM.out.pl]; have := HP.out; omega
              have HPA : Hid (∀ W, Below W3.heap.size W3 W → Calls Tryz.prog 13 #[.agg #[.int .u64 e, .int .i64 f, .slice PA np pc, .slice (some y) ns sc, .slice QA nQ qc, .slice AA na acp]] W fun e w' => ∃ A c, e = .returned (.slice A np c) ∧ IntsBelow w'.heap.size w' (.slice A np c) (ps.map PT.id) ∧ Below W.heap.size W w') := fun W b => (by
                have hbw := HBW.out W (HB3.out.trans (b.mono HB3.out.size))
                exact pids_any (HMM.out.kept hbw) HP.out (HM.out.kept hbw))
              have HCK : Hid (∀ (W : World) (I : Option Addr) (ci : Nat), Below W3.heap.size W3 W → IntsBelow W.heap.size W (.slice I np ci) (ps.map PT.id) → Calls Tryz.prog 34 #[.agg #[.int .i64 x.id, .int .i64 x.fr, .slice BB x.ws.length cb, .slice CC x.ns.length cc], .slice I np ci] W fun e w' => e = .returned (.tuple #[.int .i64 (chkW (ps.map PT.id) x.fr ⟨0, 0, 0⟩ 0 x.ws).2, .int .i64 (chkW (ps.map PT.id) x.fr ⟨0, 0, 0⟩ 0 x.ws).1]) ∧ Below W.heap.size W w') := fun W I ci b hI => rcheck_any x.id x.fr BB cb x.ws CC x.ns.length cc I np ci (ps.map PT.id) W hI (HBC.out.kept b) HWX.out.2.1 ⟨by omega, by omega⟩ (by omega) hids
              have HNC : Hid (∀ (W : World) (I : Option Addr) (ci : Nat), Below W3.heap.size W3 W → IntsBelow W.heap.size W (.slice I np ci) (ps.map PT.id) → Calls Tryz.prog 35 #[.agg #[.int .i64 x.id, .int .i64 x.fr, .slice BB x.ws.length cb, .slice CC x.ns.length cc], .slice I np ci] W fun e w' => e = .returned (.tuple #[.int .i64 (chkN (ps.map PT.id) (ticksL (ownT (fn : Int) x.ws) 0 fn) fn ⟨0, 0, 0⟩ 0 x.ns).2, .int .i64 (chkN (ps.map PT.id) (ticksL (ownT (fn : Int) x.ws) 0 fn) fn ⟨0, 0, 0⟩ 0 x.ns).1]) ∧ Below W.heap.size W w') := fun W I ci b hI => (by
                rw [hfn]
                exact rncheck_any x.id BB x.ws.length cb x.ns CC cc I np ci (ps.map PT.id) (ticksL (ownT (fn : Int) x.ws) 0 fn) fn W hI (HCC.out.kept b) hnns hwl.2 hids (fun W' b' => rword_any x.id fn BB cb x.ws CC x.ns.length cc W' ((HBC.out.kept b).kept b') hnum (by omega) (by omega)) (ticks_len _ _ _) (by omega) (by omega))
              have HO : Hid (oneS (ps.map PT.id) (lastS (ss.take k)) x = if (chkW (ps.map PT.id) x.fr ⟨0, 0, 0⟩ 0 x.ws).1 = 0 then (if (chkN (ps.map PT.id) (ticksL (ownT (fn : Int) x.ws) 0 fn) fn ⟨0, 0, 0⟩ 0 x.ns).1 = 0 then (0, []) else ((chkN (ps.map PT.id) (ticksL (ownT (fn : Int) x.ws) 0 fn) fn ⟨0, 0, 0⟩ 0 x.ns).1, [(false, (chkN (ps.map PT.id) (ticksL (ownT (fn : Int) x.ws) 0 fn) fn ⟨0, 0, 0⟩ 0 x.ns).2)])) else ((chkW (ps.map PT.id) x.fr ⟨0, 0, 0⟩ 0 x.ws).1, [(false, (chkW (ps.map PT.id) x.fr ⟨0, 0, 0⟩ 0 x.ws).2)])) := by
                show _ = _
                unfold oneS
                rw [HRK.out, if_pos rfl, if_neg (by rw [HLP.out]; have := HLE.out; omega)]
                unfold w1S
                rw [hfn, Int.toNat_natCast]
                by_cases h1 : (chkW (ps.map PT.id) (fn : Int) ⟨0, 0, 0⟩ 0 x.ws).1 = 0
                · rw [if_pos h1, if_pos h1]
                · rw [if_neg h1, if_neg h1, if_neg h1]
              obtain ⟨q, hq⟩ : ∃ q, chkW (ps.map PT.id) x.fr ⟨0, 0, 0⟩ 0 x.ws = q := ⟨_, rfl⟩
              obtain ⟨q2, hq2⟩ : ∃ q, chkN (ps.map PT.id) (ticksL (ownT (fn : Int) x.ws) 0 fn) fn ⟨0, 0, 0⟩ 0 x.ns = q := ⟨_, rfl⟩
              rw [hq] at HCK HO
              rw [hq2] at HNC HO
              obtain ⟨k1, a1⟩ := q
              obtain ⟨k2, a2⟩ := q2
              dsimp only at HO HCK HNC
              clear hi1 hi2 hi3 hi4 hi5 hi6 hfn hnum hnns hwl hids hq hq2
              go_wp2
              go_quiet (fail)
              have HWQ : Hid (Below W3.heap.size W3 (W3.drewN nq)) := ⟨rfl, rfl, rfl, Nat.le_refl _, fun _ _ => rfl⟩
              obtain ⟨WQ, hWQ⟩ : ∃ WQ, W3.drewN nq = WQ := ⟨_, rfl⟩
              rw [hWQ] at HWQ
              rw [hWQ]
              have HB4 := Lib.hid (HB3.out.trans (HWQ.out.mono HB3.out.size))
              clear hWQ d0 d1 d2 d3 d4 d5 d6 d7 d8 d9 f1
              have hbd : Below W3.heap.size W3 WQ.drew := HWQ.out.trans (((below_refl_drew WQ)).mono HWQ.out.size)
              have HBD0 := Lib.hid hbd
              clear hbd
              obtain ⟨d0, d1, d2, d3, d4, d5, d6, d7, d8, d9⟩ := HQC.out WQ HWQ.out
              go_wp2_with fail
              go_region_held3 (fun wx => wx.cell? ⟨Q, 0, none⟩ = some (.int .i64 x.id) ∧ wx.cell? ⟨Q, 1, none⟩ = some (.int .i64 x.fr) ∧ wx.cell? ⟨Q, 2, none⟩ = some (.slice BB x.ws.length cb) ∧ wx.cell? ⟨Q, 3, none⟩ = some (.slice CC x.ns.length cc) ∧ wx.cell? ⟨w.heap.size, 0, none⟩ = some (.int .u64 e) ∧ wx.cell? ⟨w.heap.size, 1, none⟩ = some (.int .i64 f) ∧ wx.cell? ⟨w.heap.size, 2, none⟩ = some (.slice PA np pc) ∧ wx.cell? ⟨w.heap.size, 3, none⟩ = some (.slice (some y) ns sc) ∧ wx.cell? ⟨w.heap.size, 4, none⟩ = some (.slice QA nQ qc) ∧ wx.cell? ⟨w.heap.size, 5, none⟩ = some (.slice AA na acp))
                (first | (refine ⟨?_, ?_, ?_, ?_, ?_, ?_, ?_, ?_, ?_, ?_⟩ <;> assumption) | (go_keep; done))
                (first
                  | (go_at_call 13; refine (HPA.out _ HBD0.out).mono ?_; rintro e0 W6 ⟨A6, c6, rfl, hi6, hb6⟩; have HB6 := Lib.hid (HBD0.out.trans (hb6.mono HBD0.out.size)); have HCK6 := Lib.hid (HCK.out W6 _ _ HB6.out hi6); obtain ⟨f0, f1, f2, f3, f4, f5, f6, f7, f8, f9⟩ := HQC.out _ HB6.out; clear hi6 hb6)
                  | (go_at_call 34; refine HCK6.out.mono ?_; rintro e0 W7 ⟨rfl, hb7⟩; have HB7 := Lib.hid (HB6.out.trans (hb7.mono HB6.out.size)); obtain ⟨g0, g1, g2, g3, g4, g5, g6, g7, g8, g9⟩ := HQC.out _ HB7.out; clear hb7))
              have HBW7 := Lib.hid (HB3.out.trans (HB7.out.mono HB3.out.size))
              clear d0 d1 d2 d3 d4 d5 d6 d7 d8 d9 f0 f1 f2 f3 f4 f5 f6 f7 f8 f9 HCK HCK6
              by_cases hk1 : k1 = 0
              rotate_left
              · have HTC := Lib.hid (tq_of (x := x) (c := k1) (rest := [(false, a1)]) HTS.out HFB.out HST.out (by rw [HO.out, if_neg hk1]) hk1)
                have t1 : ((k1 : Int) == 0) = false := by simp [hk1]
                have t2 : ((k1 : Int) != 0) = true := by simp [hk1]
                clear hk1 HNC HPA
                have HBD := Lib.hid (bad_any (k1 : Int) 3 (k : Int) W7)
                have HBL := Lib.hid HBW7.out
                clear g0 g1 g2 g3 g4 g5 g6 g7 g8 g9
                go_wp2_with (first
                  | (go_at_call 24; refine HBD.out.mono ?_; rintro e W8 ⟨rfl, hb8⟩; have HBL8 := Lib.hid (HBL.out.trans (hb8.mono HBL.out.size)); have HR8 := Lib.hid (HRX.out _ HBL8.out); clear hb8)
                  | ((with_reducible show wpList _ _ _ _ _ _); refine wpList_store_row rfl 36 (.tmp 2) (.tmp 130) rfl (w.heap.size + 1) #[.int .i64 (k1 : Int), .int .i64 3, .int .i64 (k : Int)] rfl rfl 36 #[.int .i64 0, .int .i64 0, .int .i64 0] HR8.out (by rw [size_flt]; rfl) rfl (one_flt _ _ _) ?_))
                refine bodyPost_ret (v := fltV (k1 : Int) 3 (k : Int)) (results_cell_row (by rfl) _ _ (w.heap.size + 1) 36 _ (0, 0) _ rfl (setRow_heap _ _ _ _ _ _ HR8.out) Tryz.underlying36 rfl (by rw [size_flt]; rfl)) rfl ⟨by rw [HTC.out]; rfl, ?_⟩
                exact HB0.out.trans ((HBL8.out.mono HB0.out.size).trans ⟨rfl, rfl, rfl, by simp, fun b hb => setRow_other _ _ _ _ (by omega)⟩)
              subst hk1
              have HO2 : Hid (oneS (ps.map PT.id) (lastS (ss.take k)) x = if k2 = 0 then (0, []) else (k2, [(false, a2)])) := by show _ = _; rw [HO.out, if_pos rfl]
              clear HO
              go_wp2_with fail
              have hbd7 : Below W3.heap.size W3 W7.drew := HB7.out.trans (((below_refl_drew W7)).mono HB7.out.size)
              have HBD7 := Lib.hid hbd7
              clear hbd7
              go_region_held3 (fun wx => wx.cell? ⟨Q, 0, none⟩ = some (.int .i64 x.id) ∧ wx.cell? ⟨Q, 1, none⟩ = some (.int .i64 x.fr) ∧ wx.cell? ⟨Q, 2, none⟩ = some (.slice BB x.ws.length cb) ∧ wx.cell? ⟨Q, 3, none⟩ = some (.slice CC x.ns.length cc) ∧ wx.cell? ⟨w.heap.size, 0, none⟩ = some (.int .u64 e) ∧ wx.cell? ⟨w.heap.size, 1, none⟩ = some (.int .i64 f) ∧ wx.cell? ⟨w.heap.size, 2, none⟩ = some (.slice PA np pc) ∧ wx.cell? ⟨w.heap.size, 3, none⟩ = some (.slice (some y) ns sc) ∧ wx.cell? ⟨w.heap.size, 4, none⟩ = some (.slice QA nQ qc) ∧ wx.cell? ⟨w.heap.size, 5, none⟩ = some (.slice AA na acp))
                (first | (refine ⟨?_, ?_, ?_, ?_, ?_, ?_, ?_, ?_, ?_, ?_⟩ <;> assumption) | (go_keep; done))
                (first
                  | (go_at_call 13; refine (HPA.out _ HBD7.out).mono ?_; rintro e0 W6 ⟨A6, c6, rfl, hi6, hb6⟩; have HB8 := Lib.hid (HBD7.out.trans (hb6.mono HBD7.out.size)); have HCK6 := Lib.hid (HNC.out W6 _ _ HB8.out hi6); obtain ⟨f0, f1, f2, f3, f4, f5, f6, f7, f8, f9⟩ := HQC.out _ HB8.out; clear hi6 hb6)
                  | (go_at_call 35; refine HCK6.out.mono ?_; rintro e0 W9 ⟨rfl, hb9⟩; have HB9 := Lib.hid (HB8.out.trans (hb9.mono HB8.out.size)); obtain ⟨j0, j1, j2, j3, j4, j5, j6, j7, j8, j9⟩ := HQC.out _ HB9.out; clear hb9))
              have HBW9 := Lib.hid (HB3.out.trans (HB9.out.mono HB3.out.size))
              clear g0 g1 g2 g3 g4 g5 g6 g7 g8 g9 f0 f1 f2 f3 f4 f5 f6 f7 f8 f9 j0 j1 j2 j3 j4 j5 j6 j7 j8 j9 HCK6 HNC HPA
              by_cases hk2 : k2 = 0
              rotate_left
              · have HTC := Lib.hid (tq_of (x := x) (c := k2) (rest := [(false, a2)]) HTS.out HFB.out HST.out (by rw [HO2.out, if_neg hk2]) hk2)
                have t2 : ((k2 : Int) != 0) = true := by simp [hk2]
                clear hk2
                have HBD := Lib.hid (bad_any (k2 : Int) 3 (k : Int) W9)
                have HBL := Lib.hid HBW9.out
                skip
                go_wp2_with (first
                  | (go_at_call 24; refine HBD.out.mono ?_; rintro e W8 ⟨rfl, hb8⟩; have HBL8 := Lib.hid (HBL.out.trans (hb8.mono HBL.out.size)); have HR8 := Lib.hid (HRX.out _ HBL8.out); clear hb8)
                  | ((with_reducible show wpList _ _ _ _ _ _); refine wpList_store_row rfl 36 (.tmp 2) (.tmp 130) rfl (w.heap.size + 1) #[.int .i64 (k2 : Int), .int .i64 3, .int .i64 (k : Int)] rfl rfl 36 #[.int .i64 0, .int .i64 0, .int .i64 0] HR8.out (by rw [size_flt]; rfl) rfl (one_flt _ _ _) ?_))
                refine bodyPost_ret (v := fltV (k2 : Int) 3 (k : Int)) (results_cell_row (by rfl) _ _ (w.heap.size + 1) 36 _ (0, 0) _ rfl (setRow_heap _ _ _ _ _ _ HR8.out) Tryz.underlying36 rfl (by rw [size_flt]; rfl)) rfl ⟨by rw [HTC.out]; rfl, ?_⟩
                exact HB0.out.trans ((HBL8.out.mono HB0.out.size).trans ⟨rfl, rfl, rfl, by simp, fun b hb => setRow_other _ _ _ _ (by omega)⟩)
              subst hk2
              have HST2 := Lib.hid (st_of (x := x) (rest := []) HFB.out HST.out (by rw [HO2.out, if_pos rfl]))
              have hkk1 : IntKind.i64.wrap ((k : Int) + 1) = (k : Int) + 1 := IntWalk.i64_in _ (by have := HLT.out; have := HSN.out; omega)
              go_wp2
              go_roundw
              case rel => exact ⟨k + 1, HLT.out, by go_num, HST2.out, HBW9.out⟩
              case measure => have := HLT.out; simp [intOf]; omega
        · obtain rfl : ns = k := by omega
          have HSS : Hid (secSc (ps.map PT.id) ss = manyM ns 1 16) := by
            have h1 : fbw (fun pre x => oneS (ps.map PT.id) (lastS pre) x) [] ss = (0, []) := by
              have h2 := HFB.out
              have hsl := HM.out.sl
              rw [← hsl, fbw_end] at h2
              exact h2
            show secSc (ps.map PT.id) ss = _
            unfold secSc
            rw [h1, if_pos rfl, HM.out.sl]
          clear hlt hk tlo tln thi thn
          by_cases hlo : ns < 1
          · have tlo : decide ((ns : Int) < 1) = true := decide_eq_true (by omega)
            have tln : decide (ns < 1) = true := decide_eq_true hlo
            have htq : tq = (8, [(true, 3)]) := by
              rw [HTS.out, HSS.out, manyM, if_pos (.inl hlo), inS, if_neg (by decide)]
            have HTC := Lib.hid htq
            clear htq
            have HBD := Lib.hid (bad_any 8 3 0 W)
            have HBL := Lib.hid HBL.out
            skip
            go_wp2_with (first
              | (go_at_call 24; refine HBD.out.mono ?_; rintro e W8 ⟨rfl, hb8⟩; have HBL8 := Lib.hid (HBL.out.trans (hb8.mono HBL.out.size)); have HR8 := Lib.hid (HRX.out _ HBL8.out); clear hb8)
              | ((with_reducible show wpList _ _ _ _ _ _); refine wpList_store_row rfl 36 (.tmp 2) (.tmp 141) rfl (w.heap.size + 1) #[.int .i64 8, .int .i64 3, .int .i64 0] rfl rfl 36 #[.int .i64 0, .int .i64 0, .int .i64 0] HR8.out (by rw [size_flt]; rfl) rfl (one_flt _ _ _) ?_))
            refine bodyPost_ret (v := fltV 8 3 0) (results_cell_row (by rfl) _ _ (w.heap.size + 1) 36 _ (0, 0) _ rfl (setRow_heap _ _ _ _ _ _ HR8.out) Tryz.underlying36 rfl (by rw [size_flt]; rfl)) rfl ⟨by rw [HTC.out]; rfl, ?_⟩
            exact HB0.out.trans ((HBL8.out.mono HB0.out.size).trans ⟨rfl, rfl, rfl, by simp, fun b hb => setRow_other _ _ _ _ (by omega)⟩)
          have tlo : decide ((ns : Int) < 1) = false := decide_eq_false (by omega)
          have tln : decide (ns < 1) = false := decide_eq_false hlo
          by_cases hhi : 16 < ns
          · have thi : decide ((16 : Int) < (ns : Int)) = true := decide_eq_true (by omega)
            have thn : decide (16 < ns) = true := decide_eq_true hhi
            have htq : tq = (8, [(true, 3)]) := by
              rw [HTS.out, HSS.out, manyM, if_pos (.inr hhi), inS, if_neg (by decide)]
            have HTC := Lib.hid htq
            clear htq
            have HBD := Lib.hid (bad_any 8 3 0 W)
            have HBL := Lib.hid HBL.out
            skip
            go_wp2_with (first
              | (go_at_call 24; refine HBD.out.mono ?_; rintro e W8 ⟨rfl, hb8⟩; have HBL8 := Lib.hid (HBL.out.trans (hb8.mono HBL.out.size)); have HR8 := Lib.hid (HRX.out _ HBL8.out); clear hb8)
              | ((with_reducible show wpList _ _ _ _ _ _); refine wpList_store_row rfl 36 (.tmp 2) (.tmp 141) rfl (w.heap.size + 1) #[.int .i64 8, .int .i64 3, .int .i64 0] rfl rfl 36 #[.int .i64 0, .int .i64 0, .int .i64 0] HR8.out (by rw [size_flt]; rfl) rfl (one_flt _ _ _) ?_))
            refine bodyPost_ret (v := fltV 8 3 0) (results_cell_row (by rfl) _ _ (w.heap.size + 1) 36 _ (0, 0) _ rfl (setRow_heap _ _ _ _ _ _ HR8.out) Tryz.underlying36 rfl (by rw [size_flt]; rfl)) rfl ⟨by rw [HTC.out]; rfl, ?_⟩
            exact HB0.out.trans ((HBL8.out.mono HB0.out.size).trans ⟨rfl, rfl, rfl, by simp, fun b hb => setRow_other _ _ _ _ (by omega)⟩)
          have thi : decide ((16 : Int) < (ns : Int)) = false := decide_eq_false (by omega)
          have thn : decide (16 < ns) = false := decide_eq_false hhi
          have htq : tq = (0, []) := by rw [HTS.out, HSS.out, manyM, if_neg (by omega), inS, if_pos rfl]
          have HTC := Lib.hid htq
          have HR8 := Lib.hid (HRX.out _ HBL.out)
          clear htq hlo hhi
          go_wp2_with (first
            | ((with_reducible show wpList _ _ _ _ _ _); refine wpList_store_row rfl 36 (.tmp 2) (.tmp 142) rfl (w.heap.size + 1) #[.int .i64 0, .int .i64 0, .int .i64 0] rfl rfl 36 #[.int .i64 0, .int .i64 0, .int .i64 0] HR8.out (by rw [size_flt]; rfl) rfl (one_flt _ _ _) ?_))
          refine bodyPost_ret (v := fltV 0 0 0) (results_cell_row (by rfl) _ _ (w.heap.size + 1) 36 _ (0, 0) _ rfl (setRow_heap _ _ _ _ _ _ HR8.out) Tryz.underlying36 rfl (by rw [size_flt]; rfl)) rfl ⟨by rw [HTC.out]; rfl, ?_⟩
          exact HB0.out.trans ((HBL.out.mono HB0.out.size).trans ⟨rfl, rfl, rfl, by simp, fun b hb => setRow_other _ _ _ _ (by omega)⟩)
end

end Go.Proofs.YtmcmmbkodllpkaaGreatDoor.Chk
