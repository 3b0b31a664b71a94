/- The first schedule of an id (scheds.Find), and what is wrong with a module's first one (check.first), its transitions (check.transitions). Condition: at most a thousand of each. -/
import Derived.Test.YtmcmmbkodllpkaaGreatDoorMg36
namespace Go.Proofs.YtmcmmbkodllpkaaGreatDoor.Scd

open Go.RowKit Go.PlainAid Go.Proofs.YtmcmmbkodllpkaaGreatDoor.Act

set_option linter.unusedVariables false

set_option linter.unusedSimpArgs false

def fiS (id : Int) : List SC → Option Nat
  | [] => none
  | x :: l => if x.id == id then some 0 else (fiS id l).map (· + 1)
theorem fs_hit (id : Int) : ∀ (l : List SC) (k : Nat) (x : SC), l[k]? = some x → (x.id == id) = true → (∀ (j : Nat) (y : SC), j < k → l[j]? = some y → (y.id == id) = false) → fiS id l = some k
  | [], k, x, h, _, _ => by simp at h
  | y :: l, 0, x, h, hx, _ => by
    obtain rfl : y = x := by simpa using h
    rw [fiS, if_pos hx]
  | y :: l, k + 1, x, h, hx, hall => by
    have h0 := hall 0 y (by omega) (by simp)
    rw [fiS, if_neg (by simp [h0]), fs_hit id l k x (by simpa using h) hx (fun j z hj hz => hall (j + 1) z (by omega) (by simpa using hz))]
    rfl
theorem fs_none (id : Int) : ∀ (l : List SC), (∀ (j : Nat) (y : SC), l[j]? = some y → (y.id == id) = false) → fiS id l = none
  | [], _ => rfl
  | y :: l, hall => by
    have h0 := hall 0 y (by simp)
    rw [fiS, if_neg (by simp [h0]), fs_none id l (fun j z hz => hall (j + 1) z (by simpa using hz))]
    rfl
theorem spred_any (x : SC) (B C : Option Addr) (cb cc b : Nat) (id : Int) (w : World) (hb : w.cell? ⟨b, 0, none⟩ = some (.int .i64 id)) :
    Calls Tryz.prog 72 #[.agg #[.int .i64 x.id, .int .i64 x.fr, .slice B x.ws.length cb, .slice C x.ns.length cc], .pointer (some ⟨b, 0, none⟩)] w fun e w' => e = .returned (.bool (x.id == id)) ∧ Below w.heap.size w w' := by
  have HB : Hid (∀ o, Below w.heap.size w (w.alloc o)) := fun o => (Below.refl _ _).alloc (Nat.le_refl _) o
  have hb2 := fun o => ((HB.out o).cell (Go.block_lt_of_cell hb)).trans hb
  obtain ⟨i1, f1, ws, ns⟩ := x
  dsimp only
  obtain ⟨t, ht⟩ : ∃ t, (i1 == id) = t := ⟨_, rfl⟩
  rw [ht]
  clear hb
  go_enter Tryz.func72, Tryz.ntmps72
  go_wp2
  go_ret
  exact ⟨rfl, HB.out _⟩
def fiI : Option Nat → Int
  | none => -1
  | some k => k
def IRelS (l : List SC) (id : Int) (w : World) (i : Value) (wr : World) : Prop := ∃ k : Nat, k ≤ l.length ∧ i = .int .i64 k ∧ (∀ (j : Nat) (y : SC), j < k → l[j]? = some y → (y.id == id) = false) ∧ Below w.heap.size w wr
set_option maxRecDepth 4000 in
set_option maxHeartbeats 1600000 in
theorem sindex_any (A : Option Addr) (cap : Nat) (l : List SC) (b : Nat) (id : Int) (w : World) (h1 : ScdAt w A l) (hl : l.length ≤ 1000) (hb : w.cell? ⟨b, 0, none⟩ = some (.int .i64 id)) :
    Calls Tryz.prog 71 #[.slice A l.length cap, .func (.func 72) #[] #[.pointer (some ⟨b, 0, none⟩)]] w fun e w' => e = .returned (.int .i64 (fiI (fiS id l))) ∧ Below w.heap.size w w' := by
  have H1 := Lib.hid h1
  have HP : Hid (∀ W, Below w.heap.size w W → W.cell? ⟨b, 0, none⟩ = some (.int .i64 id)) := fun W hw => (hw.cell (Go.block_lt_of_cell hb)).trans hb
  have HBK := Lib.hid (Go.block_lt_of_cell hb)
  obtain ⟨a, ha⟩ : ∃ a, l.length = a := ⟨_, rfl⟩
  have HA := Lib.hid ha
  rw [ha] at hl
  rw [ha]
  clear h1 ha hb
  go_enter Tryz.func71, Tryz.ntmps71
  go_wp2
  go_loopw [8] (fun i wr => IRelS l id w i wr) (fun i _ => a - (intOf i).toNat)
  case atStart => exact ⟨0, Nat.zero_le _, rfl, fun j x hj => by omega, Below.refl _ _⟩
  case round =>
    obtain ⟨k, hk, rfl, hb, hbel⟩ := hrel
    have HB := Lib.hid hb
    have HE := Lib.hid hbel
    have hka : k ≤ a := by rw [← HA.out]; exact hk
    clear hb hk hbel
    by_cases hlt : k < a
    · obtain ⟨x, hx⟩ : ∃ x, l[k]? = some x := ⟨_, List.getElem?_eq_getElem (by rw [HA.out]; exact hlt)⟩
      obtain ⟨ax, B, cb, C, cc, rfl, c1, c2, c3, c4, _⟩ := (H1.out.kept HE.out) k x hx
      have HX := Lib.hid hx
      have HC := Lib.hid (spred_any x B C cb cc b id wr (HP.out _ HE.out))
      have hki : (0 : Int) ≤ k := by omega
      have hkb : (k : Int) < a := by omega
      obtain ⟨t, ht⟩ : ∃ t, (x.id == id) = t := ⟨_, rfl⟩
      rw [ht] at HC
      have HT := Lib.hid ht
      obtain ⟨L1, hL1⟩ : ∃ L1, x.ws.length = L1 := ⟨_, rfl⟩
      obtain ⟨L2, hL2⟩ : ∃ L2, x.ns.length = L2 := ⟨_, rfl⟩
      rw [hL1] at c3 HC
      rw [hL2] at c4 HC
      clear hx hL1 hL2 ht
      go_wp2_with fail
      refine HC.out.mono ?_
      rintro e w2 ⟨rfl, hb2⟩
      have HB2 := Lib.hid (HE.out.trans (hb2.mono HE.out.size))
      clear hb2
      cases t with
      | true =>
        have HF := Lib.hid (fs_hit id l k x HX.out HT.out HB.out)
        go_wp2
        go_ret
        exact ⟨by rw [HF.out]; rfl, HB2.out⟩
      | false =>
        go_wp2
        go_roundw
        case rel => exact ⟨k + 1, by rw [HA.out]; omega, by go_num, fun j y hj hy => by
          by_cases hjk : j = k
          · subst hjk
            rw [HX.out] at hy
            obtain rfl := Option.some.inj hy
            exact HT.out
          · exact HB.out j y (by omega) hy, HB2.out⟩
        case measure => simp [intOf]; omega
    · obtain rfl : k = a := by omega
      have HF := Lib.hid (fs_none id l (fun j y hy => HB.out j y (by rw [← HA.out]; exact (List.getElem?_eq_some_iff.1 hy).1) hy))
      go_wp2
      go_ret
      exact ⟨by rw [HF.out]; rfl, HE.out⟩
theorem fs_lt (id : Int) : ∀ (l : List SC) (k : Nat), fiS id l = some k → k < l.length
  | [], k, h => by cases h
  | y :: l, k, h => by
    rw [fiS] at h
    split at h
    · obtain rfl := Option.some.inj h; simp
    · obtain ⟨j, hj, rfl⟩ := Option.map_eq_some_iff.1 h
      have := fs_lt id l j hj
      simp; omega
def fiV (o : Option Nat) : Nat := o.getD 0
set_option maxRecDepth 4000 in
theorem sfind_any (A : Option Addr) (cap : Nat) (l : List SC) (id : Int) (w : World) (h1 : ScdAt w A l) (hl : l.length ≤ 1000) :
    Calls Tryz.prog 54 #[.slice A l.length cap, .int .i64 id] w fun e w' => e = .returned (.tuple #[.int .i64 (fiV (fiS id l)), .bool (fiS id l).isSome]) ∧ Below w.heap.size w w' := by
  have hb : Below w.heap.size w (w.alloc (.cells #[.int .i64 id] 3)) := (Below.refl _ _).alloc (Nat.le_refl _) _
  have HI := Lib.hid (sindex_any A cap l w.heap.size id _ (h1.kept hb) hl (by rw [cell_of_row _ _ 0 _ _ _ (heap_alloc_new w (.cells #[.int .i64 id] 3))]; rfl))
  have HB := Lib.hid hb
  obtain ⟨a, ha⟩ : ∃ a, l.length = a := ⟨_, rfl⟩
  have hlt := fs_lt id l
  rw [ha] at HI hl hlt
  rw [ha]
  obtain ⟨o, ho⟩ : ∃ o, fiS id l = o := ⟨_, rfl⟩
  rw [ho] at HI hlt
  rw [ho]
  clear hb h1 ha ho
  cases o with
  | none =>
    unfold fiI at HI
    clear hlt
    go_enter Tryz.func54, Tryz.ntmps54
    go_wp2_with fail
    refine HI.out.mono ?_
    rintro e w2 ⟨rfl, hb2⟩
    have HB2 := Lib.hid (HB.out.trans (hb2.mono HB.out.size))
    clear hb2
    go_wp2
    go_ret2
    exact ⟨rfl, HB2.out⟩
  | some k =>
    have hk := hlt k rfl
    unfold fiI at HI
    have hki : (0 : Int) ≤ k := by omega
    have tm : max (k : Int) 0 = k := by omega
    clear hlt
    go_enter Tryz.func54, Tryz.ntmps54
    go_wp2_with fail
    refine HI.out.mono ?_
    rintro e w2 ⟨rfl, hb2⟩
    have HB2 := Lib.hid (HB.out.trans (hb2.mono HB.out.size))
    clear hb2
    go_wp2
    go_ret2
    exact ⟨rfl, HB2.out⟩
end Go.Proofs.YtmcmmbkodllpkaaGreatDoor.Scd

namespace Go.Proofs.YtmcmmbkodllpkaaGreatDoor.Chk

open Go.RowKit Go.PlainAid Go.Proofs.YtmcmmbkodllpkaaGreatDoor.Flt Go.Proofs.YtmcmmbkodllpkaaGreatDoor.Rdr Go.Proofs.YtmcmmbkodllpkaaGreatDoor.Win Go.Proofs.YtmcmmbkodllpkaaGreatDoor.Nee Go.Proofs.YtmcmmbkodllpkaaGreatDoor.Rel

open Go.Proofs.YtmcmmbkodllpkaaGreatDoor.Cel (own_slice own_keep own_base)

open Go.Proofs.YtmcmmbkodllpkaaGreatDoor.Prt (PT PartsAt)

open Go.Proofs.YtmcmmbkodllpkaaGreatDoor.Scd (SC ScdAt ScdAt.kept fiS sfind_any)

open Go.Proofs.YtmcmmbkodllpkaaGreatDoor.Pai (P2 PairsAt PairsAt.kept)

open Go.Proofs.YtmcmmbkodllpkaaGreatDoor.Act (A3 ActsAt ActsAt.kept I64 Wide)

open Go.Proofs.YtmcmmbkodllpkaaGreatDoor.Lat (LP LS LPAt LSAt MAt cparts_any cscheds_any PidPost IdsPost)

set_option linter.unusedVariables false

set_option linter.unusedSimpArgs false

theorem fi_in (id : Int) : ∀ (l : List SC), (fiS id l).isSome = inL (l.map SC.id) id
  | [] => rfl
  | x :: l => by
    unfold fiS inL
    rw [List.map_cons, List.any_cons]
    cases h : (x.id == id)
    · simp only [Bool.false_eq_true, if_false, Bool.false_or, Option.isSome_map]
      rw [fi_in id l]; rfl
    · simp
section

variable {w : World} {PA SA QA AA : Option Addr} {np pc ns sc nq qc na acp : Nat} {ps : List PT} {ss : List SC} {qs : List P2} {av : List A3} {e f : Int} {lp : List LP} {ls : List LS} {lq : List Go.Proofs.YtmcmmbkodllpkaaGreatDoor.Lat.P2}

set_option maxRecDepth 8000 in
set_option maxHeartbeats 1600000 in
theorem first_any (hn : Names w) (h : BMod w PA SA QA AA np ns nq na ps ss qs av) (hs : ns ≤ 1000) :
    Calls Tryz.prog 38 #[.agg #[.int .u64 e, .int .i64 f, .slice PA np pc, .slice SA ns sc, .slice QA nq qc, .slice AA na acp]] w fun e w' => ∃ x, e = .returned x ∧ WrongK w' x (if inL (ss.map SC.id) f then (0, []) else (10, [])) ∧ Below w.heap.size w w' := by
  have hb0 : Below w.heap.size w (w.alloc (.cells #[.int .u64 e, .int .i64 f, .slice PA np pc, .slice SA ns sc, .slice QA nq qc, .slice AA na acp] 28)) := (Below.refl _ _).alloc (Nat.le_refl _) _
  have hx0 := heap_alloc_new w (.cells #[.int .u64 e, .int .i64 f, .slice PA np pc, .slice SA ns sc, .slice QA nq qc, .slice AA na acp] 28)
  obtain ⟨W1, hW1⟩ : ∃ W, w.alloc (.cells #[.int .u64 e, .int .i64 f, .slice PA np pc, .slice SA ns sc, .slice QA nq qc, .slice AA na acp] 28) = W := ⟨_, rfl⟩
  rw [hW1] at hb0 hx0
  have x1 := cell_of_row _ _ 1 _ _ _ hx0
  have x3 := cell_of_row _ _ 3 _ _ _ hx0
  simp only [List.getElem?_toArray, List.getElem?_cons_zero, List.getElem?_cons_succ] at x1 x3
  have hfi := sfind_any SA sc ss f W1 (h.s.kept hb0) (by rw [h.sl]; exact hs)
  rw [h.sl, fi_in] at hfi
  have HFI := Lib.hid hfi
  obtain ⟨z, hz⟩ : ∃ z, inL (ss.map SC.id) f = z := ⟨_, rfl⟩
  rw [hz] at HFI ⊢
  have HB := Lib.hid hb0
  have HN := Lib.hid (hn.kept hb0)
  have HW1 := Lib.hid hW1
  obtain ⟨vv, hvv⟩ : ∃ vv, Go.Proofs.YtmcmmbkodllpkaaGreatDoor.Scd.fiV (fiS f ss) = vv := ⟨_, rfl⟩
  rw [hvv] at HFI
  clear hn h hs hb0 hx0 hW1 hfi hz hvv
  cases z with
  | true =>
    go_enter Tryz.func38, Tryz.ntmps38
    go_upto_region 1 with fail
    rw [HW1.out]
    go_wp2_with (go_at_call 54; refine HFI.out.mono ?_; rintro e w2 ⟨rfl, hb2⟩; have HB2 := Lib.hid (HB.out.trans (hb2.mono HB.out.size)); clear hb2)
    go_ret
    exact ⟨_, rfl, .inl ⟨rfl, rfl⟩, HB2.out⟩
  | false =>
    go_enter Tryz.func38, Tryz.ntmps38
    go_upto_region 1 with fail
    rw [HW1.out]
    go_wp2_with (first
      | (go_at_call 54; refine HFI.out.mono ?_; rintro e w2 ⟨rfl, hb2⟩; have HB2 := Lib.hid (HB.out.trans (hb2.mono HB.out.size)); have HN2 := Lib.hid (HN.out.kept hb2); clear hb2)
      | (go_at_call 55; refine (new_yes 10 (by omega) (by omega) _ HN2.out).mono ?_; rintro e w3 ⟨rfl, rfl⟩))
    go_ret
    exact ⟨_, rfl, .inr ⟨by decide, by decide, rfl⟩, HB2.out⟩
set_option maxRecDepth 8000 in
set_option maxHeartbeats 3200000 in
theorem transitions_any (hn : Names w) (h : BMod w PA SA QA AA np ns nq na ps ss qs av) (hm : MAt w PA SA QA np ns nq lp ls lq) (hs : ns ≤ 1000) (hq : nq ≤ 1000) :
    Calls Tryz.prog 41 #[.agg #[.int .u64 e, .int .i64 f, .slice PA np pc, .slice SA ns sc, .slice QA nq qc, .slice AA na acp]] w fun e w' => ∃ x, e = .returned x ∧ WrongK w' x (secPr (ss.map SC.id) qs) ∧ Below w.heap.size w w' := by
  have hb0 : Below w.heap.size w (w.alloc (.cells #[.int .u64 e, .int .i64 f, .slice PA np pc, .slice SA ns sc, .slice QA nq qc, .slice AA na acp] 28)) := (Below.refl _ _).alloc (Nat.le_refl _) _
  have hx0 := heap_alloc_new w (.cells #[.int .u64 e, .int .i64 f, .slice PA np pc, .slice SA ns sc, .slice QA nq qc, .slice AA na acp] 28)
  obtain ⟨W1, hW1⟩ : ∃ W, w.alloc (.cells #[.int .u64 e, .int .i64 f, .slice PA np pc, .slice SA ns sc, .slice QA nq qc, .slice AA na acp] 28) = W := ⟨_, rfl⟩
  rw [hW1] at hb0 hx0
  obtain ⟨ids, hids⟩ : ∃ ids, ss.map SC.id = ids := ⟨_, rfl⟩
  rw [hids]
  have hil : ids.length = ns := by rw [← hids, List.length_map]; exact h.sl
  have hls : ls.map LS.id = ids := by rw [← hids]; exact link_s hm.s h.s (by rw [hm.sl, h.sl])
  have HLS := Lib.hid hls
  have HLN : Hid (ls.length = ns) := hm.sl
  have HD0 : Hid (Below W1.heap.size W1 W1.drew) := ⟨rfl, rfl, rfl, Nat.le_refl _, fun _ _ => rfl⟩
  have hbd := hb0.trans (HD0.out.mono hb0.size)
  have HCP := Lib.hid (cscheds_any (pc := pc) (sc := sc) (qc := qc) (AA := AA) (na := na) (acp := acp) (e := e) (f := f) (hm.kept hbd) (by omega))
  have HRK := Lib.hid (fun (W : World) (b : Below w.heap.size w W) (I : Option Addr) (ci : Nat) (hI : IntsBelow W.heap.size W (.slice I ns ci) ids) => rchk_any QA qc nq qs I ns ci ids W (hn.kept b) (h.q.kept b) h.ql hq hI (by omega))
  have HSS : Hid (∀ wx : World, Below W1.heap.size W1 wx → wx.cell? ⟨w.heap.size, 0, none⟩ = some (.int .u64 e) ∧ wx.cell? ⟨w.heap.size, 1, none⟩ = some (.int .i64 f) ∧ wx.cell? ⟨w.heap.size, 2, none⟩ = some (.slice PA np pc) ∧ wx.cell? ⟨w.heap.size, 3, none⟩ = some (.slice SA ns sc) ∧ wx.cell? ⟨w.heap.size, 4, none⟩ = some (.slice QA nq qc) ∧ wx.cell? ⟨w.heap.size, 5, none⟩ = some (.slice AA na acp)) := fun wx b => by
    have h2 := (b.block _ (lt_of_block hx0)).trans hx0
    refine ⟨?_, ?_, ?_, ?_, ?_, ?_⟩ <;> rw [cell_of_row wx _ _ _ _ _ h2] <;> rfl
  have HK0 := Lib.hid (HSS.out _ HD0.out)
  obtain ⟨z0, z1, z2, z3, z4, z5⟩ := HK0.out
  have HB := Lib.hid hb0
  have HN := Lib.hid hn
  have HW1 := Lib.hid hW1
  obtain ⟨k, hk⟩ : ∃ k, (badR ids qs).1 = k := ⟨_, rfl⟩
  obtain ⟨a, ha⟩ : ∃ a, (badR ids qs).2 = a := ⟨_, rfl⟩
  have HSEC : Hid (secPr ids qs = if k = 0 then manyM nq 0 240 else (k, [(false, a)])) := by
    show _ = _
    unfold secPr
    rw [hk, ha, h.ql]
  rw [hk, ha] at HRK
  clear hn h hm hs hq hb0 hx0 hW1 hids hil hls hbd hk ha
  go_enter Tryz.func41, Tryz.ntmps41
  go_upto_region 1 with fail
  rw [HW1.out]
  go_region_held3 (fun wx => wx.cell? ⟨w.heap.size, 0, none⟩ = some (.int .u64 e) ∧ wx.cell? ⟨w.heap.size, 1, none⟩ = some (.int .i64 f) ∧ wx.cell? ⟨w.heap.size, 2, none⟩ = some (.slice PA np pc) ∧ wx.cell? ⟨w.heap.size, 3, none⟩ = some (.slice SA ns sc) ∧ wx.cell? ⟨w.heap.size, 4, none⟩ = some (.slice QA nq qc) ∧ wx.cell? ⟨w.heap.size, 5, none⟩ = some (.slice AA na acp))
    (first | exact HK3.out | exact HK2.out | exact HK0.out | (refine ⟨?_, ?_, ?_, ?_, ?_, ?_⟩ <;> assumption) | (go_keep; done))
    (first
      | (go_at_call 14; refine HCP.out.mono ?_; rintro e W2 ⟨V, rfl, ho, hb2⟩; obtain ⟨IA, ic, rfl⟩ := own_slice ho; have hmp : (ls.map fun x => Value.int .i64 x.id) = ids.map (Value.int .i64) := (by rw [← HLS.out, List.map_map]; rfl); rw [hmp] at ho; have hio := ints_own ho; rw [HLN.out] at hio ⊢; have HIO := Lib.hid hio; have HB2 := Lib.hid (HD0.out.trans (hb2.mono HD0.out.size)); have HK2 := Lib.hid (HSS.out W2 HB2.out); clear hb2 ho hmp hio)
      | (go_at_call 60; refine (HRK.out W2 (HB.out.trans (HB2.out.mono HB.out.size)) IA ic HIO.out).mono ?_; rintro e W3 ⟨x3, rfl, hx3, hb3⟩; have HX3 := Lib.hid hx3; have HB3 := Lib.hid (HB2.out.trans (hb3.mono HB2.out.size)); have HK3 := Lib.hid (HSS.out W3 HB3.out); clear hx3 hb3))
  all_goals
    have HBW := Lib.hid (HB.out.trans (HB3.out.mono HB.out.size))
    obtain ⟨y0, y1, y2, y3, y4, y5⟩ := HK3.out
    clear z0 z1 z2 z3 z4 z5
    by_cases hk0 : k = 0
    · have hx := HX3.out
      rcases hx with ⟨-, -, rfl⟩ | ⟨h, -, -⟩
      · have HMN := Lib.hid (many_any nq 0 240 W3 (HN.out.kept HBW.out))
        rw [if_pos hk0] at HSEC
        clear hk0
        go_wp2_with (go_at_call 58; refine HMN.out.mono ?_; rintro e W5 ⟨y5, rfl, hy5, rfl⟩; have HY5 := Lib.hid hy5; clear hy5)
        go_ret
        exact ⟨_, rfl, by rw [HSEC.out]; exact HY5.out, HBW.out⟩
      · omega
    · obtain ⟨u, y, rfl⟩ := wrongA_iface HX3.out hk0
      have hx4 := wrong_of HX3.out
      rw [if_neg hk0] at hx4 HSEC
      have HX4 := Lib.hid hx4
      clear hx4 hk0
      go_wp2
      go_ret
      exact ⟨_, rfl, by rw [HSEC.out]; exact HX4.out, HBW.out⟩
end

end Go.Proofs.YtmcmmbkodllpkaaGreatDoor.Chk
