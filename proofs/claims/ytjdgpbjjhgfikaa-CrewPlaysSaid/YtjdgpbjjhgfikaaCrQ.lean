
/- Copies of a crew. Condition: at most a thousand partitions of a thousand cells each. -/

import Derived.Test.YtjdgpbjjhgfikaaCrF

namespace Go.Proofs.Ytjdgpbjjhgfikaa.Crw

open Go.RowKit Go.PlainAid Go.Proofs.Ytjdgpbjjhgfikaa.Args Go.Proofs.Ytjdgpbjjhgfikaa.Cel Go.Proofs.Ytjdgpbjjhgfikaa.Pt Go.Proofs.Ytjdgpbjjhgfikaa.Mpv

open Go.Proofs.Ytjdgpbjjhgfikaa.Srt (wpList_make_one)

set_option linter.unusedVariables false

set_option linter.unusedSimpArgs false

theorem infoPtr : (Try.prog.info? 43).map (fun i => (i.zero, i.size, i.bytes)) = some (some (.pointer none), 1, 8) := by kernel_rfl
/-- A row of pointers of the call's own. -/
def RowV (g : Nat) (vs : List Value) (W : World) : Prop := W.heap[g]? = some (.cells vs.toArray 43 (0, 0))
theorem RowV.keep {g : Nat} {vs : List Value} {W W' : World} (h : RowV g vs W) (b : Below W.heap.size W W') : RowV g vs W' := (b.block _ (lt_of_block h)).trans h
theorem RowV.cell {g : Nat} {vs : List Value} {W : World} (h : RowV g vs W) {i : Nat} {v : Value} (hx : vs[i]? = some v) : W.cell? ⟨g, i, none⟩ = some v := by
  rw [cell_of_row _ _ _ _ _ _ h]
  simp [hx]
theorem RowV.free {g : Nat} {vs : List Value} {W : World} (h : RowV g vs W) (i : Nat) : W.frozen? ⟨g, i, none⟩ = false := by simp [World.frozen?, show W.heap[g]? = _ from h]
theorem RowV.set {g : Nat} {vs : List Value} {W : World} (h : RowV g vs W) (i : Nat) (v : Value) : RowV g (vs.set i v) (W.setCell ⟨g, i, none⟩ v) := by
  unfold RowV
  rw [setCell_eq_setRow W g i _ _ _ _ h, setRow_heap W g _ _ _ (0, 0) h, List.setIfInBounds_toArray]
def fillV (D : List CP) (n : Nat) : List Value := D.map CP.ptr ++ List.replicate (n - D.length) (.pointer none)
theorem fillV_set (D : List CP) (n : Nat) (p : CP) (h : D.length < n) : (fillV D n).set D.length p.ptr = fillV (D ++ [p]) n := by
  unfold fillV
  have e : n - D.length = (n - (D.length + 1)) + 1 := by omega
  rw [List.length_append, List.length_singleton, e, List.replicate_succ, List.set_append_right _ _ (by simp), List.length_map, Nat.sub_self]
  simp
/-- Partitions of the call's own, from block N on, side by side. -/
def Own (W : World) (N : Nat) (D : List CP) : Prop := (∀ p ∈ D, p.On W ∧ N ≤ p.lo ∧ p.s.n ≤ 1000 ∧ Mpv.I64 p.s.id) ∧ D.Pairwise fun p q => p.hi ≤ q.lo
theorem Own.keep {W W' : World} {N : Nat} {D : List CP} (h : Own W N D) (b : Below W.heap.size W W') : Own W' N D := ⟨fun p hp => ⟨IsP.keep (h.1 p hp).1 b, (h.1 p hp).2⟩, h.2⟩
theorem Own.apart {W W' : World} {N lo hi : Nat} {D : List CP} (h : Own W N D) (r : Rng lo hi W W') (ho : hi ≤ N) : Own W' N D := ⟨fun p hp => ⟨IsP.apart (h.1 p hp).1 r (.inr (by have := (h.1 p hp).2.1; omega)), (h.1 p hp).2⟩, h.2⟩
def CpPost (L : List CP) (n : Nat) (w : World) (e : Ending) (w' : World) : Prop :=
  ∃ R D, e = .returned (.slice (some ⟨R, 0, none⟩) n n) ∧ w.heap.size ≤ R ∧ RowV R (D.map CP.ptr) w' ∧ D.map CP.q = L.map CP.q ∧ Own w' (R + 1) D ∧ Below w.heap.size w w'
def CpRel (L : List CP) (n R : Nat) (w : World) (i : Value) (W : World) : Prop :=
  ∃ (k : Nat) (D : List CP), k ≤ n ∧ i = .int .i64 (k : Int) ∧ D.length = k ∧ RowV R (fillV D n) W ∧ D.map CP.q = (L.take k).map CP.q ∧ Own W (R + 1) D ∧ Below w.heap.size w W
section

variable {w : World} {B g mb : Nat} {V : Value} {L : List CP}

set_option maxRecDepth 8000 in
set_option maxHeartbeats 3200000 in
theorem asked_copy (h : IsW w B g mb V L) (hL : L.length ≤ 1000) :
    Calls Try.prog 50 #[.pointer (some ⟨g, 0, none⟩), .func (.func 51) #[] #[]] w (CpPost L L.length w) := by
  obtain ⟨i0, hi0, hz0, hz1, hz2⟩ := info_parts infoPtr
  obtain ⟨n, hn⟩ : ∃ n, L.length = n := ⟨_, rfl⟩
  obtain ⟨IDA, cv, rfl, hia⟩ := h.ids
  rw [hn] at h ⊢
  have HN := Lib.hid hn
  have HH := Lib.hid h
  have HNL : Hid (n ≤ 1000) := by show _ ≤ _; omega
  have c0 := h.c0
  have c1 := h.c1
  unfold CpPost
  clear h hL hia hn
  go_enter Try.func50, Try.ntmps50
  go_wp2_with (first | (at_make; refine wpList_make_one _ rfl _ _ 115 rfl 43 i0 (.pointer none) Try.underlying115 hi0 hz0 hz1 rfl _ _ _ _ n n rfl rfl ?e1 ?e2 ?e3 ?e4 ?e5 ?_) | fail)
  case e1 => rfl
  case e2 => rfl
  case e3 => omega
  case e4 => have := HNL.out; rw [hz2]; omega
  case e5 => have := HNL.out; omega
  intro w1 cur hcur hrow1 hb1
  have HS0 : Hid (CpRel L n w.heap.size w (.int .i64 0) w1) := by
    refine ⟨0, [], Nat.zero_le _, rfl, rfl, ?_, rfl, ⟨fun p hp => by simp at hp, List.Pairwise.nil⟩, hb1⟩
    have h := hrow1.out
    rw [hcur.out] at h
    unfold RowV fillV
    rw [h]
    simp
  have d1 := (HH.out.keep hb1).c1
  clear hcur hrow1 hb1 c0 c1
  obtain ⟨G, hG⟩ : ∃ G, w.heap.size = G := ⟨_, rfl⟩
  have HGG := Lib.hid hG
  rw [hG] at HS0
  rw [hG]
  clear hG
  go_wp2_with fail
  go_loopw [19] (fun i W => CpRel L n G w i W) (fun i _ => n - (intOf i).toNat)
  case atStart => exact HS0.out
  case round =>
    rename World => W
    obtain ⟨k, D, hk, rfl, hdl, hrv, hq, hown, hb⟩ := hrel
    have HDL := Lib.hid hdl
    have HRV := Lib.hid hrv
    have HQ := Lib.hid hq
    have HOW := Lib.hid hown
    have HB := Lib.hid hb
    clear hdl hrv hq hown hb HS0 d1
    by_cases hlt : k < n
    · obtain ⟨p, hp⟩ : ∃ p, L[k]? = some p := ⟨_, List.getElem?_eq_getElem (by rw [HN.out]; exact hlt)⟩
      have HP := Lib.hid hp
      have hiw := HH.out.keep HB.out
      have hlk := hiw.look hp
      obtain ⟨y, cv', hv, hid⟩ := hiw.id hp
      injection hv with hv1 hv2 hv3
      subst hv1
      have c0 := hiw.c0
      have hkb : (k : Int) < n := by omega
      have hki : (0 : Int) ≤ k := by omega
      have HK1 : Hid (IntKind.i64.wrap ((k : Int) + 1) = (k : Int) + 1) := IntWalk.i64_in _ (by have := HNL.out; omega)
      have hpt := hiw.pt p (List.mem_of_getElem? hp)
      have HPT : Hid (p.s.n ≤ 1000 ∧ Mpv.I64 p.s.id) := ⟨hpt.2.2.2.2.2.2, hpt.2.2.2.2.2.1⟩
      have HCP := Lib.hid (copy_any hpt.1 hpt.2.2.2.2.2.2)
      have HLT := Lib.hid hlt
      clear hp hiw hv2 hv3 hpt hlt hk
      go_wp2_with fail
      refine HCP.out.mono ?_
      rintro e W2 ⟨d, rfl, hp2, hb2⟩
      obtain ⟨p2, hp2e⟩ : ∃ p2 : CP, p2 = ⟨W.heap.size, W2.heap.size, d, p.s, p.m, p.st, p.ca, p.ns, p.wr⟩ := ⟨_, rfl⟩
      have hon : p2.On W2 := by rw [hp2e]; exact hp2
      have hpp : p2.ptr = .pointer (some ⟨d.g, 0, none⟩) := by rw [hp2e]; rfl
      have hpq : p2.q = p.q := by rw [hp2e]; rfl
      have hlo : p2.lo = W.heap.size := by rw [hp2e]
      have hps : p2.s = p.s := by rw [hp2e]
      have hGl := lt_of_block HRV.out
      have hrv2 := HRV.out.keep hb2
      have hlen : (fillV D n)[k]? = some (.pointer none) := by
        unfold fillV
        have := HLT.out
        have hkl : (D.map CP.ptr).length = k := by rw [List.length_map, HDL.out]
        rw [List.getElem?_append_right (by omega), hkl, Nat.sub_self, HDL.out, List.getElem?_replicate, if_pos (by omega)]
      have q1 := hrv2.cell hlen
      have q2 := hrv2.free k
      have hset := fillV_set D n p2 (by rw [HDL.out]; exact HLT.out)
      rw [HDL.out] at hset
      have HNX : Hid (RowV G (fillV (D ++ [p2]) n) (W2.setCell ⟨G, k, none⟩ (.pointer (some ⟨d.g, 0, none⟩))) ∧ Own (W2.setCell ⟨G, k, none⟩ (.pointer (some ⟨d.g, 0, none⟩))) (G + 1) (D ++ [p2]) ∧ Below w.heap.size w (W2.setCell ⟨G, k, none⟩ (.pointer (some ⟨d.g, 0, none⟩)))) := by
        refine ⟨?_, ?_, ?_⟩
        · have h := hrv2.set k p2.ptr
          rw [hset, hpp] at h
          exact h
        · refine Own.apart (N := G + 1) (W := W2) ⟨fun z hz => ?_, ?_⟩ (rng_set W2 G k _) (Nat.le_refl _)
          · rcases List.mem_append.1 hz with hz | hz
            · exact (HOW.out.keep hb2).1 z hz
            · obtain rfl := List.mem_singleton.1 hz
              exact ⟨hon, by rw [hlo]; exact hGl, by rw [hps]; exact HPT.out.1, by rw [hps]; exact HPT.out.2⟩
          · rw [List.pairwise_append]
            refine ⟨HOW.out.2, List.pairwise_singleton _ _, fun a ha b hb => ?_⟩
            obtain rfl := List.mem_singleton.1 hb
            rw [hlo]
            exact (HOW.out.1 a ha).1.hs
        · exact (HB.out.trans (hb2.mono HB.out.size)).trans ⟨rfl, rfl, rfl, by simp, fun b hb => heap_setCell_other _ _ _ _ (by show b ≠ G; have := HGG.out; omega)⟩
      have HQN : Hid ((D ++ [p2]).map CP.q = (L.take (k + 1)).map CP.q) := by
        show _ = _
        rw [List.map_append, HQ.out, List.take_add_one, HP.out, List.map_append, List.map_singleton, hpq]; rfl
      have hk1 := HK1.out
      clear hp2 hb2 hp2e hon hpp hpq hlo hps hGl hrv2 hlen hset hlk hid c0 HCP HRV HOW
      go_wp2
      go_roundw
      case rel => exact ⟨k + 1, D ++ [p2], HLT.out, by go_num, by rw [List.length_append, HDL.out]; rfl, HNX.out.1, HQN.out, HNX.out.2.1, HNX.out.2.2⟩
      case measure => have := HLT.out; simp [intOf]; omega
    · obtain rfl : n = k := by omega
      have hfull : L.take n = L := List.take_of_length_le (by rw [HN.out]; exact Nat.le_refl _)
      rw [hfull] at HQ
      have hrv : RowV G (D.map CP.ptr) W := by
        have := HRV.out
        unfold fillV at this
        rw [HDL.out, Nat.sub_self, List.replicate_zero, List.append_nil] at this
        exact this
      have HRF := Lib.hid hrv
      clear hfull hrv hlt hk
      go_wp2
      go_ret
      exact ⟨G, D, rfl, by rw [HGG.out]; exact Nat.le_refl _, HRF.out, HQ.out, HOW.out, HB.out⟩
def CcPost (L : List CP) (w : World) (e : Ending) (w' : World) : Prop :=
  ∃ g mb V D, e = .returned (.pointer (some ⟨g, 0, none⟩)) ∧ IsW w' w.heap.size g mb V D ∧ D.map CP.q = L.map CP.q ∧ Below w.heap.size w w'
def CcRel (D : List CP) (n R g' mb' : Nat) (w : World) (i : Value) (W : World) : Prop :=
  ∃ (k : Nat) (V : Value), k ≤ n ∧ i = .int .i64 (k : Int) ∧ IsW W w.heap.size g' mb' V (D.take k) ∧ Own W (R + 1) D ∧ RowV R (D.map CP.ptr) W ∧ (∀ j, V.ownBlock = some j → j ≠ R ∧ ∀ p ∈ D, p.off j) ∧ Below w.heap.size w W
set_option maxRecDepth 8000 in
set_option maxHeartbeats 3200000 in
theorem ccopy_any (h : IsW w B g mb V L) (hL : L.length ≤ 1000) :
    Calls Try.prog 25 #[.pointer (some ⟨g, 0, none⟩)] w (CcPost L w) := by
  have hmm := @run_makeMap Try.prog
  have hb0 : Below w.heap.size w ((w.alloc (.map #[] 0)).alloc (.cells #[.map (some w.heap.size), .slice none 0 0] 88)) := ((Below.refl _ _).alloc (Nat.le_refl _) _).alloc (by simp) _
  have hw0 : IsW ((w.alloc (.map #[] 0)).alloc (.cells #[.map (some w.heap.size), .slice none 0 0] 88)) w.heap.size (w.heap.size + 1) w.heap.size (.slice none 0 0) [] := by
    refine ⟨?_, ?_, World.ownsRow_nil _ _ _ _, by omega, Nat.le_refl _, by omega, fun j hj => (by cases hj), fun p hp => (by cases hp), List.Pairwise.nil, List.Pairwise.nil⟩
    · have := heap_alloc_new (w.alloc (.map #[] 0)) (.cells #[.map (some w.heap.size), .slice none 0 0] 88)
      simpa using this
    · exact (map_made w).keep ((Below.refl _ _).alloc (Nat.le_refl _) _)
  have hs0 : ((w.alloc (.map #[] 0)).alloc (.cells #[.map (some w.heap.size), .slice none 0 0] 88)).heap.size = w.heap.size + 2 := by simp
  have hac := asked_copy (h.keep hb0) hL
  obtain ⟨W0, hW0⟩ : ∃ W, (w.alloc (.map #[] 0)).alloc (.cells #[.map (some w.heap.size), .slice none 0 0] 88) = W := ⟨_, rfl⟩
  rw [hW0] at hb0 hw0 hs0 hac
  obtain ⟨n, hn⟩ : ∃ n, L.length = n := ⟨_, rfl⟩
  rw [hn] at hac
  have HAC := Lib.hid hac
  have HW0 := Lib.hid hW0
  have HB0 := Lib.hid hb0
  have HI0 := Lib.hid hw0
  have HS0 := Lib.hid hs0
  have HN := Lib.hid hn
  have HL : Hid (n ≤ 1000) := by show _ ≤ _; omega
  have hup : (L.map CP.q).Pairwise fun a b => a.s.id < b.s.id := List.pairwise_map.2 h.up
  have HUP := Lib.hid hup
  clear h hL hb0 hw0 hs0 hac hW0 hn hup
  go_enter Try.func25, Try.ntmps25
  go_upto_region 2 with fail
  rw [HW0.out]
  obtain ⟨g', hg'⟩ : ∃ g', w.heap.size + 1 = g' := ⟨_, rfl⟩
  have HG' := Lib.hid hg'
  rw [hg'] at HI0
  rw [hg']
  clear hg' hmm
  go_wp2_with fail
  refine HAC.out.mono ?_
  rintro e w2 ⟨R, D, rfl, hR, hrv, hq, hown, hb2⟩
  have HQ := Lib.hid hq
  have hdl : D.length = n := by have := congrArg List.length hq; rw [List.length_map, List.length_map] at this; rw [this]; exact HN.out
  have HDL := Lib.hid hdl
  have hdu : D.Pairwise fun p q => p.s.id < q.s.id := by
    have h1 := HUP.out
    rw [← hq] at h1
    have h2 : D.Pairwise fun p q => (CP.q p).s.id < (CP.q q).s.id := (List.pairwise_map (f := CP.q) (R := fun a b : QS => a.s.id < b.s.id)).1 h1
    exact h2
  have HDU := Lib.hid hdu
  have HRG : Hid (g' < R ∧ w.heap.size < R) := by show _ ∧ _; have := HS0.out; have := HG'.out; omega
  have HST : Hid (CcRel D n R g' w.heap.size w (.int .i64 0) w2) := ⟨0, _, Nat.zero_le _, rfl, HI0.out.keep hb2, hown, hrv, fun j hj => (by cases hj), HB0.out.trans (hb2.mono HB0.out.size)⟩
  clear hR hrv hq hown hb2 hdl hdu HAC HI0 HB0
  go_wp2_with fail
  go_loopw [12] (fun i W => CcRel D n R g' w.heap.size w i W) (fun i _ => n - (intOf i).toNat)
  case atStart => exact HST.out
  case round =>
    rename World => W
    obtain ⟨k, V, hk, rfl, hiw, hown, hrv, hvo, hb⟩ := hrel
    have HIW := Lib.hid hiw
    have HOW := Lib.hid hown
    have HRV := Lib.hid hrv
    have HVO := Lib.hid hvo
    have HB := Lib.hid hb
    clear hiw hown hrv hvo hb HST
    by_cases hlt : k < n
    · obtain ⟨p, hp⟩ : ∃ p, D[k]? = some p := ⟨_, List.getElem?_eq_getElem (by rw [HDL.out]; exact hlt)⟩
      have hmem := List.mem_of_getElem? hp
      have hpo := HOW.out.1 p hmem
      have c0 := HRV.out.cell (i := k) (v := .pointer (some ⟨p.d.g, 0, none⟩)) (by rw [List.getElem?_map, hp]; rfl)
      have htk : D.take (k + 1) = D.take k ++ [p] := by rw [List.take_add_one, hp]; rfl
      have hkl : k < D.length := by rw [HDL.out]; exact hlt
      have hpk : D[k] = p := (List.getElem?_eq_some_iff.1 hp).2
      have hADD := add_any HIW.out hpo.1 (by have := hpo.2.1; have := HRG.out; omega) hpo.2.2.2 hpo.2.2.1 (.inl (by have := hpo.2.1; have := HRG.out; omega)) (.inl (by have := hpo.2.1; have := HRG.out; omega)) (fun j hj => (HVO.out j hj).2 p hmem) (fun q hq => by
        obtain ⟨i, hi, rfl⟩ := List.mem_iff_getElem.1 hq
        rw [List.length_take] at hi
        rw [List.getElem_take]
        have h1 := List.pairwise_iff_getElem.1 HOW.out.2 i k (by omega) hkl (by omega)
        have h2 := List.pairwise_iff_getElem.1 HDU.out i k (by omega) hkl (by omega)
        rw [hpk] at h1 h2
        exact ⟨h1, h2⟩) (by rw [List.length_take]; have := HL.out; have := HDL.out; omega)
      unfold CP.ptr at hADD
      rw [← htk] at hADD
      have HADD := Lib.hid hADD
      have HLT := Lib.hid hlt
      have hkb : (k : Int) < n := by omega
      have hki : (0 : Int) ≤ k := by omega
      have hk1 : IntKind.i64.wrap ((k : Int) + 1) = (k : Int) + 1 := IntWalk.i64_in _ (by have := HL.out; omega)
      clear hp hmem hpo htk hkl hpk hADD hlt hk
      go_wp2_with fail
      refine HADD.out.mono ?_
      rintro e W2 ⟨rfl, ⟨V2, hiw2, hfr1, hfr2, hfr3⟩, hb2⟩
      have HNX : Hid (IsW W2 w.heap.size g' w.heap.size V2 (D.take (k + 1)) ∧ Own W2 (R + 1) D ∧ RowV R (D.map CP.ptr) W2 ∧ (∀ j, V2.ownBlock = some j → j ≠ R ∧ ∀ p ∈ D, p.off j) ∧ Below w.heap.size w W2) := by
        refine ⟨hiw2, ⟨fun q hq => ?_, HOW.out.2⟩, ?_, fun j hj => ?_, HB.out.trans hb2⟩
        · obtain ⟨h1, h2⟩ := HOW.out.1 q hq
          exact ⟨hfr1 q h1 (.inl (by have := h2.1; have := HRG.out; omega)) (.inl (by have := h2.1; have := HRG.out; omega)) (fun j hj => (HVO.out j hj).2 q hq), h2⟩
        · exact (hfr2 R (lt_of_block HRV.out) (by have := HRG.out; omega) (by have := HRG.out; omega) (fun e => (HVO.out R e).1 rfl)).trans HRV.out
        · rcases hfr3 j hj with h1 | h1
          · exact HVO.out j h1
          · have h2 := lt_of_block HRV.out
            refine ⟨by omega, fun q hq => .inr ?_⟩
            have := (HOW.out.1 q hq).1.hs
            omega
      clear hiw2 hfr1 hfr2 hfr3 hb2 HIW HOW HRV HVO HB HADD c0
      go_wp2
      go_roundw
      case rel => exact ⟨k + 1, V2, HLT.out, by go_num, HNX.out.1, HNX.out.2.1, HNX.out.2.2.1, HNX.out.2.2.2.1, HNX.out.2.2.2.2⟩
      case measure => have := HLT.out; simp [intOf]; omega
    · obtain rfl : n = k := by omega
      have hfull : D.take n = D := List.take_of_length_le (by rw [HDL.out]; exact Nat.le_refl _)
      rw [hfull] at HIW
      clear hfull hlt hk
      go_wp2
      go_ret
      exact ⟨_, _, _, D, rfl, HIW.out, HQ.out, HB.out⟩
end

end Go.Proofs.Ytjdgpbjjhgfikaa.Crw
