
/- What a schedule does to a crew. Condition: at most a thousand partitions of a thousand cells each that started at most a million times, at most a million acts. -/

import Derived.Test.YtjdgpbjjhgfikaaCrC

namespace Go.Proofs.Ytjdgpbjjhgfikaa.Crw

open Go.RowKit Go.PlainAid Go.Proofs.Ytjdgpbjjhgfikaa.Args Go.Proofs.Ytjdgpbjjhgfikaa.Cel Go.Proofs.Ytjdgpbjjhgfikaa.Pt Go.Proofs.Ytjdgpbjjhgfikaa.Mpv

open Go.Proofs.Ytjdgpbjjhgfikaa.Mod (askN startN setM setS actN actM actS)

open Go.Proofs.Ytjdgpbjjhgfikaa.Srt (IA IA.kept RowI RowI.keep RowI.cell AcS AcS.kept AcS.flat row_any RwPost A3 forN)

set_option linter.unusedVariables false

set_option linter.unusedSimpArgs false

/-- A partition behind an act. -/
def actP (f : Int → Int) (p : CP) : CP := { p with m := actM p.m (f p.s.id), st := goN (actS p.m (f p.s.id)) p.st, ca := goC (actS p.m (f p.s.id)) 2 p.ca, ns := goL (actS p.m (f p.s.id)) p.s.fs p.ns, wr := goW (actS p.m (f p.s.id)) p.wr }
def didB (f : Int → Int) (p : CP) : List Value := [.int .i64 p.s.id, .int .i64 (f p.s.id), .bool (goes (actS p.m (f p.s.id)))]
def zDid : List Value := [.int .i64 0, .int .i64 0, .bool false]
theorem infoDid : (Try.prog.info? 70).map (fun i => (i.zero, i.size, i.bytes)) = some (some (.agg #[.int .i64 0, .int .i64 0, .bool false]), 3, 24) := by kernel_rfl
theorem size_did : (Try.prog.info? 70).map (·.size) = some 3 := by kernel_rfl
theorem half_set {α : Type} (F : α → α) (L : List α) (k : Nat) (p : α) (h : L[k]? = some p) : ((L.take k).map F ++ L.drop k).set k (F p) = (L.take (k + 1)).map F ++ L.drop (k + 1) := by
  have hk := (List.getElem?_eq_some_iff.1 h).1
  have e1 : L.take (k + 1) = L.take k ++ [p] := by rw [List.take_add_one, h]; rfl
  have e2 : L.drop k = p :: L.drop (k + 1) := by rw [List.drop_eq_getElem_cons hk, (List.getElem?_eq_some_iff.1 h).2]
  have hl : ((L.take k).map F).length = k := by rw [List.length_map, List.length_take]; omega
  rw [e1, e2, List.set_append_right _ _ (by omega), hl, Nat.sub_self]
  simp
theorem half_get {α : Type} (F : α → α) (L : List α) (k : Nat) (p : α) (h : L[k]? = some p) : ((L.take k).map F ++ L.drop k)[k]? = some p := by
  have hk := (List.getElem?_eq_some_iff.1 h).1
  have hl : ((L.take k).map F).length = k := by rw [List.length_map, List.length_take]; omega
  rw [List.getElem?_append_right (by omega), hl, Nat.sub_self, List.getElem?_drop]
  exact h
def ChPost (f : Int → Int) (B g mb : Nat) (V : Value) (L : List CP) (n : Nat) (w : World) (e : Ending) (w' : World) : Prop :=
  ∃ G, e = .returned (.slice (some ⟨G, 0, none⟩) n n) ∧ w.heap.size ≤ G ∧ BR G 70 (L.map (didB f)) w' ∧ IsW w' B g mb V (L.map (actP f)) ∧ PR L w w'
def ChRel (f : Int → Int) (B g mb : Nat) (V : Value) (L : List CP) (n G R : Nat) (w : World) (i : Value) (W : World) : Prop :=
  ∃ k : Nat, k ≤ n ∧ i = .int .i64 (k : Int) ∧ IsW W B g mb V ((L.take k).map (actP f) ++ L.drop k) ∧ BR G 70 (fillB ((L.take k).map (didB f)) n zDid) W ∧ RowI R (L.map fun p => f p.s.id) W ∧ PR L w W
theorem act_los (f : Int → Int) (L : List CP) : (L.map (actP f)).map (fun p => (p.lo, p.hi)) = L.map fun p => (p.lo, p.hi) := by rw [List.map_map]; rfl
attribute [-go_sem] storeVar
set_option maxRecDepth 8000 in
set_option maxHeartbeats 3200000 in
theorem change_any {w : World} {B g mb : Nat} {V : Value} {L : List CP} (h : IsW w B g mb V L) (hL : L.length ≤ 1000) (hst : ∀ p ∈ L, 0 ≤ p.st ∧ p.st ≤ 1000000) (A : Option Addr) (cap : Nat) (l : List A3) (s : Int) (ha : AcS w A l) (hnil : A = none → cap = 0) (hlc : l.length ≤ cap) (hl : l.length ≤ 1000000) :
    Calls Try.prog 20 #[.pointer (some ⟨g, 0, none⟩), .slice A l.length cap, .int .i64 s] w (ChPost (forN l s) B g mb V L L.length w) := by
  obtain ⟨i0, hi0, hz0, hz1, hz2⟩ := info_parts infoDid
  obtain ⟨n, hn⟩ : ∃ n, L.length = n := ⟨_, rfl⟩
  obtain ⟨IDA, cv, rfl, hia⟩ := h.ids
  rw [hn] at h ⊢
  have HN := Lib.hid hn
  have HH := Lib.hid h
  have HIA := Lib.hid hia
  have HAC := Lib.hid ha
  have HNL : Hid (n ≤ 1000) := by show _ ≤ _; omega
  have HST := Lib.hid hst
  have HLN := Lib.hid hl
  have c0 := h.c0
  have c1 := h.c1
  have hsz : w.heap.size ≤ w.heap.size := Nat.le_refl _
  have HRW := Lib.hid (fun (W : World) (b : Below w.heap.size w W) => row_any A cap l s IDA cv (L.map fun p => p.s.id) W (ha.kept b).flat hnil hlc hl (hia.kept b) (by rw [List.length_map]; omega))
  obtain ⟨f, hf⟩ : ∃ f, forN l s = f := ⟨_, rfl⟩
  rw [hf] at HRW ⊢
  rw [show (L.map fun p => p.s.id).length = n by rw [List.length_map]; exact hn] at HRW
  obtain ⟨ln, hln⟩ : ∃ k, l.length = k := ⟨_, rfl⟩
  rw [hln] at HRW ⊢
  clear h hL hst ha hnil hlc hl hia hn hf hsz hln
  go_enter Try.func20, Try.ntmps20
  go_wp2_with (first | (at_make; refine wpList_make_blk _ rfl _ _ 67 rfl 70 i0 (.agg #[.int .i64 0, .int .i64 0, .bool false]) 3 Try.underlying67 hi0 hz0 hz1 (by decide) rfl _ _ _ _ n rfl rfl ?e1 ?e2 ?e3 ?e4 ?_) | fail)
  case e1 => rfl
  case e2 => rfl
  case e3 => have := HNL.out; rw [hz2]; omega
  case e4 => have := HNL.out; omega
  intro w1 hbr1 hb1
  have d1 := (HH.out.keep hb1).c1
  have HBR1 : Hid (BR w.heap.size 70 (fillB ((L.take 0).map (didB f)) n zDid) w1) := by
    have h := hbr1.out
    show BR _ _ _ _
    simpa [fillB, zDid] using h
  have HB1 := Lib.hid hb1
  clear hbr1 c0 c1 hb1
  go_wp2_with fail
  refine (HRW.out w1 HB1.out).mono ?_
  rintro e w2 ⟨R, rfl, hR, hri, hb2⟩
  have hlen : (L.map fun p => p.s.id).length = n := by rw [List.length_map]; exact HN.out
  rw [hlen]
  rw [List.map_map] at hri
  have HR : Hid (w1.heap.size ≤ R) := hR
  have HS0 : Hid (ChRel f B g mb (.slice IDA n cv) L n w.heap.size R w (.int .i64 0) w2) :=
    ⟨0, Nat.zero_le _, rfl, by
      have := (HH.out.keep HB1.out).keep hb2
      simpa using this, HBR1.out.keep hb2, hri, PR.of_below (HB1.out.trans (hb2.mono HB1.out.size))⟩
  have HGR : Hid (∀ p ∈ L, p.hi ≤ w.heap.size) := fun p hp => (HH.out.pt p hp).1.hs
  have HIN : Hid (∀ p ∈ L, p.s.n ≤ 1000) := fun p hp => (HH.out.pt p hp).2.2.2.2.2.2
  have HRG : Hid (w.heap.size < R) := by show _ < _; have := lt_of_block HBR1.out; omega
  obtain ⟨G, hG⟩ : ∃ G, w.heap.size = G := ⟨_, rfl⟩
  rw [hG] at HS0 HRG HGR
  have HGG := Lib.hid hG
  rw [hG]
  clear d1 hlen hR hri hb2 HBR1 HB1 HRW HR hG
  go_wp2_with fail
  go_loopw [25] (fun i W => ChRel f B g mb (.slice IDA n cv) L n G R w i W) (fun i _ => n - (intOf i).toNat)
  case atStart => exact HS0.out
  case round =>
    rename World => W
    obtain ⟨k, hk, rfl, hiw, hbr, hri, hb⟩ := hrel
    have HIW := Lib.hid hiw
    have HBR := Lib.hid hbr
    have HRI := Lib.hid hri
    have HB := Lib.hid hb
    clear hiw hbr hri hb HS0
    by_cases hlt : k < n
    · obtain ⟨p, hp⟩ : ∃ p, L[k]? = some p := ⟨_, List.getElem?_eq_getElem (by rw [HN.out]; exact hlt)⟩
      have HP := Lib.hid hp
      have hpk := half_get (actP f) L k p hp
      have hmem : p ∈ L := List.mem_of_getElem? hp
      have hlk := HIW.out.look hpk
      obtain ⟨y, cv', hv, hid⟩ := HIW.out.id hpk
      injection hv with hv1 hv2 hv3
      subst hv1
      have hact : f p.s.id = f p.s.id := rfl
      have hrc := HRI.out.cell (i := k) (x := f p.s.id) (by rw [List.getElem?_map, hp]; rfl)
      have c0 := HIW.out.c0
      have c1 := HIW.out.c1
      have HLT := Lib.hid hlt
      have hkb : (k : Int) < n := by omega
      have hki : (0 : Int) ≤ k := by omega
      have HK1 : Hid (IntKind.i64.wrap ((k : Int) + 1) = (k : Int) + 1) := IntWalk.i64_in _ (by have := HNL.out; omega)
      obtain ⟨av, hav⟩ : ∃ v, f p.s.id = v := ⟨_, rfl⟩
      rw [hav] at hrc
      have HPI := Lib.hid (HIW.out.pt p (List.mem_of_getElem? hpk))
      have HAC1 := Lib.hid (act_any HPI.out.1 (HIN.out p hmem) (HST.out p hmem) av)
      have HAV := Lib.hid hav
      have HPK := Lib.hid hpk
      have HPG : Hid (p.hi ≤ G) := HGR.out p hmem
      clear hp hpk hmem hact hav hv2 hv3 hlt hk
      go_wp2_with fail
      refine HAC1.out.mono ?_
      rintro e W2 ⟨rfl, hp2, hr2⟩
      have hp3 : (actP f p).On W2 := by
        have := hp2
        rw [← HAV.out] at this
        exact this
      have hiw2 := (HIW.out.moved HPK.out hp3 hr2 rfl rfl rfl rfl).1
      rw [half_set (actP f) L k p HP.out] at hiw2
      have hbr2 : BR G 70 (fillB ((L.take k).map (didB f)) n zDid) W2 := HBR.out.apart hr2 (.inr HPG.out)
      have hri2 : RowI R (L.map fun p => f p.s.id) W2 := (hr2.block R (lt_of_block HRI.out) (.inr (by have := HPG.out; have := HRG.out; omega))).trans HRI.out
      have hkl : ((L.take k).map (didB f)).length = k := by rw [List.length_map, List.length_take]; have := HN.out; have := HLT.out; omega
      have hall : ∀ x ∈ fillB ((L.take k).map (didB f)) n zDid, x.length = 3 := fill_all (fun x hx => by obtain ⟨q, _, rfl⟩ := List.mem_map.1 hx; rfl) rfl
      have hst := hbr2.store (ty := 70) 3 hall #[.int .i64 p.s.id, .int .i64 av, .bool (goes (actS p.m av))] rfl size_did (by simp [Value.oneCell']) (i := k) (by rw [fill_len _ _ _ (by omega)]; exact HLT.out)
      have he : (fillB ((L.take k).map (didB f)) n zDid).set k [.int .i64 p.s.id, .int .i64 av, .bool (goes (actS p.m av))] = fillB ((L.take (k + 1)).map (didB f)) n zDid := by
        have h1 := fill_set ((L.take k).map (didB f)) n zDid (didB f p) (by rw [hkl]; exact HLT.out)
        rw [hkl] at h1
        have e1 : L.take (k + 1) = L.take k ++ [p] := by rw [List.take_add_one, HP.out]; rfl
        rw [e1, List.map_append, List.map_singleton, ← h1]
        unfold didB
        rw [HAV.out]
      simp only [List.toList_toArray] at hst
      rw [he] at hst
      have hrs := rng_setRow W2 G (fillB ((L.take (k + 1)).map (didB f)) n zDid).flatten.toArray
      have hb2 : PR L w W2 := HB.out.trans (PR.of_rng (List.mem_of_getElem? HP.out) hr2)
      have hGl := lt_of_block hbr2
      have HW3 : Hid (IsW (W2.setRow G (fillB ((L.take (k + 1)).map (didB f)) n zDid).flatten.toArray) B g mb (.slice (some y) n cv) ((L.take (k + 1)).map (actP f) ++ L.drop (k + 1)) ∧ BR G 70 (fillB ((L.take (k + 1)).map (didB f)) n zDid) (W2.setRow G (fillB ((L.take (k + 1)).map (didB f)) n zDid).flatten.toArray) ∧ RowI R (L.map fun p => f p.s.id) (W2.setRow G (fillB ((L.take (k + 1)).map (didB f)) n zDid).flatten.toArray) ∧ PR L w (W2.setRow G (fillB ((L.take (k + 1)).map (didB f)) n zDid).flatten.toArray)) := by
        refine ⟨hiw2.apart hrs ?_ ?_ ?_ ?_, hbr2.set _, (hrs.block R (lt_of_block hri2) (.inr (by have := HRG.out; omega))).trans hri2, hb2.of_new hrs (Nat.le_of_eq HGG.out)⟩
        · rw [← HGG.out]; exact lt_of_block HH.out.box
        · rw [← HGG.out]; exact HH.out.mp.blk
        · intro j hj; rw [← HGG.out]; exact (HH.out.row.lt j hj).2
        · intro q hq
          rcases List.mem_append.1 hq with hq | hq
          · obtain ⟨q', hq', rfl⟩ := List.mem_map.1 hq
            exact HGR.out q' (List.mem_of_mem_take hq')
          · exact HGR.out q (List.mem_of_mem_drop hq)
      obtain ⟨W3, hW3⟩ : ∃ W', W2.setRow G (fillB ((L.take (k + 1)).map (didB f)) n zDid).flatten.toArray = W' := ⟨_, rfl⟩
      rw [hW3] at HW3 hst
      have hk1 := HK1.out
      obtain ⟨tb, htb⟩ : ∃ b, goes (actS p.m av) = b := ⟨_, rfl⟩
      rw [htb] at hst
      rw [htb]
      clear hp2 hr2 hp3 hiw2 hbr2 hri2 hkl hall he hrs hb2 hGl hW3 htb hlk hid hrc c0 c1 HIW HBR HRI HB HPI HAC1 HPK
      go_wp2
      go_roundw
      case rel => exact ⟨k + 1, HLT.out, by go_num, HW3.out.1, HW3.out.2.1, HW3.out.2.2.1, HW3.out.2.2.2⟩
      case measure => have := HLT.out; simp [intOf]; omega
    · obtain rfl : k = n := by omega
      have hfull : L.take k = L := List.take_of_length_le (by rw [HN.out]; exact Nat.le_refl _)
      have hno : L.drop k = [] := List.drop_eq_nil_of_le (by rw [HN.out]; exact Nat.le_refl _)
      rw [hfull, hno, List.append_nil] at HIW
      rw [hfull] at HBR
      have hbr : BR G 70 (L.map (didB f)) W := by
        have := HBR.out
        unfold fillB at this
        rw [List.length_map, HN.out, Nat.sub_self, List.replicate_zero, List.append_nil] at this
        exact this
      have HBF := Lib.hid hbr
      clear hfull hno hbr hlt hk
      go_wp2
      go_ret
      exact ⟨G, rfl, by rw [HGG.out]; exact Nat.le_refl _, HBF.out, HIW.out, HB.out⟩
end Go.Proofs.Ytjdgpbjjhgfikaa.Crw
