
/- What a crew tells of its partitions: ids, one by its id, shots. Condition: at most a thousand partitions of a thousand cells each. -/

import Derived.Test.YtjdgpbjjhgfikaaCrD

namespace Go.Proofs.Ytjdgpbjjhgfikaa.Crw

open Go.RowKit Go.PlainAid Go.Proofs.Ytjdgpbjjhgfikaa.Args Go.Proofs.Ytjdgpbjjhgfikaa.Cel Go.Proofs.Ytjdgpbjjhgfikaa.Pt Go.Proofs.Ytjdgpbjjhgfikaa.Mpv

open Go.Proofs.Ytjdgpbjjhgfikaa.Srt (IA IA.kept RowI RowI.keep RowI.cell RowI.free RowI.set wpList_make_one rw_set infoIntS)

set_option linter.unusedVariables false

set_option linter.unusedSimpArgs false

section

variable {w : World} {B g mb : Nat} {V : Value} {L : List CP}

set_option maxRecDepth 4000 in
theorem len_any (h : IsW w B g mb V L) : Calls Try.prog 10 #[.pointer (some ⟨g, 0, none⟩)] w fun e w' => e = .returned (.int .i64 (L.length : Int)) ∧ w = w' := by
  obtain ⟨A, c, rfl, hi⟩ := h.ids
  have c1 := h.c1
  obtain ⟨n, hn⟩ : ∃ n, L.length = n := ⟨_, rfl⟩
  rw [hn] at c1
  rw [hn]
  clear h hi hn
  go_enter Try.func10, Try.ntmps10
  go_wp2
  go_ret
  exact ⟨rfl, rfl⟩
def IdPost (L : List CP) (n : Nat) (w : World) (e : Ending) (w' : World) : Prop :=
  ∃ R, e = .returned (.slice (some ⟨R, 0, none⟩) n n) ∧ w.heap.size ≤ R ∧ RowI R (L.map fun p => p.s.id) w' ∧ Below w.heap.size w w'
def IdRel (L : List CP) (n R : Nat) (w : World) (i : Value) (W : World) : Prop :=
  ∃ k : Nat, k ≤ n ∧ i = .int .i64 (k : Int) ∧ RowI R ((L.take k).map (fun p => p.s.id) ++ List.replicate (n - k) 0) W ∧ Below w.heap.size w W
set_option maxRecDepth 8000 in
set_option maxHeartbeats 3200000 in
theorem asked_id (h : IsW w B g mb V L) (hL : L.length ≤ 1000) :
    Calls Try.prog 32 #[.pointer (some ⟨g, 0, none⟩), .func (.func 33) #[] #[]] w (IdPost L L.length w) := by
  obtain ⟨i0, hi0, hz0, hz1, hz2⟩ := info_parts infoIntS
  obtain ⟨n, hn⟩ : ∃ n, L.length = n := ⟨_, rfl⟩
  obtain ⟨IDA, cv, rfl, hia⟩ := h.ids
  rw [hn] at h ⊢
  have HN := Lib.hid hn
  have HH := Lib.hid h
  have HNL : Hid (n ≤ 1000) := by show _ ≤ _; omega
  have c0 := h.c0
  have c1 := h.c1
  unfold IdPost
  clear h hL hia hn
  go_enter Try.func32, Try.ntmps32
  go_wp2_with (first | (at_make; refine wpList_make_one _ rfl _ _ 35 rfl 3 i0 (.int .i64 0) Try.underlying35 hi0 hz0 hz1 rfl _ _ _ _ n n rfl rfl ?e1 ?e2 ?e3 ?e4 ?e5 ?_) | fail)
  case e1 => rfl
  case e2 => rfl
  case e3 => omega
  case e4 => have := HNL.out; rw [hz2]; omega
  case e5 => have := HNL.out; omega
  intro w1 cur hcur hrow1 hb1
  have HS0 : Hid (IdRel L n w.heap.size w (.int .i64 0) w1) := by
    refine ⟨0, Nat.zero_le _, rfl, ?_, hb1⟩
    have h := hrow1.out
    rw [hcur.out] at h
    unfold RowI
    rw [h]
    simp
  have d1 := (HH.out.keep hb1).c1
  clear hcur hrow1 hb1 c0 c1
  obtain ⟨G, hG⟩ : ∃ G, w.heap.size = G := ⟨_, rfl⟩
  have HGG := Lib.hid hG
  rw [hG] at HS0
  rw [hG]
  clear hG
  go_wp2_with fail
  go_loopw [19] (fun i W => IdRel L n G w i W) (fun i _ => n - (intOf i).toNat)
  case atStart => exact HS0.out
  case round =>
    rename World => W
    obtain ⟨k, hk, rfl, hri, hb⟩ := hrel
    have HRI := Lib.hid hri
    have HB := Lib.hid hb
    clear hri hb HS0 d1
    by_cases hlt : k < n
    · obtain ⟨p, hp⟩ : ∃ p, L[k]? = some p := ⟨_, List.getElem?_eq_getElem (by rw [HN.out]; exact hlt)⟩
      have HP := Lib.hid hp
      have hiw := HH.out.keep HB.out
      have hlk := hiw.look hp
      obtain ⟨y, cv', hv, hid⟩ := hiw.id hp
      injection hv with hv1 hv2 hv3
      subst hv1
      have c0 := hiw.c0
      have hkb : (k : Int) < n := by omega
      have hki : (0 : Int) ≤ k := by omega
      have HK1 : Hid (IntKind.i64.wrap ((k : Int) + 1) = (k : Int) + 1) := IntWalk.i64_in _ (by have := HNL.out; omega)
      have HID := Lib.hid (id_any (hiw.pt p (List.mem_of_getElem? hp)).1)
      have HLT := Lib.hid hlt
      have hlen : ((L.take k).map (fun p => p.s.id) ++ List.replicate (n - k) 0)[k]? = some 0 := by
        have := HN.out
        have hkl : ((L.take k).map (fun p => p.s.id)).length = k := by rw [List.length_map, List.length_take, Nat.min_eq_left (by omega)]
        rw [List.getElem?_append_right (by omega), hkl, Nat.sub_self, List.getElem?_replicate, if_pos (by omega)]
      have q1 := HRI.out.cell hlen
      have q2 := HRI.out.free k
      have HST : Hid (RowI G ((L.take (k + 1)).map (fun p => p.s.id) ++ List.replicate (n - (k + 1)) 0) (W.setCell ⟨G, k, none⟩ (.int .i64 p.s.id)) ∧ Below w.heap.size w (W.setCell ⟨G, k, none⟩ (.int .i64 p.s.id))) := by
        refine ⟨?_, ?_⟩
        · have h := HRI.out.set k p.s.id
          have e := rw_set (fun x => x) (L.map fun p => p.s.id) n k p.s.id (by rw [List.length_map]; exact HN.out) (by rw [List.getElem?_map, hp]; rfl)
          rw [List.map_id', List.map_id', ← List.map_take, ← List.map_take] at e
          rw [e] at h
          exact h
        · exact HB.out.trans ⟨rfl, rfl, rfl, by simp, fun b hb => heap_setCell_other _ _ _ _ (by show b ≠ G; have := HGG.out; omega)⟩
      have hk1 := HK1.out
      clear hp hiw hv2 hv3 hlen hlt hk
      go_wp2_with (go_at_call 33; refine HID.out.mono ?_; rintro e W2 ⟨rfl, rfl⟩)
      go_roundw
      case rel => exact ⟨k + 1, HLT.out, by go_num, HST.out.1, HST.out.2⟩
      case measure => have := HLT.out; simp [intOf]; omega
    · obtain rfl : k = n := by omega
      have hri : RowI G (L.map fun p => p.s.id) W := by
        have h := HRI.out
        rw [Nat.sub_self, List.replicate_zero, List.append_nil, List.take_of_length_le (by rw [HN.out]; omega)] at h
        exact h
      have HRF := Lib.hid hri
      clear hri hlt hk
      go_wp2
      go_ret
      exact ⟨G, rfl, by rw [HGG.out]; exact Nat.le_refl _, HRF.out, HB.out⟩
set_option maxRecDepth 4000 in
theorem ids_any (h : IsW w B g mb V L) (hL : L.length ≤ 1000) :
    Calls Try.prog 11 #[.pointer (some ⟨g, 0, none⟩)] w (IdPost L L.length w) := by
  have HA := Lib.hid (asked_id h hL)
  clear h hL
  go_enter Try.func11, Try.ntmps11
  go_wp2_with fail
  refine HA.out.mono ?_
  rintro e w2 ⟨R, rfl, h⟩
  have H := Lib.hid h
  clear h HA
  go_wp2
  go_ret
  exact ⟨R, rfl, H.out⟩
set_option maxRecDepth 4000 in
theorem get_any (h : IsW w B g mb V L) (i : Int) (hi : Mpv.I64 i) :
    Calls Try.prog 12 #[.pointer (some ⟨g, 0, none⟩), .int .i64 i] w fun e w' => e = .returned (.tuple #[((fndP L i).map CP.ptr).getD (.pointer none), .bool ((fndP L i).map CP.ptr).isSome]) ∧ w = w' := by
  have hlk := h.mp.look_ok Try.underlying86 (zero_ptr w) i hi
  have c0 := h.c0
  clear h
  obtain ⟨o, ho⟩ : ∃ o, (fndP L i).map CP.ptr = o := ⟨_, rfl⟩
  rw [ho]
  simp only [ho] at hlk
  clear ho
  go_enter Try.func12, Try.ntmps12
  go_wp2
  simp [bodyPost, results, Try.results12, go_sem]
end

end Go.Proofs.Ytjdgpbjjhgfikaa.Crw
