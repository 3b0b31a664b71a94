/- A module's partitions' ids (check.Parts and the document's). Condition: at most a million partitions. -/
import Derived.Test.YtmcmmbkodllpkaaGreatDoorMg33
namespace Go.Proofs.YtmcmmbkodllpkaaGreatDoor.Lat

open Go.RowKit Go.PlainAid Go.Proofs.YtmcmmbkodllpkaaGreatDoor.Args Go.Proofs.YtmcmmbkodllpkaaGreatDoor.Cel Go.Proofs.YtmcmmbkodllpkaaGreatDoor.Mpv

set_option linter.unusedVariables false

set_option linter.unusedSimpArgs false

section

variable {w : World} {PA SA QA AA : Option Addr} {np pc ns sc nq qc na acp : Nat} {ps : List LP} {ss : List LS} {qs : List P2} {e f : Int}

def PidPost (ps : List LP) (w : World) (e : Ending) (w' : World) : Prop :=
  ∃ V, e = .returned V ∧ w'.ownsRow w.heap.size 3 1 V ps.length (ps.map fun x => Value.int .i64 x.id) ∧ Below w.heap.size w w'
/-- The module's own box, and the row so far. -/
def PidRel (ps : List LP) (n b : Nat) (cs : Array Value) (B : Nat) (w : World) (V i : Value) (W : World) : Prop :=
  ∃ k : Nat, k ≤ n ∧ i = .int .i64 (k : Int) ∧ W.heap[b]? = some (.cells cs 28 (0, 0)) ∧ W.ownsRow (B + 1) 3 1 V k ((ps.take k).map fun x => Value.int .i64 x.id) ∧ B + 1 ≤ W.heap.size ∧ Below B w W
set_option maxRecDepth 4000 in
set_option maxHeartbeats 1600000 in
theorem cparts_any (h : MAt w PA SA QA np ns nq ps ss qs) (hl : np ≤ 1000000) :
    Calls Tryz.prog 12 #[.agg #[.int .u64 e, .int .i64 f, .slice PA np pc, .slice SA ns sc, .slice QA nq qc, .slice AA na acp]] w (PidPost ps w) := by
  obtain ⟨i0, hi0, hz0, hz1, hz2⟩ := info_parts infoIntL
  obtain ⟨cs, hcs⟩ : ∃ cs : Array Value, #[Value.int .u64 e, .int .i64 f, .slice PA np pc, .slice SA ns sc, .slice QA nq qc, .slice AA na acp] = cs := ⟨_, rfl⟩
  have hb0 : Below w.heap.size w (w.alloc (.cells cs 28)) := (Below.refl _ _).alloc (Nat.le_refl _) _
  have hx0 := heap_alloc_new w (.cells cs 28)
  have HM := Lib.hid h
  have HPL := Lib.hid h.pl
  have HCS := Lib.hid hcs
  have HS0 : Hid (PidRel ps np w.heap.size cs w.heap.size w (.slice none 0 0) (.int .i64 0) (w.alloc (.cells cs 28))) := ⟨0, Nat.zero_le _, rfl, hx0, World.ownsRow_nil _ _ _ _, by simp, hb0⟩
  have x2 := cell_of_row _ _ 2 _ _ _ hx0
  have HBM : Hid (w.heap.size < (w.alloc (.cells cs 28)).heap.size) := by show _ < _; simp
  obtain ⟨W1, hW1⟩ : ∃ W, w.alloc (.cells cs 28) = W := ⟨_, rfl⟩
  rw [hW1] at HS0 x2
  rw [← hcs] at x2 hW1
  simp only [List.getElem?_toArray, List.getElem?_cons_zero, List.getElem?_cons_succ] at x2
  have HW1 := Lib.hid hW1
  clear h hcs hb0 hx0 hW1
  go_enter Tryz.func12, Tryz.ntmps12
  go_upto_region 2 with fail
  rw [HW1.out]
  go_wp2_with fail
  go_loopw [3, 9] (fun V i W => PidRel ps np w.heap.size cs w.heap.size w V i W) (fun _ i _ => np - (intOf i).toNat)
  case atStart => exact HS0.out
  case round =>
    rename World => W
    obtain ⟨k, hk, rfl, hbx, ho, hsz, hb⟩ := hrel
    have HSZ : Hid (w.heap.size + 1 ≤ W.heap.size) := hsz
    obtain ⟨A, c, rfl⟩ := own_slice ho
    have HBX := Lib.hid hbx
    have HO := Lib.hid ho
    have HB := Lib.hid hb
    clear hbx ho hsz hb HS0
    by_cases hlt : k < np
    · obtain ⟨x, hx⟩ : ∃ x, ps[k]? = some x := ⟨_, List.getElem?_eq_getElem (by rw [HPL.out]; exact hlt)⟩
      obtain ⟨y, rfl, e1, e2, e3, e4⟩ := (HM.out.kept HB.out).p k x hx
      have HLT := Lib.hid hlt
      have HTK : Hid (ps.take (k + 1) = ps.take k ++ [x]) := by show _ = _; rw [List.take_add_one, hx]; rfl
      have hki : (0 : Int) ≤ k := by omega
      have hkb : (k : Int) < np := by omega
      have hk1 : IntKind.i64.wrap ((k : Int) + 1) = (k : Int) + 1 := IntWalk.i64_in _ (by omega)
      have hb2 : Below W.heap.size W (W.alloc (.cells #[.int .i64 x.id, .string x.nm, .bool x.may, .slice x.B x.bn x.bc] 52)) := (Below.refl _ _).alloc (Nat.le_refl _) _
      have hx2 := heap_alloc_new W (.cells #[.int .i64 x.id, .string x.nm, .bool x.may, .slice x.B x.bn x.bc] 52)
      clear hlt hk hx
      go_upto_region 5 with fail
      obtain ⟨W2, hW2⟩ : ∃ W2, W.alloc (.cells #[.int .i64 x.id, .string x.nm, .bool x.may, .slice x.B x.bn x.bc] 52) = W2 := ⟨_, rfl⟩
      obtain ⟨Q, hQ⟩ : ∃ Q, W.heap.size = Q := ⟨_, rfl⟩
      rw [hW2] at hb2 hx2
      rw [hQ] at hx2
      rw [hW2, hQ]
      have d0 := cell_of_row W2 _ 0 _ _ _ hx2
      simp only [List.getElem?_toArray, List.getElem?_cons_zero, List.getElem?_cons_succ] at d0
      obtain ⟨id, hid⟩ : ∃ id, x.id = id := ⟨_, rfl⟩
      rw [hid] at d0
      have hb3 : Below W2.heap.size W2 (W2.alloc (.cells #[.int .i64 id] 3)) := (Below.refl _ _).alloc (Nat.le_refl _) _
      have HO3 := Lib.hid (own_keep (own_keep HO.out hb2) hb3)
      have HB3 := Lib.hid ((HB.out.trans (hb2.mono HB.out.size)).trans (hb3.mono (Nat.le_trans HB.out.size hb2.size)))
      have HBX3 := Lib.hid ((hb3.block _ (Nat.lt_of_lt_of_le (lt_of_block HBX.out) hb2.size)).trans ((hb2.block _ (lt_of_block HBX.out)).trans HBX.out))
      have HWS : Hid (w.heap.size + 1 ≤ W2.heap.size) := Nat.le_trans HSZ.out hb2.size
      have HID := Lib.hid hid
      clear hb2 hx2 hW2 hQ hb3 e1 e2 e3 e4 HO hid
      go_wp2_with (at_builtin; refine wpList_append_own _ rfl _ _ 41 rfl (w.heap.size + 1) 3 i0 (.int .i64 0) 1 8 Tryz.underlying41 hi0 hz0 hz1 hz2 rfl (by decide) _ k _ rfl HO3.out ⟨W2.heap.size, 0, none⟩ 1 1 [.int .i64 id] rfl rfl ?c1 ?c2 ?c3 ?c4 ?c5 ?_)
      case c1 =>
        intro j u hj
        have hrow := heap_alloc_new W2 (.cells #[.int .i64 id] 3)
        have e : (Addr.mk W2.heap.size 0 none).add j = ⟨W2.heap.size, j, none⟩ := by cases j <;> simp [Addr.add]
        rw [e, cell_of_row _ _ _ _ _ _ hrow, ← hj]
        simp
      case c2 => intro u hu; simp at hu; rw [hu]; rfl
      case c3 => have := HLT.out; unfold maxLen; omega
      case c4 => have := HLT.out; omega
      case c5 => have := HWS.out; simp; omega
      intro v' w4 ho4 hg4 _
      have HO4 : Hid (w4.ownsRow (w.heap.size + 1) 3 1 v' (k + 1) ((ps.take (k + 1)).map fun x => Value.int .i64 x.id)) := by
        show World.ownsRow _ _ _ _ _ _ _
        rw [HTK.out, List.map_append]
        simpa [HID.out] using ho4
      have HB4 := Lib.hid (HB3.out.grown hg4 HB3.out.size (fun j hj => Nat.le_of_succ_le (HO3.out.lt j hj).1))
      have HSZ4 : Hid (w.heap.size + 1 ≤ w4.heap.size) := by show _ ≤ _; have h1 := HWS.out; have h2 := hg4.size; simp at h2; omega
      have HBX4 : Hid (w4.heap[w.heap.size]? = some (.cells cs 28 (0, 0))) := (hg4.block _ (lt_of_block HBX3.out) (by
        intro e
        have h1 := (HO3.out.lt _ e.symm).1
        omega)).trans HBX3.out
      clear ho4 hg4 d0 HO3 HB3 HBX3
      go_wp2
      go_roundw
      case rel => exact ⟨k + 1, HLT.out, by go_num, HBX4.out, HO4.out, HSZ4.out, HB4.out⟩
      case measure => have := HLT.out; simp [intOf]; omega
    · obtain rfl : np = k := by omega
      have HO2 : Hid (W.ownsRow w.heap.size 3 1 (.slice A np c) ps.length (ps.map fun x => Value.int .i64 x.id)) := by
        have := HO.out
        rw [List.take_of_length_le (by rw [HPL.out]; exact Nat.le_refl _)] at this
        rw [HPL.out]; exact own_base this (Nat.le_succ _)
      clear hlt hk
      go_wp2
      go_ret
      exact ⟨_, rfl, HO2.out, HB.out⟩
set_option maxRecDepth 4000 in
set_option maxHeartbeats 1600000 in
theorem rparts_any (h : MAt w PA SA QA np ns nq ps ss qs) (hl : np ≤ 1000000) :
    Calls Tryz.prog 13 #[.agg #[.int .u64 e, .int .i64 f, .slice PA np pc, .slice SA ns sc, .slice QA nq qc, .slice AA na acp]] w (PidPost ps w) := by
  obtain ⟨i0, hi0, hz0, hz1, hz2⟩ := info_parts infoIntL
  obtain ⟨cs, hcs⟩ : ∃ cs : Array Value, #[Value.int .u64 e, .int .i64 f, .slice PA np pc, .slice SA ns sc, .slice QA nq qc, .slice AA na acp] = cs := ⟨_, rfl⟩
  have hb0 : Below w.heap.size w (w.alloc (.cells cs 28)) := (Below.refl _ _).alloc (Nat.le_refl _) _
  have hx0 := heap_alloc_new w (.cells cs 28)
  have HM := Lib.hid h
  have HPL := Lib.hid h.pl
  have HCS := Lib.hid hcs
  obtain ⟨W1, hW1⟩ : ∃ W, w.alloc (.cells cs 28) = W := ⟨_, rfl⟩
  have hs1 : W1.heap.size = w.heap.size + 1 := by rw [← hW1]; simp
  rw [hW1] at hx0 hb0
  have hb1 : Below W1.heap.size W1 (W1.alloc (.cells #[] 3)) := (Below.refl _ _).alloc (Nat.le_refl _) _
  have HS0 : Hid (PidRel ps np w.heap.size cs w.heap.size w (.slice (some ⟨W1.heap.size, 0, none⟩) 0 0) (.int .i64 0) (W1.alloc (.cells #[] 3))) := ⟨0, Nat.zero_le _, rfl, (hb1.block _ (lt_of_block hx0)).trans hx0, World.ownsRow_lit W1 #[] 0 (by omega) (by unfold maxLen; omega) rfl, by simp; omega, hb0.trans (hb1.mono hb0.size)⟩
  rw [← hcs] at hW1
  have HW1 := Lib.hid hW1
  clear h hcs hb0 hx0 hW1 hs1 hb1
  go_enter Tryz.func13, Tryz.ntmps13
  go_upto_region 1 with fail
  rw [HW1.out]
  go_wp2_with fail
  go_loopw [3, 4] (fun V i W => PidRel ps np w.heap.size cs w.heap.size w V i W) (fun _ i _ => np - (intOf i).toNat)
  case atStart => exact HS0.out
  case round =>
    rename World => W
    obtain ⟨k, hk, rfl, hbx, ho, hsz, hb⟩ := hrel
    have HSZ : Hid (w.heap.size + 1 ≤ W.heap.size) := hsz
    obtain ⟨A, c, rfl⟩ := own_slice ho
    have HBX := Lib.hid hbx
    have HO := Lib.hid ho
    have HB := Lib.hid hb
    have x2 := cell_of_row _ _ 2 _ _ _ hbx
    rw [← HCS.out] at x2
    simp only [List.getElem?_toArray, List.getElem?_cons_zero, List.getElem?_cons_succ] at x2
    clear hbx ho hsz hb HS0
    by_cases hlt : k < np
    · obtain ⟨x, hx⟩ : ∃ x, ps[k]? = some x := ⟨_, List.getElem?_eq_getElem (by rw [HPL.out]; exact hlt)⟩
      obtain ⟨y, rfl, e1, e2, e3, e4⟩ := (HM.out.kept HB.out).p k x hx
      have HLT := Lib.hid hlt
      have HTK : Hid (ps.take (k + 1) = ps.take k ++ [x]) := by show _ = _; rw [List.take_add_one, hx]; rfl
      have hki : (0 : Int) ≤ k := by omega
      have hkb : (k : Int) < np := by omega
      have hk1 : IntKind.i64.wrap ((k : Int) + 1) = (k : Int) + 1 := IntWalk.i64_in _ (by omega)
      obtain ⟨id, hid⟩ : ∃ id, x.id = id := ⟨_, rfl⟩
      rw [hid] at e1
      have hb3 : Below W.heap.size W (W.alloc (.cells #[.int .i64 id] 3)) := (Below.refl _ _).alloc (Nat.le_refl _) _
      have HO3 := Lib.hid (own_keep HO.out hb3)
      have HB3 := Lib.hid (HB.out.trans (hb3.mono HB.out.size))
      have HBX3 := Lib.hid ((hb3.block _ (lt_of_block HBX.out)).trans HBX.out)
      have HID := Lib.hid hid
      clear hlt hk hx hb3 e2 e3 e4 HO hid
      go_wp2_with (at_builtin; refine wpList_append_own _ rfl _ _ 41 rfl (w.heap.size + 1) 3 i0 (.int .i64 0) 1 8 Tryz.underlying41 hi0 hz0 hz1 hz2 rfl (by decide) _ k _ rfl HO3.out ⟨W.heap.size, 0, none⟩ 1 1 [.int .i64 id] rfl rfl ?c1 ?c2 ?c3 ?c4 ?c5 ?_)
      case c1 =>
        intro j u hj
        have hrow := heap_alloc_new W (.cells #[.int .i64 id] 3)
        have e : (Addr.mk W.heap.size 0 none).add j = ⟨W.heap.size, j, none⟩ := by cases j <;> simp [Addr.add]
        rw [e, cell_of_row _ _ _ _ _ _ hrow, ← hj]
        simp
      case c2 => intro u hu; simp at hu; rw [hu]; rfl
      case c3 => have := HLT.out; unfold maxLen; omega
      case c4 => have := HLT.out; omega
      case c5 => have := HSZ.out; simp; omega
      intro v' w4 ho4 hg4 _
      have HO4 : Hid (w4.ownsRow (w.heap.size + 1) 3 1 v' (k + 1) ((ps.take (k + 1)).map fun x => Value.int .i64 x.id)) := by
        show World.ownsRow _ _ _ _ _ _ _
        rw [HTK.out, List.map_append]
        simpa [HID.out] using ho4
      have HB4 := Lib.hid (HB3.out.grown hg4 HB3.out.size (fun j hj => Nat.le_of_succ_le (HO3.out.lt j hj).1))
      have HSZ4 : Hid (w.heap.size + 1 ≤ w4.heap.size) := by show _ ≤ _; have h1 := HSZ.out; have h2 := hg4.size; simp at h2; omega
      have HBX4 : Hid (w4.heap[w.heap.size]? = some (.cells cs 28 (0, 0))) := (hg4.block _ (lt_of_block HBX3.out) (by
        intro e
        have h1 := (HO3.out.lt _ e.symm).1
        omega)).trans HBX3.out
      clear ho4 hg4 e1 HO3 HB3 HBX3 x2
      go_wp2
      go_roundw
      case rel => exact ⟨k + 1, HLT.out, by go_num, HBX4.out, HO4.out, HSZ4.out, HB4.out⟩
      case measure => have := HLT.out; simp [intOf]; omega
    · obtain rfl : np = k := by omega
      have HO2 : Hid (W.ownsRow w.heap.size 3 1 (.slice A np c) ps.length (ps.map fun x => Value.int .i64 x.id)) := by
        have := HO.out
        rw [List.take_of_length_le (by rw [HPL.out]; exact Nat.le_refl _)] at this
        rw [HPL.out]; exact own_base this (Nat.le_succ _)
      clear hlt hk
      go_wp2
      go_ret
      exact ⟨_, rfl, HO2.out, HB.out⟩
end

end Go.Proofs.YtmcmmbkodllpkaaGreatDoor.Lat
