/- A module's ids (check.Scheds and the document's); whether it is long. Condition: at most a million schedules. -/
import Derived.Test.YtmcmmbkodllpkaaGreatDoorMg31
namespace Go.Proofs.YtmcmmbkodllpkaaGreatDoor.Lat

open Go.RowKit Go.PlainAid Go.Proofs.YtmcmmbkodllpkaaGreatDoor.Args Go.Proofs.YtmcmmbkodllpkaaGreatDoor.Cel Go.Proofs.YtmcmmbkodllpkaaGreatDoor.Mpv

set_option linter.unusedVariables false

set_option linter.unusedSimpArgs false

theorem infoIntL : (Tryz.prog.info? 3).map (fun i => (i.zero, i.size, i.bytes)) = some (some (.int .i64 0), 1, 8) := by kernel_rfl
section

variable {w : World} {PA SA QA AA : Option Addr} {np pc ns sc nq qc na acp : Nat} {ps : List LP} {ss : List LS} {qs : List P2} {e f : Int}

def IdsPost (ss : List LS) (w : World) (e : Ending) (w' : World) : Prop :=
  ∃ V, e = .returned V ∧ w'.ownsRow w.heap.size 3 1 V ss.length (ss.map fun x => Value.int .i64 x.id) ∧ Below w.heap.size w w'
/-- The module's own box, and the row so far. -/
def IdsRel (ss : List LS) (n b : Nat) (cs : Array Value) (B : Nat) (w : World) (V i : Value) (W : World) : Prop :=
  ∃ k : Nat, k ≤ n ∧ i = .int .i64 (k : Int) ∧ W.heap[b]? = some (.cells cs 28 (0, 0)) ∧ W.ownsRow (B + 1) 3 1 V k ((ss.take k).map fun x => Value.int .i64 x.id) ∧ B + 1 ≤ W.heap.size ∧ Below B w W
set_option maxRecDepth 4000 in
set_option maxHeartbeats 1600000 in
theorem cscheds_any (h : MAt w PA SA QA np ns nq ps ss qs) (hl : ns ≤ 1000000) :
    Calls Tryz.prog 14 #[.agg #[.int .u64 e, .int .i64 f, .slice PA np pc, .slice SA ns sc, .slice QA nq qc, .slice AA na acp]] w (IdsPost ss w) := by
  obtain ⟨i0, hi0, hz0, hz1, hz2⟩ := info_parts infoIntL
  obtain ⟨cs, hcs⟩ : ∃ cs : Array Value, #[Value.int .u64 e, .int .i64 f, .slice PA np pc, .slice SA ns sc, .slice QA nq qc, .slice AA na acp] = cs := ⟨_, rfl⟩
  have hb0 : Below w.heap.size w (w.alloc (.cells cs 28)) := (Below.refl _ _).alloc (Nat.le_refl _) _
  have hx0 := heap_alloc_new w (.cells cs 28)
  have HM := Lib.hid h
  have HSL := Lib.hid h.sl
  have HCS := Lib.hid hcs
  have HS0 : Hid (IdsRel ss ns w.heap.size cs w.heap.size w (.slice none 0 0) (.int .i64 0) (w.alloc (.cells cs 28))) := ⟨0, Nat.zero_le _, rfl, hx0, World.ownsRow_nil _ _ _ _, by simp, hb0⟩
  have x3 := cell_of_row _ _ 3 _ _ _ hx0
  have HBM : Hid (w.heap.size < (w.alloc (.cells cs 28)).heap.size) := by show _ < _; simp
  obtain ⟨W1, hW1⟩ : ∃ W, w.alloc (.cells cs 28) = W := ⟨_, rfl⟩
  rw [hW1] at HS0 x3
  rw [← hcs] at x3 hW1
  simp only [List.getElem?_toArray, List.getElem?_cons_zero, List.getElem?_cons_succ] at x3
  have HW1 := Lib.hid hW1
  clear h hcs hb0 hx0 hW1
  go_enter Tryz.func14, Tryz.ntmps14
  go_upto_region 2 with fail
  rw [HW1.out]
  go_wp2_with fail
  go_loopw [3, 9] (fun V i W => IdsRel ss ns w.heap.size cs w.heap.size w V i W) (fun _ i _ => ns - (intOf i).toNat)
  case atStart => exact HS0.out
  case round =>
    rename World => W
    obtain ⟨k, hk, rfl, hbx, ho, hsz, hb⟩ := hrel
    have HSZ : Hid (w.heap.size + 1 ≤ W.heap.size) := hsz
    obtain ⟨A, c, rfl⟩ := own_slice ho
    have HBX := Lib.hid hbx
    have HO := Lib.hid ho
    have HB := Lib.hid hb
    clear hbx ho hsz hb HS0
    by_cases hlt : k < ns
    · obtain ⟨x, hx⟩ : ∃ x, ss[k]? = some x := ⟨_, List.getElem?_eq_getElem (by rw [HSL.out]; exact hlt)⟩
      obtain ⟨y, rfl, e1, e2, e3, e4⟩ := (HM.out.kept HB.out).s k x hx
      have HLT := Lib.hid hlt
      have HTK : Hid (ss.take (k + 1) = ss.take k ++ [x]) := by show _ = _; rw [List.take_add_one, hx]; rfl
      have hki : (0 : Int) ≤ k := by omega
      have hkb : (k : Int) < ns := by omega
      have hk1 : IntKind.i64.wrap ((k : Int) + 1) = (k : Int) + 1 := IntWalk.i64_in _ (by omega)
      have hb2 : Below W.heap.size W (W.alloc (.cells #[.int .i64 x.id, .int .i64 x.fr, .slice x.W x.wn x.wc, .slice x.N x.nn x.nc] 49)) := (Below.refl _ _).alloc (Nat.le_refl _) _
      have hx2 := heap_alloc_new W (.cells #[.int .i64 x.id, .int .i64 x.fr, .slice x.W x.wn x.wc, .slice x.N x.nn x.nc] 49)
      clear hlt hk hx
      go_upto_region 5 with fail
      obtain ⟨W2, hW2⟩ : ∃ W2, W.alloc (.cells #[.int .i64 x.id, .int .i64 x.fr, .slice x.W x.wn x.wc, .slice x.N x.nn x.nc] 49) = W2 := ⟨_, rfl⟩
      obtain ⟨Q, hQ⟩ : ∃ Q, W.heap.size = Q := ⟨_, rfl⟩
      rw [hW2] at hb2 hx2
      rw [hQ] at hx2
      rw [hW2, hQ]
      have d0 := cell_of_row W2 _ 0 _ _ _ hx2
      simp only [List.getElem?_toArray, List.getElem?_cons_zero, List.getElem?_cons_succ] at d0
      obtain ⟨id, hid⟩ : ∃ id, x.id = id := ⟨_, rfl⟩
      rw [hid] at d0
      have hb3 : Below W2.heap.size W2 (W2.alloc (.cells #[.int .i64 id] 3)) := (Below.refl _ _).alloc (Nat.le_refl _) _
      have HO3 := Lib.hid (own_keep (own_keep HO.out hb2) hb3)
      have HB3 := Lib.hid ((HB.out.trans (hb2.mono HB.out.size)).trans (hb3.mono (Nat.le_trans HB.out.size hb2.size)))
      have HBX3 := Lib.hid ((hb3.block _ (Nat.lt_of_lt_of_le (lt_of_block HBX.out) hb2.size)).trans ((hb2.block _ (lt_of_block HBX.out)).trans HBX.out))
      have HWS : Hid (w.heap.size + 1 ≤ W2.heap.size) := Nat.le_trans HSZ.out hb2.size
      have HID := Lib.hid hid
      clear hb2 hx2 hW2 hQ hb3 e1 e2 e3 e4 HO hid
      go_wp2_with (at_builtin; refine wpList_append_own _ rfl _ _ 41 rfl (w.heap.size + 1) 3 i0 (.int .i64 0) 1 8 Tryz.underlying41 hi0 hz0 hz1 hz2 rfl (by decide) _ k _ rfl HO3.out ⟨W2.heap.size, 0, none⟩ 1 1 [.int .i64 id] rfl rfl ?c1 ?c2 ?c3 ?c4 ?c5 ?_)
      case c1 =>
        intro j u hj
        have hrow := heap_alloc_new W2 (.cells #[.int .i64 id] 3)
        have e : (Addr.mk W2.heap.size 0 none).add j = ⟨W2.heap.size, j, none⟩ := by cases j <;> simp [Addr.add]
        rw [e, cell_of_row _ _ _ _ _ _ hrow, ← hj]
        simp
      case c2 => intro u hu; simp at hu; rw [hu]; rfl
      case c3 => have := HLT.out; unfold maxLen; omega
      case c4 => have := HLT.out; omega
      case c5 => have := HWS.out; simp; omega
      intro v' w4 ho4 hg4 _
      have HO4 : Hid (w4.ownsRow (w.heap.size + 1) 3 1 v' (k + 1) ((ss.take (k + 1)).map fun x => Value.int .i64 x.id)) := by
        show World.ownsRow _ _ _ _ _ _ _
        rw [HTK.out, List.map_append]
        simpa [HID.out] using ho4
      have HB4 := Lib.hid (HB3.out.grown hg4 HB3.out.size (fun j hj => Nat.le_of_succ_le (HO3.out.lt j hj).1))
      have HSZ4 : Hid (w.heap.size + 1 ≤ w4.heap.size) := by show _ ≤ _; have h1 := HWS.out; have h2 := hg4.size; simp at h2; omega
      have HBX4 : Hid (w4.heap[w.heap.size]? = some (.cells cs 28 (0, 0))) := (hg4.block _ (lt_of_block HBX3.out) (by
        intro e
        have h1 := (HO3.out.lt _ e.symm).1
        omega)).trans HBX3.out
      clear ho4 hg4 d0 HO3 HB3 HBX3
      go_wp2
      go_roundw
      case rel => exact ⟨k + 1, HLT.out, by go_num, HBX4.out, HO4.out, HSZ4.out, HB4.out⟩
      case measure => have := HLT.out; simp [intOf]; omega
    · obtain rfl : ns = k := by omega
      have HO2 : Hid (W.ownsRow w.heap.size 3 1 (.slice A ns c) ss.length (ss.map fun x => Value.int .i64 x.id)) := by
        have := HO.out
        rw [List.take_of_length_le (by rw [HSL.out]; exact Nat.le_refl _)] at this
        rw [HSL.out]; exact own_base this (Nat.le_succ _)
      clear hlt hk
      go_wp2
      go_ret
      exact ⟨_, rfl, HO2.out, HB.out⟩
set_option maxRecDepth 4000 in
set_option maxHeartbeats 1600000 in
theorem rscheds_any (h : MAt w PA SA QA np ns nq ps ss qs) (hl : ns ≤ 1000000) :
    Calls Tryz.prog 15 #[.agg #[.int .u64 e, .int .i64 f, .slice PA np pc, .slice SA ns sc, .slice QA nq qc, .slice AA na acp]] w (IdsPost ss w) := by
  obtain ⟨i0, hi0, hz0, hz1, hz2⟩ := info_parts infoIntL
  obtain ⟨cs, hcs⟩ : ∃ cs : Array Value, #[Value.int .u64 e, .int .i64 f, .slice PA np pc, .slice SA ns sc, .slice QA nq qc, .slice AA na acp] = cs := ⟨_, rfl⟩
  have hb0 : Below w.heap.size w (w.alloc (.cells cs 28)) := (Below.refl _ _).alloc (Nat.le_refl _) _
  have hx0 := heap_alloc_new w (.cells cs 28)
  have HM := Lib.hid h
  have HSL := Lib.hid h.sl
  have HCS := Lib.hid hcs
  obtain ⟨W1, hW1⟩ : ∃ W, w.alloc (.cells cs 28) = W := ⟨_, rfl⟩
  have hs1 : W1.heap.size = w.heap.size + 1 := by rw [← hW1]; simp
  rw [hW1] at hx0 hb0
  have hb1 : Below W1.heap.size W1 (W1.alloc (.cells #[] 3)) := (Below.refl _ _).alloc (Nat.le_refl _) _
  have HS0 : Hid (IdsRel ss ns w.heap.size cs w.heap.size w (.slice (some ⟨W1.heap.size, 0, none⟩) 0 0) (.int .i64 0) (W1.alloc (.cells #[] 3))) := ⟨0, Nat.zero_le _, rfl, (hb1.block _ (lt_of_block hx0)).trans hx0, World.ownsRow_lit W1 #[] 0 (by omega) (by unfold maxLen; omega) rfl, by simp; omega, hb0.trans (hb1.mono hb0.size)⟩
  rw [← hcs] at hW1
  have HW1 := Lib.hid hW1
  clear h hcs hb0 hx0 hW1 hs1 hb1
  go_enter Tryz.func15, Tryz.ntmps15
  go_upto_region 1 with fail
  rw [HW1.out]
  go_wp2_with fail
  go_loopw [3, 4] (fun V i W => IdsRel ss ns w.heap.size cs w.heap.size w V i W) (fun _ i _ => ns - (intOf i).toNat)
  case atStart => exact HS0.out
  case round =>
    rename World => W
    obtain ⟨k, hk, rfl, hbx, ho, hsz, hb⟩ := hrel
    have HSZ : Hid (w.heap.size + 1 ≤ W.heap.size) := hsz
    obtain ⟨A, c, rfl⟩ := own_slice ho
    have HBX := Lib.hid hbx
    have HO := Lib.hid ho
    have HB := Lib.hid hb
    have x3 := cell_of_row _ _ 3 _ _ _ hbx
    rw [← HCS.out] at x3
    simp only [List.getElem?_toArray, List.getElem?_cons_zero, List.getElem?_cons_succ] at x3
    clear hbx ho hsz hb HS0
    by_cases hlt : k < ns
    · obtain ⟨x, hx⟩ : ∃ x, ss[k]? = some x := ⟨_, List.getElem?_eq_getElem (by rw [HSL.out]; exact hlt)⟩
      obtain ⟨y, rfl, e1, e2, e3, e4⟩ := (HM.out.kept HB.out).s k x hx
      have HLT := Lib.hid hlt
      have HTK : Hid (ss.take (k + 1) = ss.take k ++ [x]) := by show _ = _; rw [List.take_add_one, hx]; rfl
      have hki : (0 : Int) ≤ k := by omega
      have hkb : (k : Int) < ns := by omega
      have hk1 : IntKind.i64.wrap ((k : Int) + 1) = (k : Int) + 1 := IntWalk.i64_in _ (by omega)
      obtain ⟨id, hid⟩ : ∃ id, x.id = id := ⟨_, rfl⟩
      rw [hid] at e1
      have hb3 : Below W.heap.size W (W.alloc (.cells #[.int .i64 id] 3)) := (Below.refl _ _).alloc (Nat.le_refl _) _
      have HO3 := Lib.hid (own_keep HO.out hb3)
      have HB3 := Lib.hid (HB.out.trans (hb3.mono HB.out.size))
      have HBX3 := Lib.hid ((hb3.block _ (lt_of_block HBX.out)).trans HBX.out)
      have HID := Lib.hid hid
      clear hlt hk hx hb3 e2 e3 e4 HO hid
      go_wp2_with (at_builtin; refine wpList_append_own _ rfl _ _ 41 rfl (w.heap.size + 1) 3 i0 (.int .i64 0) 1 8 Tryz.underlying41 hi0 hz0 hz1 hz2 rfl (by decide) _ k _ rfl HO3.out ⟨W.heap.size, 0, none⟩ 1 1 [.int .i64 id] rfl rfl ?c1 ?c2 ?c3 ?c4 ?c5 ?_)
      case c1 =>
        intro j u hj
        have hrow := heap_alloc_new W (.cells #[.int .i64 id] 3)
        have e : (Addr.mk W.heap.size 0 none).add j = ⟨W.heap.size, j, none⟩ := by cases j <;> simp [Addr.add]
        rw [e, cell_of_row _ _ _ _ _ _ hrow, ← hj]
        simp
      case c2 => intro u hu; simp at hu; rw [hu]; rfl
      case c3 => have := HLT.out; unfold maxLen; omega
      case c4 => have := HLT.out; omega
      case c5 => have := HSZ.out; simp; omega
      intro v' w4 ho4 hg4 _
      have HO4 : Hid (w4.ownsRow (w.heap.size + 1) 3 1 v' (k + 1) ((ss.take (k + 1)).map fun x => Value.int .i64 x.id)) := by
        show World.ownsRow _ _ _ _ _ _ _
        rw [HTK.out, List.map_append]
        simpa [HID.out] using ho4
      have HB4 := Lib.hid (HB3.out.grown hg4 HB3.out.size (fun j hj => Nat.le_of_succ_le (HO3.out.lt j hj).1))
      have HSZ4 : Hid (w.heap.size + 1 ≤ w4.heap.size) := by show _ ≤ _; have h1 := HSZ.out; have h2 := hg4.size; simp at h2; omega
      have HBX4 : Hid (w4.heap[w.heap.size]? = some (.cells cs 28 (0, 0))) := (hg4.block _ (lt_of_block HBX3.out) (by
        intro e
        have h1 := (HO3.out.lt _ e.symm).1
        omega)).trans HBX3.out
      clear ho4 hg4 e1 HO3 HB3 HBX3 x3
      go_wp2
      go_roundw
      case rel => exact ⟨k + 1, HLT.out, by go_num, HBX4.out, HO4.out, HSZ4.out, HB4.out⟩
      case measure => have := HLT.out; simp [intOf]; omega
    · obtain rfl : ns = k := by omega
      have HO2 : Hid (W.ownsRow w.heap.size 3 1 (.slice A ns c) ss.length (ss.map fun x => Value.int .i64 x.id)) := by
        have := HO.out
        rw [List.take_of_length_le (by rw [HSL.out]; exact Nat.le_refl _)] at this
        rw [HSL.out]; exact own_base this (Nat.le_succ _)
      clear hlt hk
      go_wp2
      go_ret
      exact ⟨_, rfl, HO2.out, HB.out⟩
/-- Whether it is long; where it isn't, how much there is at most. -/
def LongPost (np ns nq : Nat) (w : World) (e : Ending) (w' : World) : Prop :=
  ∃ b : Bool, e = .returned (.bool b) ∧ (b = false → np ≤ 40 ∧ ns ≤ 20 ∧ nq ≤ 250) ∧ Below w.heap.size w w'
def LgRel (n b : Nat) (cs : Array Value) (w : World) (N i : Value) (W : World) : Prop :=
  ∃ (k : Nat) (v : Int), k ≤ n ∧ i = .int .i64 (k : Int) ∧ N = .int .i64 v ∧ W.heap[b]? = some (.cells cs 28 (0, 0)) ∧ Below w.heap.size w W
set_option maxRecDepth 4000 in
set_option maxHeartbeats 1600000 in
theorem long_any (h : MAt w PA SA QA np ns nq ps ss qs) :
    Calls Tryz.prog 20 #[.agg #[.int .u64 e, .int .i64 f, .slice PA np pc, .slice SA ns sc, .slice QA nq qc, .slice AA na acp]] w (LongPost np ns nq w) := by
  obtain ⟨cs, hcs⟩ : ∃ cs : Array Value, #[Value.int .u64 e, .int .i64 f, .slice PA np pc, .slice SA ns sc, .slice QA nq qc, .slice AA na acp] = cs := ⟨_, rfl⟩
  have hb0 : Below w.heap.size w (w.alloc (.cells cs 28)) := (Below.refl _ _).alloc (Nat.le_refl _) _
  have hx0 := heap_alloc_new w (.cells cs 28)
  have HM := Lib.hid h
  have HCS := Lib.hid hcs
  have HPM : Hid (np ≤ maxLen) := h.pm
  have HSM : Hid (ns ≤ maxLen) := h.sm
  obtain ⟨W1, hW1⟩ : ∃ W, w.alloc (.cells cs 28) = W := ⟨_, rfl⟩
  rw [hW1] at hx0 hb0
  have HS0 : Hid (LgRel np w.heap.size cs w (.int .i64 0) (.int .i64 0) W1) := ⟨0, 0, Nat.zero_le _, rfl, rfl, hx0, hb0⟩
  rw [← hcs] at hW1
  have HW1 := Lib.hid hW1
  clear h hcs hb0 hx0 hW1
  go_enter Tryz.func20, Tryz.ntmps20
  go_upto_region 1 with fail
  rw [HW1.out]
  go_wp2_with fail
  go_loopw [3, 4] (fun N i W => LgRel np w.heap.size cs w N i W) (fun _ i _ => np - (intOf i).toNat)
  case atStart => exact HS0.out
  case round =>
    rename World => W
    obtain ⟨k, v, hk, rfl, rfl, hbx, hb⟩ := hrel
    have HBX := Lib.hid hbx
    have HB := Lib.hid hb
    have x2 := cell_of_row _ _ 2 _ _ _ hbx
    rw [← HCS.out] at x2
    simp only [List.getElem?_toArray, List.getElem?_cons_zero, List.getElem?_cons_succ] at x2
    clear hbx hb HS0
    by_cases hlt : k < np
    · obtain ⟨x, hx⟩ : ∃ x, ps[k]? = some x := ⟨_, List.getElem?_eq_getElem (by rw [HM.out.pl]; exact hlt)⟩
      obtain ⟨y, rfl, e1, e2, e3, e4⟩ := (HM.out.kept HB.out).p k x hx
      have HLT := Lib.hid hlt
      have hki : (0 : Int) ≤ k := by omega
      have hkb : (k : Int) < np := by omega
      have hk1 : IntKind.i64.wrap ((k : Int) + 1) = (k : Int) + 1 := IntWalk.i64_in _ (by have := HPM.out; unfold maxLen at this; omega)
      clear hlt hk hx e1 e3
      go_wp2_with fail
      go_quiet (fail)
      go_wp2
      go_roundw
      case rel => exact ⟨k + 1, _, HLT.out, by go_num, rfl, HBX.out, HB.out.trans ⟨rfl, rfl, rfl, Nat.le_refl _, fun _ _ => rfl⟩⟩
      case measure => have := HLT.out; simp [intOf]; omega
    · obtain rfl : np = k := by omega
      have HS2 : Hid (LgRel ns w.heap.size cs w (.int .i64 v) (.int .i64 0) W) := ⟨0, v, Nat.zero_le _, rfl, rfl, HBX.out, HB.out⟩
      clear hlt hk HBX HB
      go_wp2_with fail
      go_loopw [3, 5] (fun N i W => LgRel ns w.heap.size cs w N i W) (fun _ i _ => ns - (intOf i).toNat)
      case atStart => exact HS2.out
      case round =>
        rename World => W2
        obtain ⟨k, v, hk, rfl, rfl, hbx, hb⟩ := hrel
        have HBX := Lib.hid hbx
        have HB := Lib.hid hb
        have z := hbx
        have z2 := cell_of_row _ _ 2 _ _ _ z
        have z3 := cell_of_row _ _ 3 _ _ _ z
        have z4 := cell_of_row _ _ 4 _ _ _ z
        have z5 := cell_of_row _ _ 5 _ _ _ z
        rw [← HCS.out] at z2 z3 z4 z5
        simp only [List.getElem?_toArray, List.getElem?_cons_zero, List.getElem?_cons_succ] at z2 z3 z4 z5
        clear hbx hb z HS2 x2
        by_cases hlt : k < ns
        · obtain ⟨x, hx⟩ : ∃ x, ss[k]? = some x := ⟨_, List.getElem?_eq_getElem (by rw [HM.out.sl]; exact hlt)⟩
          obtain ⟨y, rfl, e1, e2, e3, e4⟩ := (HM.out.kept HB.out).s k x hx
          have HLT := Lib.hid hlt
          have hki : (0 : Int) ≤ k := by omega
          have hkb : (k : Int) < ns := by omega
          have hk1 : IntKind.i64.wrap ((k : Int) + 1) = (k : Int) + 1 := IntWalk.i64_in _ (by have := HSM.out; unfold maxLen at this; omega)
          clear hlt hk hx e1 e2 z2 z4 z5
          go_wp2_with fail
          go_quiet (fail)
          go_wp2
          go_roundw
          case rel => exact ⟨k + 1, _, HLT.out, by go_num, rfl, HBX.out, HB.out.trans ⟨rfl, rfl, rfl, Nat.le_refl _, fun _ _ => rfl⟩⟩
          case measure => have := HLT.out; simp [intOf]; omega
        · obtain rfl : ns = k := by omega
          clear hlt hk
          by_cases h1 : 40 < np
          · have t1 : decide (40 < (np : Int)) = true := decide_eq_true (by omega)
            clear h1
            go_wp2
            go_ret
            exact ⟨true, rfl, fun h => (by cases h), HB.out⟩
          · have t1 : decide (40 < (np : Int)) = false := decide_eq_false (by omega)
            by_cases h2 : 20 < ns
            · have t2 : decide (20 < (ns : Int)) = true := decide_eq_true (by omega)
              clear h1 h2
              go_wp2
              go_ret
              exact ⟨true, rfl, fun h => (by cases h), HB.out⟩
            · have t2 : decide (20 < (ns : Int)) = false := decide_eq_false (by omega)
              by_cases h3 : 250 < nq
              · have t3 : decide (250 < (nq : Int)) = true := decide_eq_true (by omega)
                clear h1 h2 h3
                go_wp2
                go_ret
                exact ⟨true, rfl, fun h => (by cases h), HB.out⟩
              · have t3 : decide (250 < (nq : Int)) = false := decide_eq_false (by omega)
                have HF : Hid (np ≤ 40 ∧ ns ≤ 20 ∧ nq ≤ 250) := ⟨by omega, by omega, by omega⟩
                obtain ⟨c1, hc1⟩ : ∃ c, decide (520 < (na : Int)) = c := ⟨_, rfl⟩
                obtain ⟨c2, hc2⟩ : ∃ c, decide (700 < v) = c := ⟨_, rfl⟩
                clear h1 h2 h3
                cases c1 <;> cases c2
                all_goals
                  go_wp2
                  go_ret
                  first
                    | exact ⟨true, rfl, fun h => (by cases h), HB.out⟩
                    | exact ⟨false, rfl, fun _ => HF.out, HB.out⟩
end

end Go.Proofs.YtmcmmbkodllpkaaGreatDoor.Lat
