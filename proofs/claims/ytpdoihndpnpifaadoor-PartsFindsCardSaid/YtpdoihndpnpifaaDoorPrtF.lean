
/- A partition's bytes, as the program makes them. Condition: the partition is right. What package parts' Put lays behind bytes. Condition: the variables hold what the program lays there; at most 2 to the power 30 bytes come in. The document's bytes of partitions. Condition: they are right. -/

import Derived.Test.YtpdoihndpnpifaaDoorPrtD

import Derived.Test.YtpdoihndpnpifaaDoorNamQ

import Derived.Test.YtpdoihndpnpifaaDoorHdrP

import Derived.Test.YtpdoihndpnpifaaDoorCnv

import Derived.Deep.RegionHeld3

namespace Go.Proofs.YtpdoihndpnpifaaDoor.Prt

open Go.RowKit Go.PlainAid Go.Proofs.YtpdoihndpnpifaaDoor.Oct Go.Proofs.YtpdoihndpnpifaaDoor.Flt Go.Proofs.YtpdoihndpnpifaaDoor.Rdr Go.Proofs.YtpdoihndpnpifaaDoor.Nam

open Go.Proofs.YtpdoihndpnpifaaDoor.Hdr (own_bytes owns_base)

open Go.Proofs.YtpdoihndpnpifaaDoor.Byt (bytes_kept own_open)

set_option linter.unusedVariables false

set_option linter.unusedSimpArgs false

def bitN (b : Bool) : Nat := if b then 1 else 0
theorem bitN_le (b : Bool) : bitN b ≤ 1 := by unfold bitN; split <;> omega
theorem number_any (b : Bool) (w : World) : Calls Tryd.prog 115 #[.bool b] w fun e w' => e = .returned (.int .u64 (bitN b)) ∧ w = w' := by
  cases b
  all_goals
    go_enter Tryd.func115, Tryd.ntmps115
    go_wp2
    go_ret
    exact ⟨rfl, rfl⟩
theorem put1 (A : Option Addr) (len cap : Nat) (xs : List Int) (v : Nat) (w : World) (hx : IsBytes w A len xs) (hl : len ≤ 1099511627776) (hv : v ≤ 255) :
    Calls Tryd.prog 97 #[.slice A len cap, .int .u64 v, .int .i64 1] w (PutPost w xs true (low v 1)) :=
  put_yes A len cap xs v 1 w hx hl (by omega) (by unfold fitB; simp; omega)
theorem put4 (A : Option Addr) (len cap : Nat) (xs : List Int) (v : Nat) (w : World) (hx : IsBytes w A len xs) (hl : len ≤ 1099511627776) (hv : v ≤ 4294967295) :
    Calls Tryd.prog 97 #[.slice A len cap, .int .u64 v, .int .i64 4] w (PutPost w xs true (low v 4)) :=
  put_yes A len cap xs v 4 w hx hl (by omega) (by unfold fitB; simp; omega)
def QPost (w : World) (xs ys : List Int) (e : Ending) (w' : World) : Prop := ∃ G n c : Nat, e = .returned (.tuple #[.slice (some ⟨G, 0, none⟩) n c, .bool true]) ∧ n = (xs ++ ys).length ∧ w.heap.size ≤ G ∧ w'.ownsRow w.heap.size 5 1 (.slice (some ⟨G, 0, none⟩) n c) n ((xs ++ ys).map (Value.int .u8)) ∧ Below w.heap.size w w'
theorem qpost {w : World} {xs ys : List Int} {e : Ending} {w' : World} (h : PutPost w xs true ys e w') : QPost w xs ys e w' := by
  obtain ⟨n, c, rfl, ho, hb⟩ := h
  exact ⟨_, n, c, rfl, by have := ho.1; simpa using this.symm, Nat.le_refl _, ho, hb⟩
theorem put1q (A : Option Addr) (len cap : Nat) (xs : List Int) (v : Nat) (w : World) (hx : IsBytes w A len xs) (hl : len ≤ 1099511627776) (hv : v ≤ 255) :
    Calls Tryd.prog 97 #[.slice A len cap, .int .u64 v, .int .i64 1] w (QPost w xs (low v 1)) := (put1 A len cap xs v w hx hl hv).mono fun _ _ h => qpost h
theorem put4q (A : Option Addr) (len cap : Nat) (xs : List Int) (v : Nat) (w : World) (hx : IsBytes w A len xs) (hl : len ≤ 1099511627776) (hv : v ≤ 4294967295) :
    Calls Tryd.prog 97 #[.slice A len cap, .int .u64 v, .int .i64 4] w (QPost w xs (low v 4)) := (put4 A len cap xs v w hx hl hv).mono fun _ _ h => qpost h
def cellB (x : C2) : List Int := low (bitN x.kept) 1 ++ low x.v 4
def cellsB (l : List C2) : List Int := l.flatMap cellB
theorem cellsB_snoc (l : List C2) (x : C2) : cellsB (l ++ [x]) = cellsB l ++ cellB x := by simp [cellsB]
theorem cellsB_len (l : List C2) : (cellsB l).length = l.length * 5 := by
  induction l with
  | nil => rfl
  | cons x l ih =>
    have : cellsB (x :: l) = cellB x ++ cellsB l := rfl
    rw [this, List.length_append, ih, List.length_cons]
    simp [cellB, low_length]; omega
def headB (x : PT) : List Int := (((low x.id.toNat 1 ++ low (bitN x.may) 1) ++ ((x.nm.size : Int) :: Nam.bytesOf x.nm)) ++ low x.cs.length 1)
def partB (x : PT) : List Int := headB x ++ cellsB x.cs
/-- What the numbers of a partition's cells are like. -/
def WideC (x : PT) : Prop := ∀ y ∈ x.cs, y.v ≤ 4294967295
theorem rg_right {x : PT} (h : rg x = 0) : (0 ≤ x.id ∧ x.id ≤ 255) ∧ rightB x.nm = true ∧ x.cs.length ≤ 16 := by
  unfold rg rgtP at h
  split at h
  · cases h
  · rename_i h1
    split at h
    · cases h
    · rename_i h2
      split at h
      · cases h
      · rename_i h3
        simp at h1 h2 h3
        exact ⟨by omega, h2, by omega⟩
def FRel (x : PT) (w : World) (v i : Value) (wr : World) : Prop :=
  ∃ k g n c : Nat, k ≤ x.cs.length ∧ i = .int .i64 k ∧ v = .slice (some ⟨g, 0, none⟩) n c ∧ wr.ownsRow w.heap.size 5 1 (.slice (some ⟨g, 0, none⟩) n c) n ((headB x ++ cellsB (x.cs.take k)).map (Value.int .u8)) ∧ Below w.heap.size w wr
def FPost (x : PT) (w : World) (e : Ending) (w' : World) : Prop := ∃ V n, e = .returned V ∧ 0 < n ∧ n ≤ 1000 ∧ w'.ownsRow w.heap.size 5 1 V n ((partB x).map (Value.int .u8)) ∧ Below w.heap.size w w'
set_option maxRecDepth 8000 in
set_option maxHeartbeats 3200000 in
theorem bytesOf_any (x : PT) (B : Option Addr) (c : Nat) (w : World) (hr : rg x = 0) (hcs : CellsAt w B x.cs) (hwc : WideC x) :
    Calls Tryd.prog 89 #[.agg #[.int .i64 x.id, .string x.nm, .bool x.may, .slice B x.cs.length c]] w (FPost x w) := by
  obtain ⟨⟨hi0, hi1⟩, hrb, hc16⟩ := rg_right hr
  have hsz : 1 ≤ x.nm.size ∧ x.nm.size ≤ 16 := by
    by_cases h : 1 ≤ x.nm.size ∧ x.nm.size ≤ 16
    · exact h
    · rw [right_out h] at hrb; cases hrb
  have HCS := Lib.hid hcs
  have HWC := Lib.hid hwc
  have HRB := Lib.hid hrb
  have HHB : Hid (headB x = (((low x.id.toNat 1 ++ low (bitN x.may) 1) ++ ((x.nm.size : Int) :: Nam.bytesOf x.nm)) ++ low x.cs.length 1)) := rfl
  have HPB : Hid (partB x = headB x ++ cellsB x.cs) := rfl
  have HLB : Hid ((headB x).length ≤ 40) := by show _ ≤ _; unfold headB; simp [low_length, Nam.bytesOf_len]; omega
  obtain ⟨id, nm, may, cs⟩ := x
  dsimp only at hi0 hi1 hc16 hsz HCS HRB HHB
  obtain ⟨id, rfl⟩ := Int.eq_ofNat_of_zero_le hi0
  have hid : id ≤ 255 := by omega
  have hw1 : IntKind.u64.wrap (id : Int) = id := by rw [IntKind.wrap_u64]; omega
  have hw2 : IntKind.u64.wrap (cs.length : Int) = cs.length := by rw [IntKind.wrap_u64]; omega
  have HB0 : Hid (∀ o, Below w.heap.size w (w.alloc o)) := fun o => (Below.refl _ _).alloc (Nat.le_refl _) o
  have HR0 := Lib.hid (heap_alloc_new w (.cells #[.int .i64 id, .string nm, .bool may, .slice B cs.length c] 25))
  have hbn := bitN_le may
  obtain ⟨L, hL⟩ : ∃ L, cs.length = L := ⟨_, rfl⟩
  have HL := Lib.hid hL
  rw [hL] at hc16 hw2 HR0 HHB
  clear hr hcs hwc hrb hi0 hi1
  rw [hL]
  clear hL
  go_enter Tryd.func89, Tryd.ntmps89
  go_wp2_with fail
  refine (put1q none 0 0 [] id _ ⟨rfl, fun h => absurd h (by omega)⟩ (by omega) hid).mono ?_
  rintro e w1 ⟨G1, n1, k1, rfl, hn1, hg1, ho1, hb1⟩
  rw [List.nil_append] at hn1 ho1
  have HX1 := Lib.hid (own_bytes ho1)
  have HB1 := Lib.hid ((HB0.out _).trans (hb1.mono (HB0.out _).size))
  have hr1 := (hb1.block _ (lt_of_block HR0.out)).trans HR0.out
  have HR1 := Lib.hid hr1
  have HN1 : Hid (n1 = 1) := by show _ = _; rw [hn1, low_length]
  have e2 := cell_of_row w1 _ 2 _ _ _ hr1
  simp only [List.getElem?_toArray, List.getElem?_cons_zero, List.getElem?_cons_succ] at e2
  clear hb1 ho1 hr1 hn1 hg1 HR0
  go_wp2_with (go_at_call 115; refine (number_any _ _).mono ?_; rintro e w' ⟨rfl, rfl⟩)
  refine (put1q (some ⟨G1, 0, none⟩) n1 k1 (low id 1) (bitN may) _ HX1.out (by have := HN1.out; omega) (by omega)).mono ?_
  rintro e w2 ⟨G2, n2, k2, rfl, hn2, hg2, ho2, hb2⟩
  have HX2 := Lib.hid (own_bytes ho2)
  have HB2 := Lib.hid (HB1.out.trans (hb2.mono HB1.out.size))
  have hr2 := (hb2.block _ (lt_of_block HR1.out)).trans HR1.out
  have HR2 := Lib.hid hr2
  have HN2 : Hid (n2 = 2) := by show _ = _; rw [hn2]; simp [low_length]
  have e1 := cell_of_row w2 _ 1 _ _ _ hr2
  simp only [List.getElem?_toArray, List.getElem?_cons_zero, List.getElem?_cons_succ] at e1
  clear hb2 ho2 hr2 hn2 hg2 HR1 HX1 e2
  go_wp2_with fail
  refine (nput_yes (some ⟨G2, 0, none⟩) n2 k2 _ nm _ HX2.out (by have := HN2.out; omega) hsz.2 HRB.out).mono ?_
  rintro e w3 ⟨V3, n3, rfl, ho3, hb3⟩
  have hn3 : n3 = 3 + nm.size := by have := ho3.1; simp [low_length, Nam.bytesOf_len] at this; omega
  obtain ⟨G3, k3, rfl, hg3, hgl3, hk3⟩ := own_open ho3 (by omega)
  have HX3 := Lib.hid (own_bytes ho3)
  have HB3 := Lib.hid (HB2.out.trans (hb3.mono HB2.out.size))
  have hr3 := (hb3.block _ (lt_of_block HR2.out)).trans HR2.out
  have HR3 := Lib.hid hr3
  have HN3 : Hid (n3 = 3 + nm.size ∧ nm.size ≤ 16) := ⟨hn3, hsz.2⟩
  have e3 := cell_of_row w3 _ 3 _ _ _ hr3
  simp only [List.getElem?_toArray, List.getElem?_cons_zero, List.getElem?_cons_succ] at e3
  clear hb3 ho3 hr3 hn3 hg3 hgl3 hk3 HR2 HX2 e1
  go_wp2_with fail
  refine (put1q (some ⟨G3, 0, none⟩) n3 k3 _ L _ HX3.out (by have := HN3.out; omega) (by omega)).mono ?_
  rintro e w4 ⟨G4, n4, k4, rfl, hn4, hg4, ho4, hb4⟩
  have HB4 := Lib.hid (HB3.out.trans (hb4.mono HB3.out.size))
  have hr4 := (hb4.block _ (lt_of_block HR3.out)).trans HR3.out
  have e4 := cell_of_row w4 _ 3 _ _ _ hr4
  simp only [List.getElem?_toArray, List.getElem?_cons_zero, List.getElem?_cons_succ] at e4
  have HO4 : Hid (w4.ownsRow w.heap.size 5 1 (.slice (some ⟨G4, 0, none⟩) n4 k4) n4 ((headB ⟨(id : Int), nm, may, cs⟩ ++ cellsB (cs.take 0)).map (Value.int .u8))) := by
    have h := owns_base ho4 HB3.out.size
    rw [HHB.out]
    show World.ownsRow _ _ _ _ _ _ _
    simpa [cellsB] using h
  clear hb4 ho4 hr4 hn4 hg4 HR3 HX3 e3
  go_wp2
  have hLi : L ≤ 16 := hc16
  go_loopw [3, 41] (fun v i wr => FRel ⟨(id : Int), nm, may, cs⟩ w v i wr) (fun _ i _ => L - (intOf i).toNat)
  case atStart => exact ⟨0, G4, n4, k4, Nat.zero_le _, rfl, rfl, HO4.out, HB4.out⟩
  case round =>
    obtain ⟨k, g, n, c', hk, rfl, rfl, ho, hbel⟩ := hrel
    have hkL : k ≤ L := by rw [← HL.out]; exact hk
    have HO := Lib.hid ho
    have HE := Lib.hid hbel
    clear hk ho hbel HO4 HB4
    by_cases hlt : k < L
    · obtain ⟨y, hy⟩ : ∃ y, cs[k]? = some y := ⟨_, List.getElem?_eq_getElem (by rw [HL.out]; exact hlt)⟩
      obtain ⟨ay, rfl, c1, c2⟩ := (HCS.out.kept HE.out) k y hy
      have hyv : y.v ≤ 4294967295 := HWC.out y (List.mem_of_getElem? hy)
      have HTK : Hid (cellsB (cs.take (k + 1)) = cellsB (cs.take k) ++ (low (bitN y.kept) 1 ++ low y.v 4)) := by show _ = _; rw [take_snoc cs k y hy, cellsB_snoc]; rfl
      have hln : n = (headB ⟨(id : Int), nm, may, cs⟩).length + k * 5 := by
        have h1 := HO.out.1
        have h2 : (cs.take k).length = k := by rw [List.length_take, HL.out]; omega
        simp [cellsB_len, h2] at h1
        omega
      have HLN : Hid (n ≤ 200) := by have := HLB.out; show _ ≤ _; omega
      have hki : (0 : Int) ≤ k := by omega
      have hkb : (k : Int) < L := by omega
      have hb5 : ∀ o, Below wr.heap.size wr (wr.alloc o) := fun o => (Below.refl _ _).alloc (Nat.le_refl _) o
      have HB5 := Lib.hid hb5
      have HX := Lib.hid (own_bytes HO.out)
      have hkn := bitN_le y.kept
      have hw5 : IntKind.u64.wrap (y.v : Int) = y.v := by rw [IntKind.wrap_u64]; omega
      have hnew := heap_alloc_new wr (.cells #[.int .u32 y.v, .bool y.kept] 38)
      have HNEW := Lib.hid hnew
      obtain ⟨yv, ykept⟩ := y
      dsimp only at c1 c2 hyv HTK hkn hw5 HNEW
      clear hy hln hb5 hnew
      go_wp2_with (go_at_call 115; refine (number_any _ _).mono ?_; rintro e w' ⟨rfl, rfl⟩)
      refine (put1q (some ⟨g, 0, none⟩) n c' _ (bitN ykept) _ (bytes_kept HX.out (HB5.out _)) (by have := HLN.out; omega) (by omega)).mono ?_
      rintro e w6 ⟨G6, n6, k6, rfl, hn6, hg6, ho6, hb6⟩
      have HX6 := Lib.hid (own_bytes ho6)
      have HB6 := Lib.hid (HE.out.trans (((HB5.out _).trans (hb6.mono (HB5.out _).size)).mono HE.out.size))
      have hr6 := (hb6.block _ (lt_of_block HNEW.out)).trans HNEW.out
      have HN6 : Hid (n6 ≤ 201) := by have h := own_bytes ho6; have h1 := h.1; have h2 := HX.out.1; have := HLN.out; simp [low_length] at h1 h2; show _ ≤ _; omega
      have f0 := cell_of_row w6 _ 0 _ _ _ hr6
      simp only [List.getElem?_toArray, List.getElem?_cons_zero, List.getElem?_cons_succ] at f0
      clear hb6 ho6 hr6 hn6 hg6 HX c1 c2
      go_wp2_with fail
      refine (put4q (some ⟨G6, 0, none⟩) n6 k6 _ yv _ HX6.out (by have := HN6.out; omega) hyv).mono ?_
      rintro e w7 ⟨G7, n7, k7, rfl, hn7, hg7, ho7, hb7⟩
      have HB7 := Lib.hid (HB6.out.trans (hb7.mono HB6.out.size))
      have HO7 : Hid (w7.ownsRow w.heap.size 5 1 (.slice (some ⟨G7, 0, none⟩) n7 k7) n7 ((headB ⟨(id : Int), nm, may, cs⟩ ++ cellsB (cs.take (k + 1))).map (Value.int .u8))) := by
        have h := owns_base ho7 HB6.out.size
        rw [HTK.out]
        show World.ownsRow _ _ _ _ _ _ _
        simpa [List.append_assoc] using h
      clear hb7 ho7 hn7 hg7 HX6 f0
      go_wp2
      go_roundw
      case rel => exact ⟨k + 1, G7, n7, k7, by show k + 1 ≤ cs.length; rw [HL.out]; omega, by go_num, rfl, HO7.out, HB7.out⟩
      case measure => simp [intOf]; omega
    · obtain rfl : k = L := by omega
      have HPE : Hid (headB ⟨(id : Int), nm, may, cs⟩ ++ cellsB (cs.take k) = partB ⟨(id : Int), nm, may, cs⟩) := by
        show _ = _
        rw [HPB.out, List.take_of_length_le (by rw [HL.out]; omega)]
      have HLN : Hid (0 < n ∧ n ≤ 1000) := by
        have h1 := HO.out.1
        have h2 : (cs.take k).length = k := by rw [List.length_take, HL.out]; omega
        have h3 := HLB.out
        have h4 : 0 < (headB ⟨(id : Int), nm, may, cs⟩).length := by unfold headB; simp only [List.length_append, List.length_cons, low_length]; omega
        simp [cellsB_len, h2] at h1
        show _ ∧ _
        omega
      go_wp2
      go_ret
      exact ⟨_, n, rfl, HLN.out.1, HLN.out.2, by rw [← HPE.out]; exact HO.out, HE.out⟩
end Go.Proofs.YtpdoihndpnpifaaDoor.Prt

namespace Go.Proofs.YtpdoihndpnpifaaDoor.Prt

open Go.RowKit Go.PlainAid Go.Proofs.YtpdoihndpnpifaaDoor.Oct Go.Proofs.YtpdoihndpnpifaaDoor.Flt Go.Proofs.YtpdoihndpnpifaaDoor.Rdr Go.Proofs.YtpdoihndpnpifaaDoor.Nam

open Go.Proofs.YtpdoihndpnpifaaDoor.Hdr (own_bytes owns_base iface_of_wrong)

open Go.Proofs.YtpdoihndpnpifaaDoor.Byt (bytes_kept own_open clone_any)

set_option linter.unusedVariables false

set_option linter.unusedSimpArgs false

theorem fb_all {α : Type} (f : List α → α → Nat) : ∀ (l pre : List α), (fb f pre l).1 = 0 → ∀ (i : Nat) (x : α), l[i]? = some x → f (pre ++ l.take i) x = 0
  | [], _, _, i, x, h => by simp at h
  | y :: l, pre, h, i, x, hx => by
    rw [fb] at h
    split at h
    · rename_i h0
      cases i with
      | zero =>
        obtain rfl : y = x := by simpa using hx
        simpa using h0
      | succ i =>
        have := fb_all f l (pre ++ [y]) h i x (by simpa using hx)
        simpa using this
    · rename_i h0
      exact absurd h h0
theorem bad_rg {l : List PT} (h : (badP l).1 = 0) : ∀ x ∈ l, rg x = 0 := by
  intro x hx
  obtain ⟨i, hi, rfl⟩ := List.mem_iff_getElem.1 hx
  have h1 := fb_all b1P l [] h i _ (List.getElem?_eq_getElem hi)
  unfold b1P at h1
  split at h1
  · assumption
  · exact h1
def textB (l : List PT) : List Int := l.flatMap partB
theorem textB_snoc (l : List PT) (x : PT) : textB (l ++ [x]) = textB l ++ partB x := by simp [textB]
def PNo (l : List PT) (w : World) (n : Nat) (xs : List Int) (e : Ending) (w' : World) : Prop :=
  ∃ V x, e = .returned (.tuple #[V, x]) ∧ w'.ownsRow w.heap.size 5 1 V n (xs.map (Value.int .u8)) ∧ Wrong w' x (badP l).1 (sec2 (badP l).1) (badP l).2 ∧ Below w.heap.size w w'
def PYes (l : List PT) (w : World) (xs : List Int) (e : Ending) (w' : World) : Prop :=
  ∃ V n, e = .returned (.tuple #[V, .nilIface]) ∧ w'.ownsRow w.heap.size 5 1 V n ((xs ++ textB l).map (Value.int .u8)) ∧ Below w.heap.size w w'
set_option maxRecDepth 8000 in
set_option maxHeartbeats 800000 in
theorem pput_no (l : List PT) (P : Option Addr) (pc : Nat) (A : Option Addr) (len cap : Nat) (xs : List Int) (w : World) (hb : (badP l).1 ≠ 0) (hn : Names w) (h1 : PartsAt w P l) (hw : ∀ x ∈ l, WideP x) (hl : l.length ≤ 1000) (hx : IsBytes w A len xs) (hnil : A = none → len = 0 ∧ cap = 0) (hlen : len ≤ 1073741824) :
    Calls Tryd.prog 42 #[.slice A len cap, .slice P l.length pc] w (PNo l w len xs) := by
  have HC := Lib.hid (clone_any A len cap xs w hx hnil (by omega))
  have HN := Lib.hid hn
  have H1 := Lib.hid h1
  have HWR : Hid (∀ w1, Below w.heap.size w w1 → Calls Tryd.prog 88 #[.slice P l.length pc] w1 (WPost (badP l) w1)) := fun w1 b => pwrong_any P pc l w1 (hn.kept b) (h1.kept b) hw hl
  have HB := Lib.hid hb
  obtain ⟨a, ha⟩ : ∃ a, l.length = a := ⟨_, rfl⟩
  rw [ha] at HWR
  rw [ha]
  clear hn h1 hw hl hx hnil hb ha
  go_enter Tryd.func42, Tryd.ntmps42
  go_wp2_with (go_at_call 51; refine HC.out.mono ?_; rintro e w1 ⟨V, rfl, ho, hb1⟩; have HO := Lib.hid ho; have HB1 := Lib.hid hb1; clear ho hb1)
  refine (HWR.out _ HB1.out).mono ?_
  rintro e w2 ⟨x, rfl, hw, hb2⟩
  obtain ⟨u, y, rfl⟩ := iface_of_wrong hw HB.out
  have HW := Lib.hid hw
  have HB2 := Lib.hid hb2
  clear hw hb2
  go_wp2
  go_ret2
  exact ⟨V, _, rfl, Byt.owns_kept HO.out HB2.out, HW.out, HB1.out.trans (HB2.out.mono HB1.out.size)⟩
def GRel (l : List PT) (len : Nat) (xs : List Int) (w : World) (v i : Value) (wr : World) : Prop :=
  ∃ k n : Nat, k ≤ l.length ∧ i = .int .i64 k ∧ n ≤ len + k * 1000 ∧ wr.ownsRow w.heap.size 5 1 v n ((xs ++ textB (l.take k)).map (Value.int .u8)) ∧ Below w.heap.size w wr
set_option maxRecDepth 8000 in
set_option maxHeartbeats 3200000 in
theorem pput_yes (l : List PT) (P : Option Addr) (pc : Nat) (A : Option Addr) (len cap : Nat) (xs : List Int) (w : World) (hb : (badP l).1 = 0) (hn : Names w) (h1 : PartsAt w P l) (hw : ∀ x ∈ l, WideP x ∧ WideC x) (hl : l.length ≤ 1000) (hx : IsBytes w A len xs) (hnil : A = none → len = 0 ∧ cap = 0) (hlen : len ≤ 1073741824) :
    Calls Tryd.prog 42 #[.slice A len cap, .slice P l.length pc] w (PYes l w xs) := by
  obtain ⟨i0, hi, hz0, hz1, hz2⟩ := info_parts infoU8
  have HC := Lib.hid (clone_any A len cap xs w hx hnil (by omega))
  have H1 := Lib.hid h1
  have HWR : Hid (∀ w1, Below w.heap.size w w1 → Calls Tryd.prog 88 #[.slice P l.length pc] w1 fun e w' => e = .returned .nilIface ∧ Below w1.heap.size w1 w') := fun w1 b => by
    refine (pwrong_any P pc l w1 (hn.kept b) (h1.kept b) (fun x h => (hw x h).1) hl).mono ?_
    rintro e w' ⟨x, rfl, hx, hb'⟩
    rw [hb] at hx
    rcases hx with ⟨_, _, _, rfl⟩ | ⟨h, _⟩
    · exact ⟨rfl, hb'⟩
    · omega
  have HRG := Lib.hid (bad_rg hb)
  have HWC := Lib.hid hw
  obtain ⟨a, ha⟩ : ∃ a, l.length = a := ⟨_, rfl⟩
  have HA := Lib.hid ha
  rw [ha] at HWR hl
  rw [ha]
  clear hn h1 hw hx hnil hb ha
  go_enter Tryd.func42, Tryd.ntmps42
  go_wp2_with (go_at_call 51; refine HC.out.mono ?_; rintro e w1 ⟨V, rfl, ho, hb1⟩; have HO := Lib.hid ho; have HB1 := Lib.hid hb1; clear ho hb1)
  refine (HWR.out _ HB1.out).mono ?_
  rintro e w2 ⟨rfl, hb2⟩
  have HO2 : Hid (w2.ownsRow w.heap.size 5 1 V len ((xs ++ textB (l.take 0)).map (Value.int .u8))) := by
    have h := Byt.owns_kept HO.out hb2
    show World.ownsRow _ _ _ _ _ _ _
    simpa [textB] using h
  have HB2 := Lib.hid (HB1.out.trans (hb2.mono HB1.out.size))
  clear hb2
  go_wp2
  go_loopw [6, 20] (fun v i wr => GRel l len xs w v i wr) (fun _ i _ => a - (intOf i).toNat)
  case atStart => exact ⟨0, len, Nat.zero_le _, rfl, by omega, HO2.out, HB2.out⟩
  case round =>
    obtain ⟨k, n, hk, rfl, hnl, ho, hbel⟩ := hrel
    have hka : k ≤ a := by rw [← HA.out]; exact hk
    have HOO := Lib.hid ho
    have HE := Lib.hid hbel
    have HNL := Lib.hid hnl
    clear hk ho hbel HO2 HB2 hnl HO HB1 HC HWR
    by_cases hlt : k < a
    · obtain ⟨x, hx⟩ : ∃ x, l[k]? = some x := ⟨_, List.getElem?_eq_getElem (by rw [HA.out]; exact hlt)⟩
      obtain ⟨ax, B, c, rfl, c1, c2, c3, c4, c5, _, c6, c7⟩ := (H1.out.kept HE.out) k x hx
      have hmem := List.mem_of_getElem? hx
      have HBO : Hid (∀ w1, Below wr.heap.size wr w1 → Calls Tryd.prog 89 #[.agg #[.int .i64 x.id, .string x.nm, .bool x.may, .slice B x.cs.length c]] w1 (FPost x w1)) := fun w1 b => bytesOf_any x B c w1 (HRG.out x hmem) (c5.kept b) (HWC.out x hmem).2
      have HT : Hid (textB (l.take (k + 1)) = textB (l.take k) ++ partB x) := by show _ = _; rw [take_snoc l k x hx, textB_snoc]
      have hb5 : ∀ o, Below wr.heap.size wr (wr.alloc o) := fun o => (Below.refl _ _).alloc (Nat.le_refl _) o
      have HB5 := Lib.hid hb5
      obtain ⟨PB, hPB⟩ : ∃ PB, partB x = PB := ⟨_, rfl⟩
      have HFP : Hid (∀ w1 e w', FPost x w1 e w' → ∃ V n, e = .returned V ∧ 0 < n ∧ n ≤ 1000 ∧ w'.ownsRow w1.heap.size 5 1 V n (PB.map (Value.int .u8)) ∧ Below w1.heap.size w1 w') := fun w1 e w' h => by rw [← hPB]; exact h
      rw [hPB] at HT
      obtain ⟨id, nm, may, cs⟩ := x
      dsimp only at c1 c2 c3 c4 HBO
      obtain ⟨L1, hL1⟩ : ∃ L1, cs.length = L1 := ⟨_, rfl⟩
      rw [hL1] at c4 HBO
      have hki : (0 : Int) ≤ k := by omega
      have hkb : (k : Int) < a := by omega
      clear hx c5 c6 c7 hmem hb5 hPB hL1
      go_wp2_with fail
      refine (HBO.out _ (HB5.out _)).mono ?_
      intro e w3 hf
      obtain ⟨V3, n3, rfl, hp3, hm3, ho3, hb3⟩ := HFP.out _ _ _ hf
      obtain ⟨G3, k3, rfl, hg3, hgl3, hk3⟩ := own_open ho3 hp3
      have hbb := HE.out.trans (((HB5.out _).trans (hb3.mono (HB5.out _).size)).mono HE.out.size)
      have HB6 := Lib.hid hbb
      have HO6 := Lib.hid (Byt.owns_kept HOO.out ((HB5.out _).trans (hb3.mono (HB5.out _).size)))
      have HAT := Lib.hid (Byt.bytes_at (own_bytes ho3))
      have HPL : Hid (PB.length = n3) := by show _ = _; have := ho3.1; simpa using this
      have HM3 := Lib.hid hm3
      clear hf ho3 hb3 hbb hg3 hgl3 hk3 hp3 hm3
      go_wp2_with (at_builtin; refine wpList_append_own _ rfl _ _ 41 rfl w.heap.size 5 i0 (.int .u8 0) 1 1 underU8 hi hz0 hz1 hz2 rfl (by decide) _ n _ rfl HO6.out ⟨G3, 0, none⟩ n3 k3 (PB.map (Value.int .u8)) rfl ?c1 ?c2 ?c3 ?c4 ?c5 ?c6 ?_)
      case c1 => rw [List.length_map, HPL.out, Nat.mul_one]
      case c2 => exact HAT.out
      case c3 => exact ints_oneCell _ _
      case c4 => have := HNL.out; have := HM3.out; unfold maxLen; omega
      case c5 => have := HNL.out; have := HM3.out; omega
      case c6 => exact HB6.out.size
      intro v' w7 ho7 hg7 _
      have HB7 := Lib.hid (HB6.out.grown hg7 HB6.out.size (fun j hj => (HO6.out.lt j hj).1))
      have HO7 : Hid (w7.ownsRow w.heap.size 5 1 v' (n + n3) ((xs ++ textB (l.take (k + 1))).map (Value.int .u8))) := by
        rw [HT.out]
        show World.ownsRow _ _ _ _ _ _ _
        simpa [List.append_assoc] using ho7
      clear ho7 hg7
      go_wp2
      go_roundw
      case rel => exact ⟨k + 1, n + n3, by rw [HA.out]; omega, by go_num, by have := HNL.out; have := HM3.out; omega, HO7.out, HB7.out⟩
      case measure => simp [intOf]; omega
    · obtain rfl : k = a := by omega
      have HT : Hid (l.take k = l) := by show _ = _; rw [List.take_of_length_le (by rw [HA.out]; omega)]
      go_wp2
      go_ret2
      exact ⟨_, n, rfl, by have h := HOO.out; rw [HT.out] at h; exact h, HE.out⟩
end Go.Proofs.YtpdoihndpnpifaaDoor.Prt

namespace Go.Proofs.YtpdoihndpnpifaaDoor.Prt

open Go.RowKit Go.PlainAid Go.Proofs.YtpdoihndpnpifaaDoor.Oct Go.Proofs.YtpdoihndpnpifaaDoor.Flt Go.Proofs.YtpdoihndpnpifaaDoor.Rdr Go.Proofs.YtpdoihndpnpifaaDoor.Nam

set_option linter.unusedVariables false

set_option linter.unusedSimpArgs false

def trS (b : Bool) : ByteArray := strOfNums (low (bitN b) 1)
theorem trS_size (b : Bool) : (trS b).size = 1 := by unfold trS; rw [strOfNums_size, low_length]
theorem partB_len {x : PT} (h : rg x = 0) : (partB x).length ≤ 200 := by
  obtain ⟨_, hrb, hc⟩ := rg_right h
  have hsz : x.nm.size ≤ 16 := by
    by_cases h : 1 ≤ x.nm.size ∧ x.nm.size ≤ 16
    · exact h.2
    · rw [right_out h] at hrb; cases hrb
  unfold partB headB
  simp [low_length, Nam.bytesOf_len, cellsB_len]
  omega
theorem textB_len (l : List PT) (h : ∀ x ∈ l, rg x = 0) : (textB l).length ≤ l.length * 200 := by
  induction l with
  | nil => simp [textB]
  | cons x l ih =>
    have h1 := ih fun y hy => h y (List.mem_cons_of_mem _ hy)
    have h2 := partB_len (h x List.mem_cons_self)
    have : textB (x :: l) = partB x ++ textB l := rfl
    rw [this, List.length_append, List.length_cons]
    omega
def HRel (l : List PT) (w : World) (v i : Value) (wr : World) : Prop := ∃ k : Nat, k ≤ l.length ∧ i = .int .i64 k ∧ v = .string (strOfNums (textB (l.take k))) ∧ Below w.heap.size w wr
end Go.Proofs.YtpdoihndpnpifaaDoor.Prt
