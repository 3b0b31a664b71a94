/- What package fault's Text tells of a fault whose numbers' digits are known: the labels of its wraps, the outermost first, and its class's name. Conditions: the class is one of the table's; there are at most a million wraps. -/
import Derived.Test.YtbamildjaolheaaDoorFltQ
import Derived.Test.YtbamildjaolheaaDoorBld
namespace Go.Proofs.YtbamildjaolheaaDoor.Flt
open Go.RowKit Go.PlainAid Go.Proofs.YtbamildjaolheaaDoor.Bld

theorem isb_kept {B b : Nat} {bs : List Value} {w w' : World} (h : IsB B b bs w) (k : Below w.heap.size w w') : IsB B b bs w' := by
  have go : ∀ p, Lib.BuilderAt 56 5 B b p bs w → Lib.BuilderAt 56 5 B b p bs w' := by
    rintro p ⟨h1, v, h2, h3, h4⟩
    exact ⟨h1, v, (k.block b (lt_of_block h2)).trans h2, owns_kept h3 k, h4⟩
  rcases h with h | h
  · exact .inl (go _ h)
  · exact .inr (go _ h)

/-- What Itoa tells of n is D n. -/
def Digits (D : Int → ByteArray) (n : Int) : Prop := (D n).size ≤ 20 ∧ ∀ w : World, Calls Tryd.prog 24 #[.int .i64 n] w fun e w' => e = .returned (.string (D n)) ∧ Below w.heap.size w w'
/-- The label of a wrap. -/
def lab (D : Int → ByteArray) (p : Bool × Int) : ByteArray := (if p.1 then ⟨#[115, 101, 99, 116, 105, 111, 110, 32]⟩ else ⟨#[97, 116, 32]⟩) ++ D p.2 ++ ⟨#[58, 32]⟩
def labs (D : Int → ByteArray) (ws : List (Bool × Int)) : List UInt8 := ws.flatMap fun p => (lab D p).data.toList
theorem lab_size (D : Int → ByteArray) (p : Bool × Int) (h : (D p.2).size ≤ 20) : (lab D p).size ≤ 30 := by
  unfold lab
  rw [ByteArray.size_append, ByteArray.size_append]
  have : (if p.1 then (⟨#[115, 101, 99, 116, 105, 111, 110, 32]⟩ : ByteArray) else ⟨#[97, 116, 32]⟩).size ≤ 8 := by split <;> decide
  have h2 : (⟨#[58, 32]⟩ : ByteArray).size = 2 := rfl
  omega

theorem label_any (D : Int → ByteArray) (g : Nat) (b : Bool) (n : Int) (y : Value) (w : World) (hD : Digits D n) (h : w.heap[g]? = some (.cells #[.bool b, .int .i64 n, y] 50 (0, 0))) :
    Calls Tryd.prog 20 #[.pointer (some ⟨g, 0, none⟩)] w fun e w' => e = .returned (.string (lab D (b, n))) ∧ Below w.heap.size w w' := by
  have hc0 : w.cell? ⟨g, 0, none⟩ = some (.bool b) := by rw [cell_of_row w _ _ _ _ _ h]; rfl
  have hc1 : w.cell? ⟨g, 1, none⟩ = some (.int .i64 n) := by rw [cell_of_row w _ _ _ _ _ h]; rfl
  have hs := hD.1
  have HD := Lib.hid hD.2
  obtain ⟨X, hX⟩ : ∃ X, D n = X := ⟨_, rfl⟩
  unfold lab
  rw [hX] at hs HD ⊢
  clear h hX hD
  cases b with
  | true =>
    go_enter Tryd.func20, Tryd.ntmps20
    go_wp2_with (go_at_call 24; refine (HD.out _).mono ?_; rintro e w' ⟨rfl, hb⟩)
    go_ret
    exact ⟨rfl, hb⟩
  | false =>
    go_enter Tryd.func20, Tryd.ntmps20
    go_wp2_with (go_at_call 24; refine (HD.out _).mono ?_; rintro e w' ⟨rfl, hb⟩)
    go_ret
    exact ⟨rfl, hb⟩

set_option maxRecDepth 100000 in
theorem itoa_3 (w : World) : Calls Tryd.prog 24 #[.int .i64 3] w fun e w' => e = .returned (.string ⟨#[51]⟩) ∧ Below w.heap.size w w' := by
  go_enter Tryd.func24, Tryd.ntmps24
  go_wp2
  go_ret
  exact ⟨rfl, Below.refl _ _⟩
set_option maxRecDepth 100000 in
theorem itoa_17 (w : World) : Calls Tryd.prog 24 #[.int .i64 17] w fun e w' => e = .returned (.string ⟨#[49, 55]⟩) ∧ Below w.heap.size w w' := by
  go_enter Tryd.func24, Tryd.ntmps24
  go_wp2
  go_ret
  exact ⟨rfl, Below.refl _ _⟩

theorem labs_snoc (D : Int → ByteArray) (ws : List (Bool × Int)) (j : Nat) (h : j < ws.length) : labs D (ws.take (j + 1)) = labs D (ws.take j) ++ (lab D ws[j]).data.toList := by
  unfold labs
  rw [List.take_succ_eq_append_getElem h, List.flatMap_append, List.flatMap_cons, List.flatMap_nil, List.append_nil]
theorem labs_len (D : Int → ByteArray) (ws : List (Bool × Int)) (h : ∀ p ∈ ws, (D p.2).size ≤ 20) (j : Nat) (hj : j ≤ ws.length) : (labs D (ws.take j)).length ≤ 30 * j := by
  induction j with
  | zero => simp [labs]
  | succ j ih =>
    rw [labs_snoc D ws j (by omega), List.length_append]
    have h1 := ih (by omega)
    have h2 := lab_size D ws[j] (h _ (List.getElem_mem _))
    have h3 : (lab D ws[j]).data.toList.length = (lab D ws[j]).size := by simp
    omega
/-- The text of a fault. -/
def textOf (D : Int → ByteArray) (ws : List (Bool × Int)) (k : Int) : ByteArray := ⟨(labs D ws ++ (nameV k).data.toList).toArray⟩

def TRel (D : Int → ByteArray) (ws : List (Bool × Int)) (w1 : World) (i : Value) (wr : World) : Prop :=
  ∃ j : Nat, j ≤ ws.length ∧ i = .int .i64 j ∧ IsB w1.heap.size w1.heap.size (Lib.byteCells (labs D (ws.take j))) wr ∧ Below w1.heap.size w1 wr ∧ w1.heap.size ≤ wr.heap.size
set_option maxRecDepth 4000 in
set_option maxHeartbeats 1600000 in
theorem text_any (D : Int → ByteArray) (x : Value) (ws : List (Bool × Int)) (k : Nat) (w : World) (hn : Names w) (hD : ∀ p ∈ ws, Digits D p.2) (h : IsFault w x ws k) (hw : ws.length ≤ 1000000) (hk1 : 1 ≤ k) (hk2 : k ≤ 18) :
    Calls Tryd.prog 14 #[x] w fun e w' => e = .returned (.string (textOf D ws k)) ∧ Below w.heap.size w w' := by
  obtain ⟨u, y, rfl⟩ : ∃ u y, x = .iface u y := by
    cases ws with
    | nil => exact ⟨_, _, h⟩
    | cons a ws => obtain ⟨g, y, e, _⟩ := h; exact ⟨_, _, e⟩
  have H := Lib.hid h
  have HW := Lib.hid hw
  have HN := Lib.hid hn
  have HD := Lib.hid hD
  have HK1 := Lib.hid hk1
  have HK2 := Lib.hid hk2
  clear h hw hn hD hk1 hk2
  go_enter Tryd.func14, Tryd.ntmps14
  go_wp2_with fail
  refine (parts_any _ ws k _ H.out HW.out).mono ?_
  rintro e w1 ⟨l, gs, rfl, hgs, hown, hb1⟩
  obtain ⟨A, cap, rfl, hcap, hptr⟩ := owns_ptrs hown
  have hlen := hgs.length
  have HGS := Lib.hid (hgs.kept hb1)
  have HP := Lib.hid hptr
  have HL := Lib.hid hlen
  have HB1 := Lib.hid hb1
  have HN1 := Lib.hid (HN.out.kept hb1)
  have hn9 : ((gs.length : Nat) : Int) ≤ 1000000 := by have := HW.out; omega
  clear hgs hown hb1 hptr hlen H
  go_wp2_with fail
  go_loopw [17] (fun i wr => TRel D ws w1 i wr) (fun i _ => ws.length - (intOf i).toNat)
  case atStart => exact ⟨0, Nat.zero_le _, rfl, fresh_any w1, (Below.refl _ _).alloc (Nat.le_refl _) _, by simp⟩
  case round =>
    obtain ⟨j, hj, rfl, hbl, hbr, hsz⟩ := hrel
    have HBL := Lib.hid hbl
    have HBR := Lib.hid hbr
    have HSZ := Lib.hid hsz
    clear hbl hbr hsz
    by_cases hlt : j < ws.length
    · have hjl : j < gs.length := by have := HL.out; omega
      obtain ⟨r, hA, hc0⟩ := HP.out j hjl
      subst hA
      obtain ⟨yy, hg0⟩ := HGS.out.get j hlt hjl
      obtain ⟨g, hgg⟩ : ∃ g, gs[j] = g := ⟨_, rfl⟩
      obtain ⟨p, hpp⟩ : ∃ p, ws[j] = p := ⟨_, rfl⟩
      have hDp : Digits D p.2 := by rw [← hpp]; exact HD.out _ (List.getElem_mem _)
      rw [hgg, hpp] at hg0
      rw [hgg] at hc0
      have hc1 : wr.cell? ⟨r, j, none⟩ = some (.pointer (some ⟨g, 0, none⟩)) := (HBR.out.cell (Go.block_lt_of_cell hc0)).trans hc0
      have HG : Hid (wr.heap[g]? = some (.cells #[.bool p.1, .int .i64 p.2, yy] 50 (0, 0))) := (HBR.out.block _ (lt_of_block hg0)).trans hg0
      have HSN : Hid (labs D (ws.take (j + 1)) = labs D (ws.take j) ++ (lab D p).data.toList) := by show _ = _; rw [labs_snoc D ws j hlt, hpp]
      have HLE : Hid ((labs D (ws.take j)).length ≤ 30 * j) := labs_len D ws (fun q hq => (HD.out q hq).1) j (by omega)
      have HLS : Hid ((lab D (p.1, p.2)).size ≤ 30) := lab_size D p hDp.1
      have HDP := Lib.hid hDp
      have HLT := Lib.hid hlt
      have HJL := Lib.hid hjl
      have hji : (j : Int) < (gs.length : Int) := by omega
      have hj9 : (j : Int) ≤ 1000000 := by omega
      clear hgg hpp hc0 hg0 hj hlt hDp hjl
      go_wp2_with fail
      refine (label_any D g p.1 p.2 yy _ HDP.out HG.out).mono ?_
      rintro e w2 ⟨rfl, hb2⟩
      have hbl2 : IsB w1.heap.size w1.heap.size (Lib.byteCells (labs D (ws.take j))) w2 := isb_kept HBL.out hb2
      go_wp2_with fail
      refine (write_any w1.heap.size w1.heap.size _ (lab D (p.1, p.2)) _ hbl2 (by rw [Lib.byteCells_length]; have := HLE.out; have := HLS.out; have := HW.out; have := HLT.out; omega) (by have := HSZ.out; have := hb2.size; omega)).mono ?_
      rintro e w3 ⟨rfl, hbl3, hb3⟩
      have HBL3 : Hid (IsB w1.heap.size w1.heap.size (Lib.byteCells (labs D (ws.take (j + 1)))) w3) := by
        show IsB _ _ _ _
        rw [HSN.out, Lib.byteCells_append, ← Lib.strCells_eq]
        exact .inr hbl3
      have HBR3 : Hid (Below w1.heap.size w1 w3) := HBR.out.trans ((hb2.mono HSZ.out).trans hb3)
      have HSZ3 : Hid (w1.heap.size ≤ w3.heap.size) := by have := HSZ.out; have := hb2.size; have := hb3.size; show _ ≤ _; omega
      clear hbl2 hb2 hbl3 hb3
      go_wp2
      go_roundw
      case rel => exact ⟨j + 1, by have := HLT.out; omega, by go_num, HBL3.out, HBR3.out, HSZ3.out⟩
      case measure => have := HLT.out; simp [intOf]; omega
    · obtain rfl : j = ws.length := by omega
      have HLE : Hid ((labs D (ws.take ws.length)).length ≤ 30 * ws.length) := labs_len D ws (fun q hq => (HD.out q hq).1) _ (Nat.le_refl _)
      have HNM : Hid (∀ w, Names w → Calls Tryd.prog 13 #[.int .i64 k] w fun e w' => e = .returned (.string (nameV k)) ∧ w = w') := fun w hn => name_any k (by have := HK2.out; omega) w hn
      have HNS : Hid ((nameV k).size ≤ 9) := by
        show _ ≤ _
        have h1 := HK1.out; have h2 := HK2.out
        unfold nameV; rw [if_pos (by omega)]; exact nm_le (by simpa using (by omega : k < 19))
      have hnl : ¬ (ws.length < gs.length) := by have := HL.out; omega
      have hjj : ((ws.length : Nat) : Int) = ((gs.length : Nat) : Int) := by have := HL.out; omega
      have tl : decide (ws.length < gs.length) = false := decide_eq_false hnl
      clear hj hlt hjj
      go_wp2_with fail
      refine (HNM.out _ (HN1.out.kept HBR.out)).mono ?_
      rintro e w2 ⟨rfl, rfl⟩
      go_wp2_with fail
      refine (write_any w1.heap.size w1.heap.size _ (nameV k) _ HBL.out (by rw [Lib.byteCells_length]; have := HLE.out; have := HNS.out; have := HW.out; omega) HSZ.out).mono ?_
      rintro e w3 ⟨rfl, hbl3, hb3⟩
      have HBL3 : Hid (IsB w1.heap.size w1.heap.size (Lib.byteCells (labs D ws ++ (nameV k).data.toList)) w3) := by
        show IsB _ _ _ _
        rw [Lib.byteCells_append, ← Lib.strCells_eq]
        have := hbl3
        rw [List.take_length] at this
        exact .inr this
      have HNE : Hid (labs D ws ++ (nameV k).data.toList ≠ []) := by
        show _ ≠ _
        intro e0
        have h1 := HK1.out; have h2 := HK2.out
        have e1 := (List.append_eq_nil_iff.1 e0).2
        have := nm_some h1 h2
        have e2 : nameV k = nm k := by unfold nameV; rw [if_pos (by omega)]; rfl
        rw [e2] at e1
        rw [toList_data, e1] at this
        simp at this
      have HBEL : Hid (Below w.heap.size w w3) := (HB1.out.trans (HBR.out.mono HB1.out.size)).trans (hb3.mono HB1.out.size)
      have HSZ3 : Hid (w1.heap.size ≤ w3.heap.size) := by have := HSZ.out; have := hb3.size; show _ ≤ _; omega
      clear hbl3 hb3
      go_wp2_with fail
      refine (string_any w1.heap.size w1.heap.size _ _ HBL3.out HNE.out).mono ?_
      rintro e w4 ⟨rfl, hb4⟩
      go_wp2
      go_ret
      exact ⟨rfl, HBEL.out.trans (hb4.mono HB1.out.size)⟩
end Go.Proofs.YtbamildjaolheaaDoor.Flt
