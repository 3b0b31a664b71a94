/- What a strings.Builder of the call's own does: WriteString lays a text behind what it holds, String tells it. Conditions: what it holds is at most 2 to the power 47 bytes long. What package fault's Text tells of a fault whose numbers' digits are known: the labels of its wraps, the outermost first, and its class's name. Conditions: the class is one of the table's; there are at most a million wraps. Package fault's Text where Itoa tells the digits at every world behind the first (it wants the library's table of powers). Conditions: the class is one of the table's; there are at most a million wraps. A fault's text, put together: plain. No condition. The digits of a number: the document's and the library's (cut out of NamF, for a seat whose shelf compares no bytes). Condition: the library's table of powers of ten holds what the library lays there. Digits as the law asks them; the text of no error. Condition: the library's table of powers of ten holds what the library lays there. -/
import Derived.Test.YtmcmmbkodllpkaaGreatDoorProg
import Derived.WalkKit
import Derived.PlainAid
import Derived.Lib.Hide
import Derived.Lib.Strings
import Derived.Lib.Slices
import Derived.Lib.Walk
import Derived.Lib.Builder
import Derived.Lib.AppendStr
import Derived.Lib.UnsafeStr
import Derived.Laws.Externs
import Derived.BigRegion
import Derived.Test.YtmcmmbkodllpkaaGreatDoorMg04
import Derived.Test.YtmcmmbkodllpkaaGreatDoorMg02
import Derived.Test.YtmcmmbkodllpkaaGreatDoorMg06
import Derived.Deep.QuietTactic
import Derived.BigQuiet
import Derived.Test.YtmcmmbkodllpkaaGreatDoorMh01
namespace Go.Proofs.YtmcmmbkodllpkaaGreatDoor.Bld

open Go.RowKit Go.PlainAid

theorem sizeBuilder : (Tryz.prog.info? 74).map (·.size) = some 2 := by kernel_rfl
theorem liesBuilder : liesAt Tryz.prog Tryz.prog.depth 74 (2 / Tryz.prog.cellsOf 74) 0 74 1 = true := by kernel_rfl
theorem infoByte : (Tryz.prog.info? 5).map (fun i => (i.zero, i.size, i.bytes)) = some (some (.int .u8 0), 1, 1) := by kernel_rfl
theorem cellsByte : Tryz.prog.cellsOf 5 = 1 := by kernel_rfl

abbrev IsB (B b : Nat) (bs : List Value) (w : World) : Prop := Lib.IsBuilder 74 5 B b bs w
abbrev UsedB (B b : Nat) (bs : List Value) (w : World) : Prop := Lib.BuilderAt 74 5 B b (.pointer (some ⟨b, 0, none⟩)) bs w

set_option maxRecDepth 100000 in
theorem copy_used (b : Nat) (w : World) (h0 : w.cell? ⟨b, 0, none⟩ = some (.pointer (some ⟨b, 0, none⟩))) :
    Calls Tryz.prog 47 #[.pointer (some ⟨b, 0, none⟩)] w fun e w' => e = .returned (.tuple #[]) ∧ w' = w := by
  obtain ⟨j, hj, _⟩ := Option.map_eq_some_iff.1 sizeBuilder
  go_enter Tryz.func47, Tryz.ntmps47
  go_wp2
  rw [Lib.run_neq_ptr_same w _ Tryz.underlying71 hj]
  go_wp2
  go_end0
  exact ⟨rfl, rfl⟩
set_option maxRecDepth 100000 in
theorem copy_fresh (b : Nat) (w : World) (h0 : w.cell? ⟨b, 0, none⟩ = some (.pointer none)) (hsh : w.shape? b = some (74, 2)) (hfz : w.frozen? ⟨b, 0, none⟩ = false) :
    Calls Tryz.prog 47 #[.pointer (some ⟨b, 0, none⟩)] w fun e w' => e = .returned (.tuple #[]) ∧ w' = w.setCell ⟨b, 0, none⟩ (.pointer (some ⟨b, 0, none⟩)) := by
  obtain ⟨j, hj, hjs⟩ := Option.map_eq_some_iff.1 sizeBuilder
  go_enter Tryz.func47, Tryz.ntmps47
  go_wp2
  rw [Lib.run_to_unsafe w ⟨b, 0, none⟩ Tryz.underlying71 Tryz.underlying114 hj (by rw [hjs]; decide) hsh (Nat.zero_lt_succ 1)]
  simp only [Result.andThen]
  rw [Oper.upon_value]
  go_wp2
  rw [run_callFunc_extern Tryz.func67 (by kernel_rfl) (by kernel_rfl) (by kernel_rfl) (e := Extern.AbiNoEscape.same) (by kernel_rfl)]
  rw [Lib.run_noEscape]
  simp only [Result.andThen]
  rw [Oper.upon_value]
  go_wp2
  rw [Lib.run_from_unsafe w ⟨b, 0, none⟩ Tryz.underlying114 Tryz.underlying71 hj hsh liesBuilder]
  simp only [Result.andThen]
  rw [Oper.upon_value]
  go_wp2
  go_end0
  exact ⟨rfl, rfl⟩
theorem copy_any (B b : Nat) (bs : List Value) (w : World) (h : IsB B b bs w) :
    Calls Tryz.prog 47 #[.pointer (some ⟨b, 0, none⟩)] w fun e w' => e = .returned (.tuple #[]) ∧ (UsedB B b bs w' ∧ Below B w w') := by
  rcases h with h | h
  · refine (copy_fresh b w h.cell0 h.shape h.frozen0).mono ?_
    rintro e w' ⟨rfl, rfl⟩
    exact ⟨rfl, h.used _, (Below.refl B w).setCell (p := ⟨b, 0, none⟩) h.1 _⟩
  · refine (copy_used b w h.cell0).mono ?_
    rintro e w' ⟨rfl, rfl⟩
    exact ⟨rfl, h, Below.refl B _⟩
set_option maxRecDepth 100000 in
set_option maxHeartbeats 2000000 in
theorem write_any (B b : Nat) (bs : List Value) (s : ByteArray) (w : World) (h : IsB B b bs w) (hlen : bs.length + s.size ≤ 140737488355328) (hBw : B ≤ w.heap.size) :
    Calls Tryz.prog 29 #[.pointer (some ⟨b, 0, none⟩), .string s] w fun e w' => e = .returned (.tuple #[.int .i64 s.size, .nilIface]) ∧ (UsedB B b (bs ++ Lib.strCells s) w' ∧ Below B w w') := by
  obtain ⟨i0, hi, hz0, hz1, hz2⟩ := info_parts infoByte
  go_enter Tryz.func29, Tryz.ntmps29
  go_wp2_with (go_at_call 47; refine (copy_any B b bs _ h).mono ?_)
  rintro e w1 ⟨rfl, h1, hb1⟩
  obtain ⟨hB, v, hbk, hown, hne⟩ := h1
  have c0 : w1.cell? ⟨b, 0, none⟩ = some (.pointer (some ⟨b, 0, none⟩)) := by rw [Lib.cell_of_heap hbk]; rfl
  have c1 : w1.cell? ⟨b, 1, none⟩ = some v := by rw [Lib.cell_of_heap hbk]; rfl
  go_wp2_with (at_builtin; refine Lib.wpList_append_own_string _ rfl _ _ 72 9 rfl B 5 i0 Tryz.underlying72 Tryz.underlying9 hi hz0 hz1 hz2 _ _ _ rfl hown s rfl ?c3 ?c4 ?c5 ?_)
  case c3 => unfold maxLen; omega
  case c4 => omega
  case c5 => have := hb1.size; omega
  intro v' w2 hown' hgrow _
  have hlt : b < w1.heap.size := by
    rcases Nat.lt_or_ge b w1.heap.size with h' | h'
    · exact h'
    · simp [Array.getElem?_eq_none h'] at hbk
  have hb2 : w2.heap[b]? = some (.cells #[.pointer (some ⟨b, 0, none⟩), v] 74 (0, 0)) := by
    rw [hgrow.block b hlt (fun e => hne e.symm)]
    exact hbk
  have d0 : w2.cell? ⟨b, 0, none⟩ = some (.pointer (some ⟨b, 0, none⟩)) := by rw [Lib.cell_of_heap hb2]; rfl
  have d1 : w2.cell? ⟨b, 1, none⟩ = some v := by rw [Lib.cell_of_heap hb2]; rfl
  have f1 : w2.frozen? ⟨b, 1, none⟩ = false := Lib.frozen_of_heap hb2 1
  obtain ⟨ao, n', cap, rfl⟩ : ∃ ao n' cap, v' = .slice ao n' cap := by
    rcases hown'.2 with ⟨hv, _⟩ | ⟨g, cap, cur, hv, _⟩
    · exact ⟨_, _, _, hv⟩
    · exact ⟨_, _, _, hv⟩
  go_wp2
  go_ret2
  refine ⟨rfl, ?_, ?_⟩
  · exact Lib.BuilderAt.put (T := 74) (e := 5) hB hb2 (bs' := bs ++ Lib.strCells s) (by simpa [Lib.strCells_length] using hown') (by decide)
  · exact (hb1.grown hgrow (by have := hb1.size; omega) (fun k hk => (hown.lt k hk).1)).setCell (p := ⟨b, 1, none⟩) hB _
set_option maxRecDepth 100000 in
set_option maxHeartbeats 2000000 in
theorem string_any (B b : Nat) (l : List UInt8) (w : World) (h : IsB B b (Lib.byteCells l) w) (h0 : l ≠ []) :
    Calls Tryz.prog 32 #[.pointer (some ⟨b, 0, none⟩)] w fun e w' => e = .returned (.string ⟨l.toArray⟩) ∧ Below B w w' := by
  obtain ⟨p, hB, v, hbk, hown, hne⟩ : ∃ p, Lib.BuilderAt 74 5 B b p (Lib.byteCells l) w := by
    rcases h with h | h
    · exact ⟨_, h⟩
    · exact ⟨_, h⟩
  have hl0 : l.length ≠ 0 := by simpa using h0
  rw [Lib.byteCells_length] at hown
  obtain ⟨g, cap, cur, rfl, hbg, hg, hnc, hcm, hcs, htake⟩ : ∃ g cap cur, v = .slice (some ⟨g, 0, none⟩) l.length cap ∧ B ≤ g ∧ w.heap[g]? = some (.cells cur 5 (0, 0)) ∧ l.length ≤ cap ∧ cap ≤ maxLen ∧ cur.size = cap * 1 ∧ cur.toList.take (l.length * 1) = Lib.byteCells l := by
    rcases hown.2 with ⟨_, hz⟩ | ⟨g, cap, cur, hv, r⟩
    · exact absurd hz hl0
    · exact ⟨g, cap, cur, hv, r⟩
  have c1 : w.drew.cell? ⟨b, 1, none⟩ = some (.slice (some ⟨g, 0, none⟩) l.length cap) := by
    have : w.drew.heap[b]? = some (.cells #[p, .slice (some ⟨g, 0, none⟩) l.length cap] 74 (0, 0)) := hbk
    rw [Lib.cell_of_heap this]; rfl
  have hSD : (Builtin.unsafeSliceData_ #[72] 94 #[.slice (some ⟨g, 0, none⟩) l.length cap]).run Tryz.prog w.drew = .ok (.pointer (some ⟨g, 0, none⟩)) w.drew :=
    Lib.run_unsafeSliceData_row _ _ _ _ _ _ (by omega)
  have hUS : (Builtin.unsafeString_ #[94, 3] 9 #[.pointer (some ⟨g, 0, none⟩), .int .i64 l.length]).run Tryz.prog w.drew = .ok (.string ⟨l.toArray⟩) (w.drew.freeze ⟨g, 0, none⟩ l.length) := by
    refine Lib.run_unsafeString_row w.drew 94 3 9 5 Tryz.underlying94 cellsByte g cur.size (by have hg' : w.drew.heap[g]? = some (.cells cur 5 (0, 0)) := hg; simp [World.shape?, hg']) l h0 (by omega) (by unfold maxLen at hcm; omega) ?_
    intro j x hx
    have := hown.cells (g := g) rfl j (.int .u8 x.toNat) (by simp [Lib.byteCells, hx])
    exact this
  go_enter Tryz.func32, Tryz.ntmps32
  go_wp2
  go_region
  all_goals (go_wp2; go_ret; exact ⟨rfl, Lib.below_freeze (Below.drew (Below.refl B w)) (p := ⟨g, 0, none⟩) hbg _⟩)
theorem fresh_any (w : World) : IsB w.heap.size w.heap.size [] (w.alloc (.cells #[.pointer none, .slice none 0 0] 74)) := Lib.fresh_isBuilder _ _ _
end Go.Proofs.YtmcmmbkodllpkaaGreatDoor.Bld
namespace Go.Proofs.YtmcmmbkodllpkaaGreatDoor.Flt

open Go.RowKit Go.PlainAid Go.Proofs.YtmcmmbkodllpkaaGreatDoor.Bld

theorem isb_kept {B b : Nat} {bs : List Value} {w w' : World} (h : IsB B b bs w) (k : Below w.heap.size w w') : IsB B b bs w' := by
  have go : ∀ p, Lib.BuilderAt 74 5 B b p bs w → Lib.BuilderAt 74 5 B b p bs w' := by
    rintro p ⟨h1, v, h2, h3, h4⟩
    exact ⟨h1, v, (k.block b (lt_of_block h2)).trans h2, owns_kept h3 k, h4⟩
  rcases h with h | h
  · exact .inl (go _ h)
  · exact .inr (go _ h)

/-- What Itoa tells of n is D n. -/
def Digits (D : Int → ByteArray) (n : Int) : Prop := (D n).size ≤ 20 ∧ ∀ w : World, Calls Tryz.prog 48 #[.int .i64 n] w fun e w' => e = .returned (.string (D n)) ∧ Below w.heap.size w w'
/-- The label of a wrap. -/
def lab (D : Int → ByteArray) (p : Bool × Int) : ByteArray := (if p.1 then ⟨#[115, 101, 99, 116, 105, 111, 110, 32]⟩ else ⟨#[97, 116, 32]⟩) ++ D p.2 ++ ⟨#[58, 32]⟩
def labs (D : Int → ByteArray) (ws : List (Bool × Int)) : List UInt8 := ws.flatMap fun p => (lab D p).data.toList
theorem lab_size (D : Int → ByteArray) (p : Bool × Int) (h : (D p.2).size ≤ 20) : (lab D p).size ≤ 30 := by
  unfold lab
  rw [ByteArray.size_append, ByteArray.size_append]
  have : (if p.1 then (⟨#[115, 101, 99, 116, 105, 111, 110, 32]⟩ : ByteArray) else ⟨#[97, 116, 32]⟩).size ≤ 8 := by split <;> decide
  have h2 : (⟨#[58, 32]⟩ : ByteArray).size = 2 := rfl
  omega

theorem label_any (D : Int → ByteArray) (g : Nat) (b : Bool) (n : Int) (y : Value) (w : World) (hD : Digits D n) (h : w.heap[g]? = some (.cells #[.bool b, .int .i64 n, y] 69 (0, 0))) :
    Calls Tryz.prog 30 #[.pointer (some ⟨g, 0, none⟩)] w fun e w' => e = .returned (.string (lab D (b, n))) ∧ Below w.heap.size w w' := by
  have hc0 : w.cell? ⟨g, 0, none⟩ = some (.bool b) := by rw [cell_of_row w _ _ _ _ _ h]; rfl
  have hc1 : w.cell? ⟨g, 1, none⟩ = some (.int .i64 n) := by rw [cell_of_row w _ _ _ _ _ h]; rfl
  have hs := hD.1
  have HD := Lib.hid hD.2
  obtain ⟨X, hX⟩ : ∃ X, D n = X := ⟨_, rfl⟩
  unfold lab
  rw [hX] at hs HD ⊢
  clear h hX hD
  cases b with
  | true =>
    go_enter Tryz.func30, Tryz.ntmps30
    go_wp2_with (go_at_call 48; refine (HD.out _).mono ?_; rintro e w' ⟨rfl, hb⟩)
    go_ret
    exact ⟨rfl, hb⟩
  | false =>
    go_enter Tryz.func30, Tryz.ntmps30
    go_wp2_with (go_at_call 48; refine (HD.out _).mono ?_; rintro e w' ⟨rfl, hb⟩)
    go_ret
    exact ⟨rfl, hb⟩

set_option maxRecDepth 100000 in
theorem itoa_3 (w : World) : Calls Tryz.prog 48 #[.int .i64 3] w fun e w' => e = .returned (.string ⟨#[51]⟩) ∧ Below w.heap.size w w' := by
  go_enter Tryz.func48, Tryz.ntmps48
  go_wp2
  go_ret
  exact ⟨rfl, Below.refl _ _⟩
set_option maxRecDepth 100000 in
theorem itoa_17 (w : World) : Calls Tryz.prog 48 #[.int .i64 17] w fun e w' => e = .returned (.string ⟨#[49, 55]⟩) ∧ Below w.heap.size w w' := by
  go_enter Tryz.func48, Tryz.ntmps48
  go_wp2
  go_ret
  exact ⟨rfl, Below.refl _ _⟩

theorem labs_snoc (D : Int → ByteArray) (ws : List (Bool × Int)) (j : Nat) (h : j < ws.length) : labs D (ws.take (j + 1)) = labs D (ws.take j) ++ (lab D ws[j]).data.toList := by
  unfold labs
  rw [List.take_succ_eq_append_getElem h, List.flatMap_append, List.flatMap_cons, List.flatMap_nil, List.append_nil]
theorem labs_len (D : Int → ByteArray) (ws : List (Bool × Int)) (h : ∀ p ∈ ws, (D p.2).size ≤ 20) (j : Nat) (hj : j ≤ ws.length) : (labs D (ws.take j)).length ≤ 30 * j := by
  induction j with
  | zero => simp [labs]
  | succ j ih =>
    rw [labs_snoc D ws j (by omega), List.length_append]
    have h1 := ih (by omega)
    have h2 := lab_size D ws[j] (h _ (List.getElem_mem _))
    have h3 : (lab D ws[j]).data.toList.length = (lab D ws[j]).size := by simp
    omega
/-- The text of a fault. -/
def textOf (D : Int → ByteArray) (ws : List (Bool × Int)) (k : Int) : ByteArray := ⟨(labs D ws ++ (nameV k).data.toList).toArray⟩

def TRel (D : Int → ByteArray) (ws : List (Bool × Int)) (w1 : World) (i : Value) (wr : World) : Prop :=
  ∃ j : Nat, j ≤ ws.length ∧ i = .int .i64 j ∧ IsB w1.heap.size w1.heap.size (Lib.byteCells (labs D (ws.take j))) wr ∧ Below w1.heap.size w1 wr ∧ w1.heap.size ≤ wr.heap.size
set_option maxRecDepth 4000 in
set_option maxHeartbeats 1600000 in
theorem text_any (D : Int → ByteArray) (x : Value) (ws : List (Bool × Int)) (k : Nat) (w : World) (hn : Names w) (hD : ∀ p ∈ ws, Digits D p.2) (h : IsFault w x ws k) (hw : ws.length ≤ 1000000) (hk1 : 1 ≤ k) (hk2 : k ≤ 18) :
    Calls Tryz.prog 16 #[x] w fun e w' => e = .returned (.string (textOf D ws k)) ∧ Below w.heap.size w w' := by
  obtain ⟨u, y, rfl⟩ : ∃ u y, x = .iface u y := by
    cases ws with
    | nil => exact ⟨_, _, h⟩
    | cons a ws => obtain ⟨g, y, e, _⟩ := h; exact ⟨_, _, e⟩
  have H := Lib.hid h
  have HW := Lib.hid hw
  have HN := Lib.hid hn
  have HD := Lib.hid hD
  have HK1 := Lib.hid hk1
  have HK2 := Lib.hid hk2
  clear h hw hn hD hk1 hk2
  go_enter Tryz.func16, Tryz.ntmps16
  go_wp2_with fail
  refine (parts_any _ ws k _ H.out HW.out).mono ?_
  rintro e w1 ⟨l, gs, rfl, hgs, hown, hb1⟩
  obtain ⟨A, cap, rfl, hcap, hptr⟩ := owns_ptrs hown
  have hlen := hgs.length
  have HGS := Lib.hid (hgs.kept hb1)
  have HP := Lib.hid hptr
  have HL := Lib.hid hlen
  have HB1 := Lib.hid hb1
  have HN1 := Lib.hid (HN.out.kept hb1)
  have hn9 : ((gs.length : Nat) : Int) ≤ 1000000 := by have := HW.out; omega
  clear hgs hown hb1 hptr hlen H
  go_wp2_with fail
  go_loopw [17] (fun i wr => TRel D ws w1 i wr) (fun i _ => ws.length - (intOf i).toNat)
  case atStart => exact ⟨0, Nat.zero_le _, rfl, fresh_any w1, (Below.refl _ _).alloc (Nat.le_refl _) _, by simp⟩
  case round =>
    obtain ⟨j, hj, rfl, hbl, hbr, hsz⟩ := hrel
    have HBL := Lib.hid hbl
    have HBR := Lib.hid hbr
    have HSZ := Lib.hid hsz
    clear hbl hbr hsz
    by_cases hlt : j < ws.length
    · have hjl : j < gs.length := by have := HL.out; omega
      obtain ⟨r, hA, hc0⟩ := HP.out j hjl
      subst hA
      obtain ⟨yy, hg0⟩ := HGS.out.get j hlt hjl
      obtain ⟨g, hgg⟩ : ∃ g, gs[j] = g := ⟨_, rfl⟩
      obtain ⟨p, hpp⟩ : ∃ p, ws[j] = p := ⟨_, rfl⟩
      have hDp : Digits D p.2 := by rw [← hpp]; exact HD.out _ (List.getElem_mem _)
      rw [hgg, hpp] at hg0
      rw [hgg] at hc0
      have hc1 : wr.cell? ⟨r, j, none⟩ = some (.pointer (some ⟨g, 0, none⟩)) := (HBR.out.cell (Go.block_lt_of_cell hc0)).trans hc0
      have HG : Hid (wr.heap[g]? = some (.cells #[.bool p.1, .int .i64 p.2, yy] 69 (0, 0))) := (HBR.out.block _ (lt_of_block hg0)).trans hg0
      have HSN : Hid (labs D (ws.take (j + 1)) = labs D (ws.take j) ++ (lab D p).data.toList) := by show _ = _; rw [labs_snoc D ws j hlt, hpp]
      have HLE : Hid ((labs D (ws.take j)).length ≤ 30 * j) := labs_len D ws (fun q hq => (HD.out q hq).1) j (by omega)
      have HLS : Hid ((lab D (p.1, p.2)).size ≤ 30) := lab_size D p hDp.1
      have HDP := Lib.hid hDp
      have HLT := Lib.hid hlt
      have HJL := Lib.hid hjl
      have hji : (j : Int) < (gs.length : Int) := by omega
      have hj9 : (j : Int) ≤ 1000000 := by omega
      clear hgg hpp hc0 hg0 hj hlt hDp hjl
      go_wp2_with fail
      refine (label_any D g p.1 p.2 yy _ HDP.out HG.out).mono ?_
      rintro e w2 ⟨rfl, hb2⟩
      have hbl2 : IsB w1.heap.size w1.heap.size (Lib.byteCells (labs D (ws.take j))) w2 := isb_kept HBL.out hb2
      go_wp2_with fail
      refine (write_any w1.heap.size w1.heap.size _ (lab D (p.1, p.2)) _ hbl2 (by rw [Lib.byteCells_length]; have := HLE.out; have := HLS.out; have := HW.out; have := HLT.out; omega) (by have := HSZ.out; have := hb2.size; omega)).mono ?_
      rintro e w3 ⟨rfl, hbl3, hb3⟩
      have HBL3 : Hid (IsB w1.heap.size w1.heap.size (Lib.byteCells (labs D (ws.take (j + 1)))) w3) := by
        show IsB _ _ _ _
        rw [HSN.out, Lib.byteCells_append, ← Lib.strCells_eq]
        exact .inr hbl3
      have HBR3 : Hid (Below w1.heap.size w1 w3) := HBR.out.trans ((hb2.mono HSZ.out).trans hb3)
      have HSZ3 : Hid (w1.heap.size ≤ w3.heap.size) := by have := HSZ.out; have := hb2.size; have := hb3.size; show _ ≤ _; omega
      clear hbl2 hb2 hbl3 hb3
      go_wp2
      go_roundw
      case rel => exact ⟨j + 1, by have := HLT.out; omega, by go_num, HBL3.out, HBR3.out, HSZ3.out⟩
      case measure => have := HLT.out; simp [intOf]; omega
    · obtain rfl : j = ws.length := by omega
      have HLE : Hid ((labs D (ws.take ws.length)).length ≤ 30 * ws.length) := labs_len D ws (fun q hq => (HD.out q hq).1) _ (Nat.le_refl _)
      have HNM : Hid (∀ w, Names w → Calls Tryz.prog 31 #[.int .i64 k] w fun e w' => e = .returned (.string (nameV k)) ∧ w = w') := fun w hn => name_any k (by have := HK2.out; omega) w hn
      have HNS : Hid ((nameV k).size ≤ 9) := by
        show _ ≤ _
        have h1 := HK1.out; have h2 := HK2.out
        unfold nameV; rw [if_pos (by omega)]; exact nm_le (by simpa using (by omega : k < 19))
      have hnl : ¬ (ws.length < gs.length) := by have := HL.out; omega
      have hjj : ((ws.length : Nat) : Int) = ((gs.length : Nat) : Int) := by have := HL.out; omega
      have tl : decide (ws.length < gs.length) = false := decide_eq_false hnl
      clear hj hlt hjj
      go_wp2_with fail
      refine (HNM.out _ (HN1.out.kept HBR.out)).mono ?_
      rintro e w2 ⟨rfl, rfl⟩
      go_wp2_with fail
      refine (write_any w1.heap.size w1.heap.size _ (nameV k) _ HBL.out (by rw [Lib.byteCells_length]; have := HLE.out; have := HNS.out; have := HW.out; omega) HSZ.out).mono ?_
      rintro e w3 ⟨rfl, hbl3, hb3⟩
      have HBL3 : Hid (IsB w1.heap.size w1.heap.size (Lib.byteCells (labs D ws ++ (nameV k).data.toList)) w3) := by
        show IsB _ _ _ _
        rw [Lib.byteCells_append, ← Lib.strCells_eq]
        have := hbl3
        rw [List.take_length] at this
        exact .inr this
      have HNE : Hid (labs D ws ++ (nameV k).data.toList ≠ []) := by
        show _ ≠ _
        intro e0
        have h1 := HK1.out; have h2 := HK2.out
        have e1 := (List.append_eq_nil_iff.1 e0).2
        have := nm_some h1 h2
        have e2 : nameV k = nm k := by unfold nameV; rw [if_pos (by omega)]; rfl
        rw [e2] at e1
        rw [toList_data, e1] at this
        simp at this
      have HBEL : Hid (Below w.heap.size w w3) := (HB1.out.trans (HBR.out.mono HB1.out.size)).trans (hb3.mono HB1.out.size)
      have HSZ3 : Hid (w1.heap.size ≤ w3.heap.size) := by have := HSZ.out; have := hb3.size; show _ ≤ _; omega
      clear hbl3 hb3
      go_wp2_with fail
      refine (string_any w1.heap.size w1.heap.size _ _ HBL3.out HNE.out).mono ?_
      rintro e w4 ⟨rfl, hb4⟩
      go_wp2
      go_ret
      exact ⟨rfl, HBEL.out.trans (hb4.mono HB1.out.size)⟩
end Go.Proofs.YtmcmmbkodllpkaaGreatDoor.Flt
namespace Go.Proofs.YtmcmmbkodllpkaaGreatDoor.Flt

open Go.RowKit Go.PlainAid Go.Proofs.YtmcmmbkodllpkaaGreatDoor.Bld

set_option linter.unusedVariables false

def DigitsAt (D : Int → ByteArray) (n : Int) (w0 : World) : Prop := (D n).size ≤ 20 ∧ ∀ w : World, Below w0.heap.size w0 w → Calls Tryz.prog 48 #[.int .i64 n] w fun e w' => e = .returned (.string (D n)) ∧ Below w.heap.size w w'
theorem label_at (D : Int → ByteArray) (g : Nat) (b : Bool) (n : Int) (y : Value) (w : World) (w0 : World) (hD : DigitsAt D n w0) (hw0 : Below w0.heap.size w0 w) (h : w.heap[g]? = some (.cells #[.bool b, .int .i64 n, y] 69 (0, 0))) :
    Calls Tryz.prog 30 #[.pointer (some ⟨g, 0, none⟩)] w fun e w' => e = .returned (.string (lab D (b, n))) ∧ Below w.heap.size w w' := by
  have hc0 : w.cell? ⟨g, 0, none⟩ = some (.bool b) := by rw [cell_of_row w _ _ _ _ _ h]; rfl
  have hc1 : w.cell? ⟨g, 1, none⟩ = some (.int .i64 n) := by rw [cell_of_row w _ _ _ _ _ h]; rfl
  have hs := hD.1
  have HD := Lib.hid hD.2
  have HW0 := Lib.hid hw0
  obtain ⟨X, hX⟩ : ∃ X, D n = X := ⟨_, rfl⟩
  unfold lab
  rw [hX] at hs HD ⊢
  clear h hX hD hw0
  cases b with
  | true =>
    go_enter Tryz.func30, Tryz.ntmps30
    go_wp2_with (go_at_call 48; refine (HD.out _ (by first | exact HW0.out | exact HW0.out.trans ⟨rfl, rfl, rfl, Nat.le_refl _, fun _ _ => rfl⟩)).mono ?_; rintro e w' ⟨rfl, hb⟩)
    go_ret
    exact ⟨rfl, hb⟩
  | false =>
    go_enter Tryz.func30, Tryz.ntmps30
    go_wp2_with (go_at_call 48; refine (HD.out _ (by first | exact HW0.out | exact HW0.out.trans ⟨rfl, rfl, rfl, Nat.le_refl _, fun _ _ => rfl⟩)).mono ?_; rintro e w' ⟨rfl, hb⟩)
    go_ret
    exact ⟨rfl, hb⟩

set_option maxRecDepth 4000 in
set_option maxHeartbeats 1600000 in
theorem text_at (D : Int → ByteArray) (x : Value) (ws : List (Bool × Int)) (k : Nat) (w : World) (hn : Names w) (hD : ∀ p ∈ ws, DigitsAt D p.2 w) (h : IsFault w x ws k) (hw : ws.length ≤ 1000000) (hk1 : 1 ≤ k) (hk2 : k ≤ 18) :
    Calls Tryz.prog 16 #[x] w fun e w' => e = .returned (.string (textOf D ws k)) ∧ Below w.heap.size w w' := by
  obtain ⟨u, y, rfl⟩ : ∃ u y, x = .iface u y := by
    cases ws with
    | nil => exact ⟨_, _, h⟩
    | cons a ws => obtain ⟨g, y, e, _⟩ := h; exact ⟨_, _, e⟩
  have H := Lib.hid h
  have HW := Lib.hid hw
  have HN := Lib.hid hn
  have HD := Lib.hid hD
  have HK1 := Lib.hid hk1
  have HK2 := Lib.hid hk2
  clear h hw hn hD hk1 hk2
  go_enter Tryz.func16, Tryz.ntmps16
  go_wp2_with fail
  refine (parts_any _ ws k _ H.out HW.out).mono ?_
  rintro e w1 ⟨l, gs, rfl, hgs, hown, hb1⟩
  obtain ⟨A, cap, rfl, hcap, hptr⟩ := owns_ptrs hown
  have hlen := hgs.length
  have HGS := Lib.hid (hgs.kept hb1)
  have HP := Lib.hid hptr
  have HL := Lib.hid hlen
  have HB1 := Lib.hid hb1
  have HN1 := Lib.hid (HN.out.kept hb1)
  have hn9 : ((gs.length : Nat) : Int) ≤ 1000000 := by have := HW.out; omega
  clear hgs hown hb1 hptr hlen H
  go_wp2_with fail
  go_loopw [17] (fun i wr => TRel D ws w1 i wr) (fun i _ => ws.length - (intOf i).toNat)
  case atStart => exact ⟨0, Nat.zero_le _, rfl, fresh_any w1, (Below.refl _ _).alloc (Nat.le_refl _) _, by simp⟩
  case round =>
    obtain ⟨j, hj, rfl, hbl, hbr, hsz⟩ := hrel
    have HBL := Lib.hid hbl
    have HBR := Lib.hid hbr
    have HSZ := Lib.hid hsz
    clear hbl hbr hsz
    by_cases hlt : j < ws.length
    · have hjl : j < gs.length := by have := HL.out; omega
      obtain ⟨r, hA, hc0⟩ := HP.out j hjl
      subst hA
      obtain ⟨yy, hg0⟩ := HGS.out.get j hlt hjl
      obtain ⟨g, hgg⟩ : ∃ g, gs[j] = g := ⟨_, rfl⟩
      obtain ⟨p, hpp⟩ : ∃ p, ws[j] = p := ⟨_, rfl⟩
      have hDp : DigitsAt D p.2 w := by rw [← hpp]; exact HD.out _ (List.getElem_mem _)
      rw [hgg, hpp] at hg0
      rw [hgg] at hc0
      have hc1 : wr.cell? ⟨r, j, none⟩ = some (.pointer (some ⟨g, 0, none⟩)) := (HBR.out.cell (Go.block_lt_of_cell hc0)).trans hc0
      have HG : Hid (wr.heap[g]? = some (.cells #[.bool p.1, .int .i64 p.2, yy] 69 (0, 0))) := (HBR.out.block _ (lt_of_block hg0)).trans hg0
      have HSN : Hid (labs D (ws.take (j + 1)) = labs D (ws.take j) ++ (lab D p).data.toList) := by show _ = _; rw [labs_snoc D ws j hlt, hpp]
      have HLE : Hid ((labs D (ws.take j)).length ≤ 30 * j) := labs_len D ws (fun q hq => (HD.out q hq).1) j (by omega)
      have HLS : Hid ((lab D (p.1, p.2)).size ≤ 30) := lab_size D p hDp.1
      have HDP := Lib.hid hDp
      have HLT := Lib.hid hlt
      have HJL := Lib.hid hjl
      have hji : (j : Int) < (gs.length : Int) := by omega
      have hj9 : (j : Int) ≤ 1000000 := by omega
      clear hgg hpp hc0 hg0 hj hlt hDp hjl
      go_wp2_with fail
      refine (label_at D g p.1 p.2 yy _ w HDP.out (HB1.out.trans (HBR.out.mono HB1.out.size)) HG.out).mono ?_
      rintro e w2 ⟨rfl, hb2⟩
      have hbl2 : IsB w1.heap.size w1.heap.size (Lib.byteCells (labs D (ws.take j))) w2 := isb_kept HBL.out hb2
      go_wp2_with fail
      refine (write_any w1.heap.size w1.heap.size _ (lab D (p.1, p.2)) _ hbl2 (by rw [Lib.byteCells_length]; have := HLE.out; have := HLS.out; have := HW.out; have := HLT.out; omega) (by have := HSZ.out; have := hb2.size; omega)).mono ?_
      rintro e w3 ⟨rfl, hbl3, hb3⟩
      have HBL3 : Hid (IsB w1.heap.size w1.heap.size (Lib.byteCells (labs D (ws.take (j + 1)))) w3) := by
        show IsB _ _ _ _
        rw [HSN.out, Lib.byteCells_append, ← Lib.strCells_eq]
        exact .inr hbl3
      have HBR3 : Hid (Below w1.heap.size w1 w3) := HBR.out.trans ((hb2.mono HSZ.out).trans hb3)
      have HSZ3 : Hid (w1.heap.size ≤ w3.heap.size) := by have := HSZ.out; have := hb2.size; have := hb3.size; show _ ≤ _; omega
      clear hbl2 hb2 hbl3 hb3
      go_wp2
      go_roundw
      case rel => exact ⟨j + 1, by have := HLT.out; omega, by go_num, HBL3.out, HBR3.out, HSZ3.out⟩
      case measure => have := HLT.out; simp [intOf]; omega
    · obtain rfl : j = ws.length := by omega
      have HLE : Hid ((labs D (ws.take ws.length)).length ≤ 30 * ws.length) := labs_len D ws (fun q hq => (HD.out q hq).1) _ (Nat.le_refl _)
      have HNM : Hid (∀ w, Names w → Calls Tryz.prog 31 #[.int .i64 k] w fun e w' => e = .returned (.string (nameV k)) ∧ w = w') := fun w hn => name_any k (by have := HK2.out; omega) w hn
      have HNS : Hid ((nameV k).size ≤ 9) := by
        show _ ≤ _
        have h1 := HK1.out; have h2 := HK2.out
        unfold nameV; rw [if_pos (by omega)]; exact nm_le (by simpa using (by omega : k < 19))
      have hnl : ¬ (ws.length < gs.length) := by have := HL.out; omega
      have hjj : ((ws.length : Nat) : Int) = ((gs.length : Nat) : Int) := by have := HL.out; omega
      have tl : decide (ws.length < gs.length) = false := decide_eq_false hnl
      clear hj hlt hjj
      go_wp2_with fail
      refine (HNM.out _ (HN1.out.kept HBR.out)).mono ?_
      rintro e w2 ⟨rfl, rfl⟩
      go_wp2_with fail
      refine (write_any w1.heap.size w1.heap.size _ (nameV k) _ HBL.out (by rw [Lib.byteCells_length]; have := HLE.out; have := HNS.out; have := HW.out; omega) HSZ.out).mono ?_
      rintro e w3 ⟨rfl, hbl3, hb3⟩
      have HBL3 : Hid (IsB w1.heap.size w1.heap.size (Lib.byteCells (labs D ws ++ (nameV k).data.toList)) w3) := by
        show IsB _ _ _ _
        rw [Lib.byteCells_append, ← Lib.strCells_eq]
        have := hbl3
        rw [List.take_length] at this
        exact .inr this
      have HNE : Hid (labs D ws ++ (nameV k).data.toList ≠ []) := by
        show _ ≠ _
        intro e0
        have h1 := HK1.out; have h2 := HK2.out
        have e1 := (List.append_eq_nil_iff.1 e0).2
        have := nm_some h1 h2
        have e2 : nameV k = nm k := by unfold nameV; rw [if_pos (by omega)]; rfl
        rw [e2] at e1
        rw [toList_data, e1] at this
        simp at this
      have HBEL : Hid (Below w.heap.size w w3) := (HB1.out.trans (HBR.out.mono HB1.out.size)).trans (hb3.mono HB1.out.size)
      have HSZ3 : Hid (w1.heap.size ≤ w3.heap.size) := by have := HSZ.out; have := hb3.size; show _ ≤ _; omega
      clear hbl3 hb3
      go_wp2_with fail
      refine (string_any w1.heap.size w1.heap.size _ _ HBL3.out HNE.out).mono ?_
      rintro e w4 ⟨rfl, hb4⟩
      go_wp2
      go_ret
      exact ⟨rfl, HBEL.out.trans (hb4.mono HB1.out.size)⟩
end Go.Proofs.YtmcmmbkodllpkaaGreatDoor.Flt
namespace Go.Proofs.YtmcmmbkodllpkaaGreatDoor.Flt

open Go.RowKit Go.PlainAid

set_option linter.unusedVariables false

set_option linter.unusedSimpArgs false

def secB : ByteArray := ⟨#[115, 101, 99, 116, 105, 111, 110, 32]⟩
def atB : ByteArray := ⟨#[97, 116, 32]⟩
def colB : ByteArray := ⟨#[58, 32]⟩
theorem text_nil' (D : Int → ByteArray) (k : Int) : textOf D [] k = nameV k := by
  unfold textOf labs
  simp
theorem text_cons (D : Int → ByteArray) (p : Bool × Int) (ws : List (Bool × Int)) (k : Int) : textOf D (p :: ws) k = lab D p ++ textOf D ws k := by
  unfold textOf labs
  apply ByteArray.ext
  simp [ByteArray.data_append]
theorem lab_sec (D : Int → ByteArray) (n : Int) : lab D (true, n) = secB ++ D n ++ colB := rfl
theorem lab_at (D : Int → ByteArray) (n : Int) : lab D (false, n) = atB ++ D n ++ colB := rfl
theorem text_one (D : Int → ByteArray) (n k : Int) : textOf D [(true, n)] k = secB ++ D n ++ colB ++ nameV k := by rw [text_cons, text_nil', lab_sec]
theorem text_two (D : Int → ByteArray) (n i k : Int) : textOf D [(true, n), (false, i)] k = secB ++ D n ++ colB ++ atB ++ D i ++ colB ++ nameV k := by
  rw [text_cons, text_cons, text_nil', lab_sec, lab_at]
  simp only [ByteArray.append_assoc]
theorem text_three (D : Int → ByteArray) (n i j k : Int) : textOf D [(true, n), (false, i), (false, j)] k = secB ++ D n ++ colB ++ atB ++ D i ++ colB ++ (atB ++ D j ++ colB ++ nameV k) := by
  rw [text_cons, text_cons, text_cons, text_nil', lab_sec, lab_at, lab_at]
  simp only [ByteArray.append_assoc]
theorem one_ne (X N D0 : ByteArray) : X ++ N ≠ X ++ atB ++ D0 ++ colB ++ N := by
  intro h
  have h2 := congrArg ByteArray.size h
  simp only [ByteArray.size_append] at h2
  have h3 : atB.size = 3 := rfl
  omega
end Go.Proofs.YtmcmmbkodllpkaaGreatDoor.Flt
namespace Go.Proofs.YtmcmmbkodllpkaaGreatDoor.Nam

open Go.RowKit Go.PlainAid Go.Proofs.YtmcmmbkodllpkaaGreatDoor.Oct

set_option linter.unusedVariables false

def tens : ByteArray := ⟨#[48, 49, 50, 51, 52, 53, 54, 55, 56, 57]⟩
theorem tens_at : ∀ r : Fin 10, tens.extract r (r + 1) = ⟨#[UInt8.ofNat (48 + r)]⟩ := by decide +kernel
/-- A number's decimal digits. -/
def decB (n : Nat) : ByteArray := ⟨(Lib.decDigits n).toArray⟩
theorem dec_len (n : Nat) : (Lib.decDigits n).length ≤ n + 1 := by
  induction n using Nat.strongRecOn with
  | _ n ih =>
    rw [Lib.decDigits]
    split
    · simp
    · rw [List.length_append]
      have := ih (n / 10) (by omega)
      simp; omega
theorem decB_size (n : Nat) : (decB n).size = (Lib.decDigits n).length := by show (Lib.decDigits n).toArray.size = _; simp
theorem decB_small {n : Nat} (h : n < 10) : decB n = ⟨#[UInt8.ofNat (48 + n)]⟩ := by unfold decB; rw [Lib.decDigits_one h]
theorem decB_big {n : Nat} (h : ¬ n < 10) : decB n = decB (n / 10) ++ ⟨#[UInt8.ofNat (48 + n % 10)]⟩ := by
  unfold decB
  rw [Lib.decDigits, dif_neg h]
  apply ByteArray.ext
  rw [ByteArray.data_append]
  simp
def QPost (x : ByteArray) (w : World) (e : Ending) (w' : World) : Prop := e = .returned (.string x) ∧ ∃ n, w' = w.drewN n
theorem slice_ten (r : Nat) (h : r < 10) (w : World) : (Instr.slice 9 (.string tens) (some (.int .i64 r)) (some (.int .i64 ((r : Int) + 1))) none).run Tryz.prog w = .ok (.string ⟨#[UInt8.ofNat (48 + r)]⟩) w := by
  have hs : (tens.size : Int) = 10 := rfl
  rw [run_slice_string w 9 tens .i64 .i64 _ _ Tryz.underlying9 (by omega) (by omega) (by omega)]
  have := tens_at ⟨r, h⟩
  rw [← this]
  congr 3
set_option maxHeartbeats 400000 in
theorem digits_any : ∀ (n : Nat), n ≤ 9223372036854775807 → ∀ w : World, Calls Tryz.prog 37 #[.int .i64 n] w (QPost (decB n) w) := by
  intro n
  induction n using Nat.strongRecOn with
  | _ n ih =>
    intro hn w
    by_cases h : n < 10
    · have hsl := slice_ten n h
      rw [decB_small h]
      have t0 : decide ((n : Int) < 0) = false := decide_eq_false (by omega)
      have t1 : decide ((n : Int) < 10) = true := decide_eq_true (by omega)
      have t2 : decide (n < 10) = true := decide_eq_true h
      have hb : (n : Int) ≤ 9 := by omega
      obtain ⟨X, hX⟩ : ∃ X : ByteArray, (⟨#[UInt8.ofNat (48 + n)]⟩ : ByteArray) = X := ⟨_, rfl⟩
      rw [hX] at hsl ⊢
      unfold tens at hsl
      clear ih hn h hX
      go_enter Tryz.func37, Tryz.ntmps37
      go_wp2
      go_ret
      exact ⟨rfl, 0, rfl⟩
    · obtain ⟨q, hq⟩ : ∃ q, n / 10 = q := ⟨_, rfl⟩
      obtain ⟨r, hr⟩ : ∃ r, n % 10 = r := ⟨_, rfl⟩
      have hr10 : r < 10 := by omega
      have hsl := slice_ten r hr10
      have hrec : Hid (∀ w : World, Calls Tryz.prog 37 #[.int .i64 q] w (QPost (decB q) w)) := ih q (by omega) (by omega)
      have hlen := dec_len q
      rw [← decB_size] at hlen
      rw [decB_big h, hq, hr]
      obtain ⟨X, hX⟩ : ∃ X : ByteArray, (⟨#[UInt8.ofNat (48 + r)]⟩ : ByteArray) = X := ⟨_, rfl⟩
      have hXs : X.size = 1 := by rw [← hX]; rfl
      obtain ⟨Y, hY⟩ : ∃ Y : ByteArray, decB q = Y := ⟨_, rfl⟩
      rw [hX] at hsl ⊢
      rw [hY] at hrec hlen ⊢
      have hsum : ¬ 9223372036854775807 < Y.size + X.size := by omega
      have t0 : decide ((n : Int) < 0) = false := decide_eq_false (by omega)
      have t1 : decide ((n : Int) < 10) = false := decide_eq_false (by omega)
      have t2 : decide (n < 10) = false := decide_eq_false h
      have d1 : (n : Int) / 10 = (q : Int) := by omega
      have d2 : (n : Int) % 10 = (r : Int) := by omega
      have d3 : (n : Int).tdiv 10 = (q : Int) := by rw [Int.tdiv_eq_ediv_of_nonneg (by omega)]; exact d1
      have d4 : (n : Int).tmod 10 = (r : Int) := by rw [Int.tmod_eq_emod_of_nonneg (by omega)]; exact d2
      have d5 : IntKind.i64.wrap (q : Int) = (q : Int) := by rw [IntKind.wrap_i64]; omega
      have d6 : IntKind.i64.wrap (r : Int) = (r : Int) := by rw [IntKind.wrap_i64]; omega
      have d7 : IntKind.i64.wrap ((r : Int) + 1) = (r : Int) + 1 := by rw [IntKind.wrap_i64]; omega
      unfold tens at hsl
      clear ih hn h hX hY hXs hlen hq hr hr10
      go_enter Tryz.func37, Tryz.ntmps37
      go_wp2_with fail
      go_quiet ((go_at_call 37; exact Calls.quiet_of (hrec.out _)))
      go_wp2
      go_ret
      exact ⟨rfl, _, rfl⟩
theorem rdigits_any (n : Nat) (hn : n ≤ 9223372036854775807) (w : World) : Calls Tryz.prog 19 #[.int .i64 n] w fun e w' => e = .returned (.string (decB n)) ∧ Below w.heap.size w w' := by
  have H := Lib.hid (digits_any n hn)
  obtain ⟨X, hX⟩ : ∃ X, decB n = X := ⟨_, rfl⟩
  rw [hX] at H ⊢
  clear hX hn
  go_enter Tryz.func19, Tryz.ntmps19
  go_wp2_with (go_at_call 37; refine (H.out _).mono ?_; rintro e w' ⟨rfl, m, rfl⟩)
  go_ret
  exact ⟨rfl, rfl, rfl, rfl, Nat.le_refl _, fun _ _ => rfl⟩

abbrev Tab (w : World) : Prop := Lib.TabIs Tryz.prog w "internal/strconv.uint64pow10" .u64 Lib.pow10Tab
theorem tab_kept {w w' : World} (h : Tab w) (b : Below w.heap.size w w') : Tab w' := by
  unfold Tab Lib.TabIs at h ⊢
  rw [← h]
  have hg : ∀ g, Tryz.prog.globalNamed "internal/strconv.uint64pow10" = some g → w'.heap[g]? = w.heap[g]? := by
    intro g hg
    unfold World.var? at h
    rw [hg] at h
    refine b.block g ?_
    rcases Nat.lt_or_ge g w.heap.size with hlt | hge
    · exact hlt
    · simp [Array.getElem?_eq_none hge] at h
  unfold World.var?
  cases hh : Tryz.prog.globalNamed "internal/strconv.uint64pow10" with
  | none => rfl
  | some g =>
    show (match w'.heap[g]? with | some (.cells cs _ _) => some cs | _ => none) = (match w.heap[g]? with | some (.cells cs _ _) => some cs | _ => none)
    rw [hg g hh]
theorem itoa_any (n : Nat) (hn : n ≤ 9223372036854775807) (w : World) (ht : Tab w) : Calls Tryz.prog 48 #[.int .i64 n] w fun e w' => e = .returned (.string (decB n)) ∧ Below w.heap.size w w' := by
  refine (Tryz.strconv_Itoa (n : Int) (by omega) (by omega) w ht).mono ?_
  rintro e w' ⟨rfl, k, os, rfl⟩
  rw [Lib.itoa_nonneg]
  refine ⟨rfl, rfl, rfl, rfl, ?_, fun i hi => ?_⟩
  · show w.heap.size ≤ (w.heap ++ os).size
    simp
  · show (w.heap ++ os)[i]? = w.heap[i]?
    exact Array.getElem?_append_left hi
end Go.Proofs.YtmcmmbkodllpkaaGreatDoor.Nam
namespace Go.Proofs.YtmcmmbkodllpkaaGreatDoor.Chk

open Go.RowKit Go.PlainAid Go.Proofs.YtmcmmbkodllpkaaGreatDoor.Flt Go.Proofs.YtmcmmbkodllpkaaGreatDoor.Nam

set_option linter.unusedVariables false

set_option linter.unusedSimpArgs false

def DD (n : Int) : ByteArray := decB n.toNat
theorem nd_pow' (u k : Nat) (h : u < 10 ^ (k + 1)) : Lib.nDigits u ≤ k + 1 := by
  induction k generalizing u with
  | zero => rw [Lib.nDigits_small (by simpa using h)]; omega
  | succ k ih =>
    rw [Lib.nDigits]
    split
    · omega
    · have := ih (u / 10) (by rw [Nat.pow_succ] at h; omega)
      omega
theorem dd_size {n : Int} (h : IxOk n) : (DD n).size ≤ 20 := by
  unfold DD
  rw [decB_size, Lib.decDigits_length]
  exact nd_pow' _ 19 (by have := h.2; omega)
theorem dd_digits {n : Int} (h : IxOk n) (w : World) : Calls Tryz.prog 19 #[.int .i64 n] w fun e w' => e = .returned (.string (DD n)) ∧ Below w.heap.size w w' := by
  obtain ⟨m, rfl⟩ := Int.eq_ofNat_of_zero_le h.1
  exact rdigits_any m (by have := h.2; omega) w
theorem dd_at {n : Int} (h : IxOk n) {w : World} (ht : Tab w) : DigitsAt DD n w := by
  refine ⟨dd_size h, fun W b => ?_⟩
  obtain ⟨m, rfl⟩ := Int.eq_ofNat_of_zero_le h.1
  exact itoa_any m (by have := h.2; omega) W (tab_kept ht b)
theorem text_none (w : World) : Calls Tryz.prog 16 #[.nilIface] w fun e w' => e = .returned (.string ⟨#[]⟩) ∧ Below w.heap.size w w' := by
  go_enter Tryz.func16, Tryz.ntmps16
  go_wp2
  go_ret
  exact ⟨rfl, Below.refl _ _⟩
end Go.Proofs.YtmcmmbkodllpkaaGreatDoor.Chk
