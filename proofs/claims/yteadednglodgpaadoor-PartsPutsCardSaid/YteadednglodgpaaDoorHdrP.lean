
/- What package header's Put lays behind bytes. Condition: the variables hold what the program lays there; at most 2 to the power 30 bytes come in. -/

import Derived.Test.YteadednglodgpaaDoorHdrC

import Derived.Test.YteadednglodgpaaDoorByt

import Derived.IntWalk

import Derived.Lib.SlBytesConst

namespace Go.Proofs.YteadednglodgpaaDoor.Hdr

open Go.RowKit Go.PlainAid Go.Proofs.YteadednglodgpaaDoor.Oct Go.Proofs.YteadednglodgpaaDoor.Flt Go.Proofs.YteadednglodgpaaDoor.Rdr Go.Proofs.YteadednglodgpaaDoor.Byt

set_option linter.unusedVariables false

set_option linter.unusedSimpArgs false

theorem owns_base {w : World} {B B' n : Nat} {v : Value} {xs : List Value} (h : w.ownsRow B 5 1 v n xs) (hb : B' ≤ B) : w.ownsRow B' 5 1 v n xs := by
  obtain ⟨e1, e2⟩ := h
  refine ⟨e1, ?_⟩
  rcases e2 with h | ⟨g, c, cur, h1, h2, h3⟩
  · exact .inl h
  · exact .inr ⟨g, c, cur, h1, Nat.le_trans hb h2, h3⟩
/-- What Put hands back where something is wrong. -/
def HNo (h : H7) (w : World) (n : Nat) (xs : List Int) (e : Ending) (w' : World) : Prop :=
  ∃ V x, e = .returned (.tuple #[V, x]) ∧ w'.ownsRow w.heap.size 5 1 V n (xs.map (Value.int .u8)) ∧ Wrong w' x (bad h).1 (sec1 (bad h).1) (bad h).2 ∧ Below w.heap.size w w'
theorem iface_of_wrong {w : World} {x : Value} {k : Nat} {s a : Int} (h : Wrong w x k s a) (hk : k ≠ 0) : ∃ u y, x = .iface u y := by
  rcases h with ⟨h1, _⟩ | ⟨_, _, h3⟩
  · exact absurd h1 hk
  · exact err_of h3
set_option maxRecDepth 8000 in
set_option maxHeartbeats 800000 in
theorem hput_no (h : H7) (hf : Fit h) (hb : (bad h).1 ≠ 0) (A : Option Addr) (len cap : Nat) (xs : List Int) (w : World) (hl : Laid w) (hx : IsBytes w A len xs) (hnil : A = none → len = 0 ∧ cap = 0) (hlen : len ≤ 1073741824) :
    Calls Tryd.prog 8 #[.slice A len cap, .agg (hdC h)] w (HNo h w len xs) := by
  have hb0 : Below w.heap.size w (w.alloc (.cells (hdC h) 26)) := (Below.refl _ _).alloc (Nat.le_refl _) _
  have HB0 := Lib.hid hb0
  have HR := Lib.hid (right_any h hf _ (hl.kept hb0))
  have HROW := Lib.hid (heap_alloc_new w (.cells (hdC h) 26))
  have HX := Lib.hid hx
  have HN := Lib.hid hnil
  have HBAD := Lib.hid hb
  obtain ⟨CS, hCS⟩ : ∃ CS, hdC h = CS := ⟨_, rfl⟩
  have HSZ : Hid (some 7 = some CS.size) := by show _ = _; rw [← hCS]; rfl
  rw [hCS] at HB0 HR HROW
  rw [hCS]
  have HCS := Lib.hid hCS
  clear hb0 hl hx hnil hb hCS hf
  go_enter Tryd.func8, Tryd.ntmps8
  go_wp2_with ((with_reducible show wpList _ _ _ _ _ _); refine wpList_load_row rfl 26 (.tmp 3) rfl w.heap.size rfl 26 CS (0, 0) _ HROW.out Tryd.underlying26 rfl (by rw [size_hd]; exact HSZ.out) ?_)
  refine HR.out.mono ?_
  rintro e w1 ⟨x, rfl, hw, hb1⟩
  obtain ⟨u, y, rfl⟩ := iface_of_wrong hw HBAD.out
  have HW := Lib.hid hw
  have HB1 := Lib.hid (HB0.out.trans (hb1.mono HB0.out.size))
  have HCL := Lib.hid (clone_any A len cap xs w1 (bytes_kept HX.out HB1.out) HN.out (by omega))
  clear hw hb1 HR HROW HSZ
  go_wp2_with (go_at_call 34; refine HCL.out.mono ?_; rintro e w2 ⟨V, rfl, ho, hb2⟩; have HO := Lib.hid ho; have HB2 := Lib.hid hb2; clear ho hb2)
  go_ret2
  exact ⟨V, _, rfl, owns_base HO.out HB1.out.size, HW.out.kept (KeptW.below HB2.out), HB1.out.trans (HB2.out.mono HB1.out.size)⟩
/-- A header's numbers and their sizes, in their order. -/
def fldF (tot ep fi a b c d : Nat) : Nat → Nat × Nat
  | 0 => (tot, 4)
  | 1 => (ep, 8)
  | 2 => (fi, 1)
  | 3 => (a, 1)
  | 4 => (b, 1)
  | 5 => (c, 2)
  | _ => (d, 2)
def accB (F : Nat → Nat × Nat) : Nat → List Int
  | 0 => [67, 87, 77, 49]
  | k + 1 => accB F k ++ low (F k).1 (F k).2
theorem own_bytes {w : World} {B g n c : Nat} {xs : List Int} (h : w.ownsRow B 5 1 (.slice (some ⟨g, 0, none⟩) n c) n (xs.map (Value.int .u8))) : IsBytes w (some ⟨g, 0, none⟩) n xs := by
  have hl : xs.length = n := by have := h.1; simpa using this
  refine ⟨hl, fun _ => ⟨⟨g, 0, none⟩, rfl, fun j v hj => ?_⟩⟩
  have hjn : j < n := by
    rcases Nat.lt_or_ge j (xs.map (Value.int .u8)).length with hh | hh
    · rw [List.length_map] at hh; omega
    · rw [List.getElem?_eq_none hh] at hj; cases hj
  have := h.cellAt j (by omega)
  have e : (Addr.mk g 0 none).add j = ⟨g, j, none⟩ := by cases j <;> simp [Addr.add]
  rw [e, this, hj]
/-- Bytes of the call's own, and no error. -/
def HYes (w : World) (n : Nat) (xs : List Int) (e : Ending) (w' : World) : Prop :=
  ∃ V, e = .returned (.tuple #[V, .nilIface]) ∧ w'.ownsRow w.heap.size 5 1 V n (xs.map (Value.int .u8)) ∧ Below w.heap.size w w'
def PRel (F : Nat → Nat × Nat) (w : World) (v i : Value) (wr : World) : Prop :=
  ∃ k g n c : Nat, k ≤ 7 ∧ i = .int .i64 k ∧ v = .slice (some ⟨g, 0, none⟩) n c ∧ n ≤ 4 + 8 * k ∧ 1 ≤ n ∧ IsBytes wr (some ⟨g, 0, none⟩) n (accB F k) ∧ Below w.heap.size w wr
set_option maxRecDepth 8000 in
set_option maxHeartbeats 3200000 in
theorem hput_nat (tot ep fi a b c d : Nat) (ht : tot ≤ 4294967295) (he : ep ≤ 18446744073709551615) (hfi : fi ≤ 255) (ha : a ≤ 32) (hb : b ≤ 16) (hc : c ≤ 240) (hd : d ≤ 512)
    (A : Option Addr) (len cap : Nat) (xs : List Int) (w : World) (hx : IsBytes w A len xs) (hnil : A = none → len = 0 ∧ cap = 0) (hlen : len ≤ 1073741824)
    (HR : ∀ w1, Below w.heap.size w w1 → Calls Tryd.prog 12 #[.agg #[.int .u32 tot, .int .u64 ep, .int .i64 fi, .int .i64 a, .int .i64 b, .int .i64 c, .int .i64 d]] w1 fun e w' => e = .returned .nilIface ∧ Below w1.heap.size w1 w') :
    Calls Tryd.prog 8 #[.slice A len cap, .agg #[.int .u32 tot, .int .u64 ep, .int .i64 fi, .int .i64 a, .int .i64 b, .int .i64 c, .int .i64 d]] w (HYes w (len + (accB (fldF tot ep fi a b c d) 7).length) (xs ++ accB (fldF tot ep fi a b c d) 7)) := by
  obtain ⟨F, hF⟩ : ∃ F, fldF tot ep fi a b c d = F := ⟨_, rfl⟩
  have hFF := Lib.hid hF
  have hfit : ∀ k, k < 7 → fitB (F k).1 ((F k).2 : Nat) = true ∧ (F k).1 ≤ 18446744073709551615 ∧ 1 ≤ (F k).2 ∧ (F k).2 ≤ 8 := by
    intro k hk
    rw [← hF]
    rcases (show k = 0 ∨ k = 1 ∨ k = 2 ∨ k = 3 ∨ k = 4 ∨ k = 5 ∨ k = 6 by omega) with rfl | rfl | rfl | rfl | rfl | rfl | rfl
    all_goals (simp only [fldF]; refine ⟨?_, by omega, by omega, by omega⟩; unfold fitB; simp; try omega)
  have hidx : ∀ k : Nat, k < 7 → ∀ w, (Instr.index 79 (.agg #[.int .u64 tot, .int .i64 4, .int .u64 ep, .int .i64 8, .int .u64 fi, .int .i64 1, .int .u64 a, .int .i64 1, .int .u64 b, .int .i64 1, .int .u64 c, .int .i64 2, .int .u64 d, .int .i64 2]) (.int .i64 (k : Int))).run Tryd.prog w = .ok (.agg #[.int .u64 (F k).1, .int .i64 ((F k).2 : Nat)]) w := by
    intro k hk w
    rw [← hF]
    rcases (show k = 0 ∨ k = 1 ∨ k = 2 ∨ k = 3 ∨ k = 4 ∨ k = 5 ∨ k = 6 by omega) with rfl | rfl | rfl | rfl | rfl | rfl | rfl
    all_goals kernel_rfl
  have HFIT := Lib.hid hfit
  have HIDX := Lib.hid hidx
  have HX := Lib.hid hx
  have HN := Lib.hid hnil
  have hw1 : IntKind.u64.wrap (tot : Int) = tot := IntWalk.u64_in _ (by omega)
  have hw2 : IntKind.u64.wrap (fi : Int) = fi := IntWalk.u64_in _ (by omega)
  have hw3 : IntKind.u64.wrap (a : Int) = a := IntWalk.u64_in _ (by omega)
  have hw4 : IntKind.u64.wrap (b : Int) = b := IntWalk.u64_in _ (by omega)
  have hw5 : IntKind.u64.wrap (c : Int) = c := IntWalk.u64_in _ (by omega)
  have hw6 : IntKind.u64.wrap (d : Int) = d := IntWalk.u64_in _ (by omega)
  have hb0 : Below w.heap.size w (w.alloc (.cells #[.int .u32 tot, .int .u64 ep, .int .i64 fi, .int .i64 a, .int .i64 b, .int .i64 c, .int .i64 d] 26)) := (Below.refl _ _).alloc (Nat.le_refl _) _
  have HB0 := Lib.hid hb0
  have HR0 := Lib.hid (HR _ hb0)
  have HROW := Lib.hid (heap_alloc_new w (.cells #[.int .u32 tot, .int .u64 ep, .int .i64 fi, .int .i64 a, .int .i64 b, .int .i64 c, .int .i64 d] 26))
  clear hfit hidx hx hnil hF HR hb0 ht he hfi ha hb hc hd
  go_enter Tryd.func8, Tryd.ntmps8
  go_wp2_with ((with_reducible show wpList _ _ _ _ _ _); refine wpList_load_row rfl 26 (.tmp 3) rfl w.heap.size rfl 26 #[.int .u32 tot, .int .u64 ep, .int .i64 fi, .int .i64 a, .int .i64 b, .int .i64 c, .int .i64 d] (0, 0) _ HROW.out Tryd.underlying26 rfl (by rw [size_hd]; rfl) ?_)
  refine HR0.out.mono ?_
  rintro e w1 ⟨rfl, hb1⟩
  have HB1 := Lib.hid (HB0.out.trans (hb1.mono HB0.out.size))
  have hm : w1.heap[w.heap.size]? = some (.cells #[.int .u32 tot, .int .u64 ep, .int .i64 fi, .int .i64 a, .int .i64 b, .int .i64 c, .int .i64 d] 26 (0, 0)) := (hb1.block _ (lt_of_block HROW.out)).trans HROW.out
  have hlt := lt_of_block hm
  clear hb1 HR0
  have c0 := cell_of_row w1 _ 0 _ _ _ hm
  have c1 := cell_of_row w1 _ 1 _ _ _ hm
  have c2 := cell_of_row w1 _ 2 _ _ _ hm
  have c3 := cell_of_row w1 _ 3 _ _ _ hm
  have c4 := cell_of_row w1 _ 4 _ _ _ hm
  have c5 := cell_of_row w1 _ 5 _ _ _ hm
  have c6 := cell_of_row w1 _ 6 _ _ _ hm
  simp only [List.getElem?_toArray, List.getElem?_cons_zero, List.getElem?_cons_succ] at c0 c1 c2 c3 c4 c5 c6
  clear hm
  have hcv := Lib.run_convert_bytes_const (P := Tryd.prog) w1 22 5 #[.int .u8 67, .int .u8 87, .int .u8 77, .int .u8 49] 4 4 underU8 Tryd.underlying5
  simp only [List.size_toArray, List.length_cons, List.length_nil] at hcv
  go_wp2
  have HO1 : Hid (IsBytes (w1.alloc (.cells #[.int .u8 67, .int .u8 87, .int .u8 77, .int .u8 49] 5 (4, 5))) (some ⟨w1.heap.size, 0, none⟩) 4 (accB F 0)) := by
    refine ⟨rfl, fun _ => ⟨_, rfl, fun j v hj => ?_⟩⟩
    have e : (Addr.mk w1.heap.size 0 none).add j = ⟨w1.heap.size, j, none⟩ := by cases j <;> simp [Addr.add]
    rw [e, cell_of_row _ _ _ _ _ _ (heap_alloc_new w1 (.cells #[.int .u8 67, .int .u8 87, .int .u8 77, .int .u8 49] 5 (4, 5))), ← hj]
    simp [accB]
  have HB2 : Hid (Below w.heap.size w (w1.alloc (.cells #[.int .u8 67, .int .u8 87, .int .u8 77, .int .u8 49] 5 (4, 5)))) := HB1.out.alloc HB1.out.size _
  clear c0 c1 c2 c3 c4 c5 c6 hw1 hw2 hw3 hw4 hw5 hw6 hcv
  go_loopw [7, 47] (fun v i wr => PRel F w v i wr) (fun _ i _ => 7 - (intOf i).toNat)
  case atStart => exact ⟨0, w1.heap.size, 4, 4, by omega, rfl, rfl, by omega, by omega, HO1.out, HB2.out⟩
  case round =>
    obtain ⟨k, g, n, c', hk, rfl, rfl, hn, hn1, ho, hbr⟩ := hrel
    have HO := Lib.hid ho
    have HBR := Lib.hid hbr
    have HNN : Hid (n ≤ 4 + 8 * k ∧ 1 ≤ n) := ⟨hn, hn1⟩
    clear HO1 HB2 hn hn1 ho hbr HB0 HROW
    by_cases hlt7 : k < 7
    · have hix := HIDX.out k hlt7
      obtain ⟨f1, f2, f3, f4⟩ := HFIT.out k hlt7
      have hba : ∀ cs, Below wr.heap.size wr (wr.alloc (.cells cs 78)) := fun cs => (Below.refl _ _).alloc (Nat.le_refl _) _
      have HPUT := Lib.hid (fun cs => put_yes (some ⟨g, 0, none⟩) n c' (accB F k) (F k).1 (F k).2 (wr.alloc (.cells cs 78)) (bytes_kept HO.out (hba cs)) (by have := HNN.out; omega) f2 f1)
      have HBA := Lib.hid hba
      have HF2 : Hid ((F k).2 ≤ 8) := f4
      obtain ⟨v, hv⟩ : ∃ v, (F k).1 = v := ⟨_, rfl⟩
      obtain ⟨m, hmm⟩ : ∃ m, (F k).2 = m := ⟨_, rfl⟩
      rw [hv, hmm] at hix HPUT
      rw [hmm] at HF2
      have HV := Lib.hid hv
      have HM := Lib.hid hmm
      clear hba f1 f2 f3 f4 hv hmm
      go_wp2_with (go_at_call 35; refine (HPUT.out _).mono ?_; rintro e w3 ⟨n3, c3, rfl, ho3, hb3⟩)
      have hb4 := HBR.out.trans (((HBA.out _).trans (hb3.mono (HBA.out _).size)).mono HBR.out.size)
      have HB4 := Lib.hid hb4
      have hl3 : n3 = n + m := by have h1 := ho3.1; have h2 := HO.out.1; simp [low_length] at h1 h2; omega
      have hsz : ∀ o, (wr.alloc o).heap.size = wr.heap.size + 1 := fun _ => by simp
      rw [hsz] at ho3
      have HO3 := Lib.hid (own_bytes ho3)
      clear hb3 ho3 hb4 HPUT
      go_roundw
      case rel => exact ⟨k + 1, _, n3, c3, by omega, by go_num, rfl, by have := HNN.out; have := HF2.out; omega, by have := HNN.out; omega, by rw [accB, HV.out, HM.out]; exact HO3.out, HB4.out⟩
      case measure => simp [intOf]; omega
    · obtain rfl : k = 7 := by omega
      have hb5 : ∀ cs, Below wr.heap.size wr (wr.alloc (.cells cs 22)) := fun cs => (Below.refl _ _).alloc (Nat.le_refl _) _
      have hl7 : (accB F 7).length = n := HO.out.1
      have HC := Lib.hid (concat_any wr.heap.size A len cap xs g n c' (accB F 7) (wr.alloc (.cells #[.slice A len cap, .slice (some ⟨g, 0, none⟩) n c'] 22)) (by rw [cell_of_row _ _ _ _ _ _ (heap_alloc_new wr _)]; rfl) (by rw [cell_of_row _ _ _ _ _ _ (heap_alloc_new wr _)]; rfl)
        (bytes_kept HX.out (HBR.out.trans ((hb5 _).mono HBR.out.size))) (bytes_kept HO.out (hb5 _)) HN.out (by omega) (by have := HNN.out; omega) (by have := HNN.out; omega))
      have HB6 := Lib.hid (HBR.out.trans ((hb5 #[.slice A len cap, .slice (some ⟨g, 0, none⟩) n c']).mono HBR.out.size))
      have HL7 := Lib.hid hl7
      have hsz : ∀ o, (wr.alloc o).heap.size = wr.heap.size + 1 := fun _ => by simp
      have HSZ := Lib.hid hsz
      have HFF := Lib.hid hFF.out
      clear hb5 hl7 hsz
      go_wp2_with (go_at_call 36; refine HC.out.mono ?_; rintro e w9 ⟨V, rfl, ho9, hb9⟩; have HO9 := Lib.hid (owns_base ho9 (Nat.le_trans HBR.out.size (by rw [HSZ.out]; omega))); have HB9 := Lib.hid (HB6.out.trans (hb9.mono HB6.out.size)); clear ho9 hb9)
      go_ret2
      exact ⟨V, rfl, by rw [HFF.out, HL7.out]; exact HO9.out, HB9.out⟩
end Go.Proofs.YteadednglodgpaaDoor.Hdr
