
/- Frames: an engine is the document's. Condition: slices have at most the greatest length. -/

import Derived.Test.YtofcjkfaccdnjaaDoorFrmK

namespace Go.Proofs.YtofcjkfaccdnjaaDoor.Frm

open Go.RowKit Go.PlainAid Go.Proofs.YtofcjkfaccdnjaaDoor.Oct Go.Proofs.YtofcjkfaccdnjaaDoor.Flt Go.Proofs.YtofcjkfaccdnjaaDoor.Rdr Go.Proofs.YtofcjkfaccdnjaaDoor.Args Go.Proofs.YtofcjkfaccdnjaaDoor.Win Go.Proofs.YtofcjkfaccdnjaaDoor.Tab Go.Proofs.YtofcjkfaccdnjaaDoor.Clk

open Go.Proofs.YtofcjkfaccdnjaaDoor.Act (A3 actL flatA ActsAt I64 Wide list_of)

open Go.Proofs.YtofcjkfaccdnjaaDoor.Scd (SC scC rgS rgS_in rowB sright09_any ScdAt WideS scheds_of)

set_option linter.unusedVariables false

set_option linter.unusedSimpArgs false

theorem LK.fr60 {w : World} {A : Option Addr} {n : Nat} {l : List SC} {ids : List Int} {Ts : List TR} (h : LK w A n l ids Ts) {X : TR} (hX : X ∈ Ts) : X.fr ≤ 60 := by
  obtain ⟨i, hi, rfl⟩ := List.mem_iff_getElem.1 hX
  have hil : i < l.length := by rw [← h.tl]; exact hi
  have hx : l[i]? = some l[i] := List.getElem?_eq_getElem hil
  have hk := h.like i _ _ hx (List.getElem?_eq_getElem hi)
  have hok := h.ok _ (List.getElem_mem hil)
  have := hok.fr
  have := hk.fr
  omega
/-- An engine, the document's in a box beside it. -/
structure SM (w W : World) (B q mb ck cu : Nat) (T : TR) (t : Nat) (due : Int) (now frames : Nat) (A : Option Addr) (n cap : Nat) (l : List SC) (ids : List Int) (Ts : List TR) : Prop where
  eng : IsE W B q mb ck cu Ts T t due now frames
  lk : LK W A n l ids Ts
  box : W.heap[w.heap.size]? = some (.cells (engC A n cap T.id due t now frames) 41 (0, 0))
  below : Below w.heap.size w W
section

variable {w W W' : World} {B q mb ck cu : Nat} {T : TR} {t : Nat} {due : Int} {now frames : Nat} {A : Option Addr} {n cap : Nat} {l : List SC} {ids : List Int} {Ts : List TR}

theorem SM.keep (f : SM w W B q mb ck cu T t due now frames A n cap l ids Ts) (b : Below W.heap.size W W') : SM w W' B q mb ck cu T t due now frames A n cap l ids Ts :=
  ⟨f.eng.keep b, f.lk.kept b, (b.block _ (lt_of_block f.box)).trans f.box, f.below.trans (b.mono f.below.size)⟩
theorem SM.cells (f : SM w W B q mb ck cu T t due now frames A n cap l ids Ts) :
    W.cell? ⟨w.heap.size, 0, none⟩ = some (.slice A n cap) ∧ W.cell? ⟨w.heap.size, 1, none⟩ = some (.int .i64 T.id) ∧ W.cell? ⟨w.heap.size, 2, none⟩ = some (.int .i64 due) ∧ W.cell? ⟨w.heap.size, 3, none⟩ = some (.int .i64 (t : Int)) ∧ W.cell? ⟨w.heap.size, 4, none⟩ = some (.int .u64 (now : Int)) ∧ W.cell? ⟨w.heap.size, 5, none⟩ = some (.int .u64 (frames : Int)) := by
  refine ⟨?_, ?_, ?_, ?_, ?_, ?_⟩
  all_goals (rw [cell_of_row W _ _ _ _ _ f.box]; rfl)
set_option maxRecDepth 8000 in
set_option maxHeartbeats 6400000 in
theorem same18_any (h : IsE w B q mb ck cu Ts T t due now frames) (k : LK w A n l ids Ts) (hp : pick Ts T.id = some T) (cap : Nat) :
    Calls Tryd.prog 15 #[.pointer (some ⟨q, 0, none⟩), .agg (engC A n cap T.id due t now frames)] w fun e w' => e = .returned (.bool true) ∧ Below w.heap.size w w' := by
  have hb0 : Below w.heap.size w (w.alloc (.cells (engC A n cap T.id due t now frames) 41)) := (Below.refl _ _).alloc (Nat.le_refl _) _
  have HS0 : Hid (SM w (w.alloc (.cells (engC A n cap T.id due t now frames) 41)).drew B q mb ck cu T t due now frames A n cap l ids Ts) := SM.keep (W := w.alloc (.cells (engC A n cap T.id due t now frames) 41)) ⟨h.keep hb0, k.kept hb0, heap_alloc_new _ _, hb0⟩ ⟨rfl, rfl, rfl, Nat.le_refl _, fun _ _ => rfl⟩
  have htl := h.tick_lt
  have h60 := k.fr60 h.mem
  have HNOW : Hid (∀ W, SM w W B q mb ck cu T t due now frames A n cap l ids Ts → _) := fun W f => enow_any f.eng
  have HHAL : Hid (∀ W, SM w W B q mb ck cu T t due now frames A n cap l ids Ts → _) := fun W f => ehalt_any f.eng
  have HCUR : Hid (∀ W, SM w W B q mb ck cu T t due now frames A n cap l ids Ts → _) := fun W f => ecurrent_any f.eng
  have HDUE : Hid (∀ W, SM w W B q mb ck cu T t due now frames A n cap l ids Ts → _) := fun W f => edue_any f.eng
  have HOWN : Hid (∀ W, SM w W B q mb ck cu T t due now frames A n cap l ids Ts → _) := fun W f => eowner_any f.eng
  have HROW : Hid (∀ W, SM w W B q mb ck cu T t due now frames A n cap l ids Ts → _) := fun W f => rowner18_any f.lk cap T.id due t now frames T hp
  have HOFF : Hid (∀ W, SM w W B q mb ck cu T t due now frames A n cap l ids Ts → _) := fun W f => eoffset_any f.eng
  have HLEF : Hid (∀ W, SM w W B q mb ck cu T t due now frames A n cap l ids Ts → _) := fun W f => eleft_any f.eng
  have HRLE : Hid (∀ W, SM w W B q mb ck cu T t due now frames A n cap l ids Ts → _) := fun W f => rleft18_any f.lk cap T.id due t now frames T hp (by omega)
  have HFRA : Hid (∀ W, SM w W B q mb ck cu T t due now frames A n cap l ids Ts → _) := fun W f => eframes_any f.eng
  obtain ⟨fv, hfv⟩ : ∃ v, T.f (t : Int) = v := ⟨_, rfl⟩
  obtain ⟨dv, hdv⟩ : ∃ v, (T.fr : Int) - t = v := ⟨_, rfl⟩
  obtain ⟨hv, hhv⟩ : ∃ v, ((now : Int) == 18446744073709551615) = v := ⟨_, rfl⟩
  rw [hfv] at HOWN HROW
  rw [hdv] at HLEF HRLE
  rw [hhv] at HHAL
  obtain ⟨c0, c1, c2, c3, c4, c5⟩ := HS0.out.cells
  unfold engC at HS0 c0 c1 c2 c3 c4 c5 HROW HRLE ⊢
  clear h k hp hb0 htl h60 hfv hdv
  go_enter Tryd.func15, Tryd.ntmps15
  go_upto_region 1 with fail
  go_region_held3 (fun wx => wx.cell? ⟨w.heap.size, 0, none⟩ = some (.slice A n cap) ∧ wx.cell? ⟨w.heap.size, 1, none⟩ = some (.int .i64 T.id) ∧ wx.cell? ⟨w.heap.size, 2, none⟩ = some (.int .i64 due) ∧ wx.cell? ⟨w.heap.size, 3, none⟩ = some (.int .i64 (t : Int)) ∧ wx.cell? ⟨w.heap.size, 4, none⟩ = some (.int .u64 (now : Int)) ∧ wx.cell? ⟨w.heap.size, 5, none⟩ = some (.int .u64 (frames : Int)))
    (first | (refine ⟨?_, ?_, ?_, ?_, ?_, ?_⟩ <;> assumption) | (go_keep; done))
    (first
      | (go_at_call 24; refine (HNOW.out _ HS0.out).mono ?_; rintro e wa ⟨rfl, rfl⟩)
      | (go_at_call 23; refine (HHAL.out _ HS0.out).mono ?_; rintro e wa ⟨rfl, rfl⟩)
      | (go_at_call 21; refine (HCUR.out _ HS0.out).mono ?_; rintro e wa ⟨rfl, rfl⟩)
      | (go_at_call 17; refine (HDUE.out _ HS0.out).mono ?_; rintro e wa ⟨rfl, rfl⟩)
      | (go_at_call 37; refine (HOWN.out _ HS0.out).mono ?_; rintro e wa ⟨rfl, hwa⟩; have HS1 : Hid (SM w wa B q mb ck cu T t due now frames A n cap l ids Ts) := (by obtain ⟨m, hm⟩ := hwa; rw [hm]; exact HS0.out.keep ⟨rfl, rfl, rfl, Nat.le_refl _, fun _ _ => rfl⟩); clear hwa c0 c1 c2 c3 c4 c5; obtain ⟨c0, c1, c2, c3, c4, c5⟩ := HS1.out.cells)
      | (go_at_call 32; refine (HROW.out _ HS1.out).mono ?_; rintro e wb ⟨rfl, hwb⟩; have HS2 := Lib.hid (HS1.out.keep hwb); clear hwb c0 c1 c2 c3 c4 c5; obtain ⟨c0, c1, c2, c3, c4, c5⟩ := HS2.out.cells)
      | (go_at_call 20; refine (HOFF.out _ HS2.out).mono ?_; rintro e wa ⟨rfl, rfl⟩)
      | (go_at_call 38; refine (HLEF.out _ HS2.out).mono ?_; rintro e wc ⟨rfl, hwc⟩; have HS3 : Hid (SM w wc B q mb ck cu T t due now frames A n cap l ids Ts) := (by obtain ⟨m, hm⟩ := hwc; rw [hm]; exact HS2.out.keep ⟨rfl, rfl, rfl, Nat.le_refl _, fun _ _ => rfl⟩); clear hwc c0 c1 c2 c3 c4 c5; obtain ⟨c0, c1, c2, c3, c4, c5⟩ := HS3.out.cells)
      | (go_at_call 33; refine (HRLE.out _ HS3.out).mono ?_; rintro e wd ⟨rfl, hwd⟩; have HS4 := Lib.hid (HS3.out.keep hwd); clear hwd c0 c1 c2 c3 c4 c5; obtain ⟨c0, c1, c2, c3, c4, c5⟩ := HS4.out.cells)
      | (go_at_call 22; refine (HFRA.out _ HS4.out).mono ?_; rintro e wa ⟨rfl, rfl⟩))
  all_goals
    go_wp2
    go_ret
    exact ⟨rfl, HS4.out.below⟩
end

end Go.Proofs.YtofcjkfaccdnjaaDoor.Frm
