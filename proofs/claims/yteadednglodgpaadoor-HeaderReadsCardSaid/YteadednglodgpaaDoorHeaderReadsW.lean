
/- The function HeaderReads returns true for every text and every number of bytes to skip. Condition: the package-level variables hold what the program lays in them (the card ties that). This text: the walk through the Go text; the row is in the text without the W at its name's end. -/

import Derived.Test.YteadednglodgpaaDoorArgs

import Derived.Test.YteadednglodgpaaDoorHdrG

import Derived.Test.YteadednglodgpaaDoorHdrF

import Derived.Deep.RegionHeld3

namespace Go.Proofs.YteadednglodgpaaDoor.headerReads

open Go.RowKit Go.PlainAid Go.Proofs.YteadednglodgpaaDoor.Args

set_option linter.unusedVariables false

open Go.Proofs.YteadednglodgpaaDoor.Flt Go.Proofs.YteadednglodgpaaDoor.Rdr Go.Proofs.YteadednglodgpaaDoor.Hdr

/-- What stands behind both reads. -/
structure HF (w : World) (g : Nat) (T : St) (x : Value) (M D D2 : Nat) (hx : Array Value) (W : World) : Prop where
  rd : IsRdr W g T
  wr : Wrong W x T.k T.fs T.fa
  hdr : W.heap[M]? = some (.cells hx 26 (0, 0))
  row : W.heap[D]? = some (.cells (rdC T) 48 (0, 0))
  rhdr : W.heap[D2]? = some (.cells hx 36 (0, 0))
  laid : Laid W
  below : Below w.heap.size w W
theorem HF.keep {w W W' : World} {g : Nat} {T : St} {x : Value} {M D D2 : Nat} {hx : Array Value} (f : HF w g T x M D D2 hx W) (b : Below W.heap.size W W') : HF w g T x M D D2 hx W' :=
  ⟨f.rd.kept b, f.wr.kept (KeptW.below b), (b.block _ (lt_of_block f.hdr)).trans f.hdr, (b.block _ (lt_of_block f.row)).trans f.row, (b.block _ (lt_of_block f.rhdr)).trans f.rhdr, f.laid.kept b, f.below.trans (b.mono f.below.size)⟩
theorem HF.drewn {w W W' : World} {g : Nat} {T : St} {x : Value} {M D D2 : Nat} {hx : Array Value} (f : HF w g T x M D D2 hx W) (b : Below W.drew.heap.size W.drew W') : HF w g T x M D D2 hx W' := f.keep ⟨b.os, b.tape, b.output, b.size, b.block⟩
abbrev S18 (M D D2 : Nat) (T : St) (tot ep fi a b c d : Int) (wx : World) : Prop := wx.cell? ⟨M, 0, none⟩ = some (.int .u32 tot) ∧ wx.cell? ⟨M, 1, none⟩ = some (.int .u64 ep) ∧ wx.cell? ⟨M, 2, none⟩ = some (.int .i64 fi) ∧ wx.cell? ⟨M, 3, none⟩ = some (.int .i64 a) ∧ wx.cell? ⟨M, 4, none⟩ = some (.int .i64 b) ∧ wx.cell? ⟨M, 5, none⟩ = some (.int .i64 c) ∧ wx.cell? ⟨M, 6, none⟩ = some (.int .i64 d) ∧ wx.cell? ⟨D2, 0, none⟩ = some (.int .u32 tot) ∧ wx.cell? ⟨D2, 1, none⟩ = some (.int .u64 ep) ∧ wx.cell? ⟨D2, 2, none⟩ = some (.int .i64 fi) ∧ wx.cell? ⟨D2, 3, none⟩ = some (.int .i64 a) ∧ wx.cell? ⟨D2, 4, none⟩ = some (.int .i64 b) ∧ wx.cell? ⟨D2, 5, none⟩ = some (.int .i64 c) ∧ wx.cell? ⟨D2, 6, none⟩ = some (.int .i64 d) ∧ wx.cell? ⟨D, 1, none⟩ = some (.int .i64 T.p) ∧ wx.cell? ⟨D, 3, none⟩ = some (.int .i64 T.k) ∧ wx.cell? ⟨D, 4, none⟩ = some (.int .i64 T.fs) ∧ wx.cell? ⟨D, 5, none⟩ = some (.int .i64 T.fa)
theorem HF.cells {w W : World} {g : Nat} {T : St} {x : Value} {M D D2 : Nat} {tot ep fi a b c d : Int} (f : HF w g T x M D D2 #[.int .u32 tot, .int .u64 ep, .int .i64 fi, .int .i64 a, .int .i64 b, .int .i64 c, .int .i64 d] W) : S18 M D D2 T tot ep fi a b c d W := by
  refine ⟨?_, ?_, ?_, ?_, ?_, ?_, ?_, ?_, ?_, ?_, ?_, ?_, ?_, ?_, ?_, ?_, ?_, ?_⟩
  all_goals first
    | (rw [cell_of_row W _ _ _ _ _ f.hdr]; rfl)
    | (rw [cell_of_row W _ _ _ _ _ f.rhdr]; rfl)
    | (rw [cell_of_row W _ _ _ _ _ f.row]; rfl)
set_option maxRecDepth 8000 in
set_option maxHeartbeats 4000000 in
theorem walk (a0 : ByteArray) (a1 : Int) (w : World) (w0 : a0.size ≤ maxLen) (w1 : (Lit.int .u8 a1).wf = true) (hn : Go.Proofs.YteadednglodgpaaDoor.Hdr.Laid w) :
    Calls Tryd.prog 4 #[.string a0, .int .u8 a1] w fun e w' => e = .returned (.bool true) ∧ Below w.heap.size w w' := by
  have b1 := bounds_u8 w1
  have HN := Lib.hid hn
  clear hn
  by_cases hl : 100 < (a0.size : Int)
  · have t : decide (100 < (a0.size : Int)) = true := decide_eq_true hl
    clear hl w0 w1
    go_enter Tryd.func4, Tryd.ntmps4
    go_wp2_with fail
    refine (new_any a0 _).mono ?_
    rintro e w2 ⟨g, hg, rfl, hr2, hb2⟩
    have HB2 := Lib.hid hb2
    have HN2 := Lib.hid (HN.out.kept hb2)
    clear hr2 hb2
    go_wp2_with (go_at_call 7; refine (Go.Proofs.YteadednglodgpaaDoor.Hdr.awake_any _ HN2.out).mono ?_; rintro e w' ⟨rfl, hb⟩)
    go_ret
    exact ⟨rfl, HB2.out.trans (hb.mono HB2.out.size)⟩
  · have t : decide (100 < (a0.size : Int)) = false := decide_eq_false hl
    have HO0 : Hid (Ok ⟨a0, 0, 0, 0, 0, 0⟩) := ⟨Nat.zero_le _, by show a0.size ≤ _; omega⟩
    have HEQ := Lib.hid eq_rhd
    have HEF := Lib.hid eq_flt
    have HW18 : Hid (IntKind.i64.wrap a1 = a1) := IntWalk.i64_in _ (by omega)
    have hw18 := HW18.out
    have HRX := Lib.hid (one_rd)
    have HHX := Lib.hid (one_hd)
    clear hl w0 w1
    go_enter Tryd.func4, Tryd.ntmps4
    go_wp2_with fail
    refine (new_any a0 _).mono ?_
    rintro e w2 ⟨g, hg, rfl, hr2, hb2⟩
    have HG : Hid (w.heap.size ≤ g ∧ g < w2.heap.size) := ⟨hg, hr2.lt⟩
    have hb1 : Below w2.heap.size w2 (w2.alloc (.cells (rdC ⟨a0, 0, 0, 0, 0, 0⟩) 48)) := (Below.refl _ _).alloc (Nat.le_refl _) _
    have HB2 := Lib.hid (hb2.trans (hb1.mono hb2.size))
    have HR2 := Lib.hid (hr2.kept hb1)
    have HN2 := Lib.hid ((HN.out.kept hb2).kept hb1)
    have HC2 : Hid ((w2.alloc (.cells (rdC ⟨a0, 0, 0, 0, 0, 0⟩) 48)).heap[w2.heap.size]? = some (.cells (rdC ⟨a0, 0, 0, 0, 0, 0⟩) 48 (0, 0))) := heap_alloc_new _ _
    have HGC : Hid (w2.heap.size ≠ g) := by have := hr2.lt; show _ ≠ _; omega
    have HWC : Hid (w.heap.size ≤ w2.heap.size) := hb2.size
    clear hr2 hb2 hb1 hg
    go_wp2_with fail
    obtain ⟨W1, hW1⟩ : ∃ W, W = w2.alloc (.cells (rdC ⟨a0, 0, 0, 0, 0, 0⟩) 48) := ⟨_, rfl⟩
    obtain ⟨C, hC⟩ : ∃ C, w2.heap.size = C := ⟨_, rfl⟩
    rw [← hW1] at HB2 HR2 HN2 HC2
    rw [hC] at HC2 HGC HWC HG
    simp only [rdC] at hW1
    (try simp only [Int.natCast_zero] at hW1)
    rw [← hW1, hC]
    clear hW1 hC
    refine (txt_any g ⟨a0, 0, 0, 0, 0, 0⟩ _ W1 HN2.out.names HR2.out HO0.out).mono ?_
    rintro e w3 ⟨rfl, hr3, hj3⟩
    have HR3 := Lib.hid hr3
    have HB3 := Lib.hid (HB2.out.trans (hj3.below HG.out.1 HR2.out.lt))
    have HC3 := Lib.hid ((hj3.block C (lt_of_block HC2.out) HGC.out).trans HC2.out)
    have HRT := Lib.hid (fun w => rtxt_any ⟨a0, 0, 0, 0, 0, 0⟩ (a1 % 4) w HO0.out)
    have HO1 := Lib.hid (ok_txt HO0.out (a1 % 4))
    obtain ⟨t1, ht1⟩ : ∃ t1, txtS ⟨a0, 0, 0, 0, 0, 0⟩ (a1 % 4) = t1 := ⟨_, rfl⟩
    obtain ⟨V1, hV1⟩ : ∃ V1, txtV ⟨a0, 0, 0, 0, 0, 0⟩ (a1 % 4) = V1 := ⟨_, rfl⟩
    rw [ht1] at HR3 HRT HO1
    rw [hV1] at HRT
    rw [hV1]
    have HRDX : Hid (∀ w, Laid w → IsRdr w g t1 → Calls Tryd.prog 15 #[.pointer (some ⟨g, 0, none⟩)] w (RdPost g (rdS t1) (rdV t1) w)) := fun w hl hr => rd_any g t1 w hl hr HO1.out
    have HGET := Lib.hid (fun w => rgeth_any t1 w HO1.out)
    obtain ⟨T, hT⟩ : ∃ T, rdS t1 = T := ⟨_, rfl⟩
    obtain ⟨h7, hh7⟩ : ∃ h, rdV t1 = h := ⟨_, rfl⟩
    rw [hT, hh7] at HRDX HGET
    obtain ⟨tot, ep, fi, a, b, c, d⟩ := h7
    simp only [hdC] at HRDX HGET
    have heq : ∀ wx : World, (Op.equalIn 10000 36 (.agg #[.int .u32 tot, .int .u64 ep, .int .i64 fi, .int .i64 a, .int .i64 b, .int .i64 c, .int .i64 d]) (.agg #[.int .u32 tot, .int .u64 ep, .int .i64 fi, .int .i64 a, .int .i64 b, .int .i64 c, .int .i64 d])).run Tryd.prog wx = .ok true wx := HEQ.out tot ep fi a b c d
    have hef : ∀ wx : World, (Op.equalIn 10000 34 (.agg #[.int .i64 T.k, .int .i64 T.fs, .int .i64 T.fa]) (.agg #[.int .i64 T.k, .int .i64 T.fs, .int .i64 T.fa])).run Tryd.prog wx = .ok true wx := HEF.out T.k T.fs T.fa
    have HPL := Lib.hid (fun w => plain_any ⟨tot, ep, fi, a, b, c, d⟩ w)
    have HHR : Hid ((#[.int .u32 tot, .int .u64 ep, .int .i64 fi, .int .i64 a, .int .i64 b, .int .i64 c, .int .i64 d] : Array Value).all (·.oneCell') = true) := HHX.out ⟨tot, ep, fi, a, b, c, d⟩
    simp only [hdC] at HPL
    clear hr3 hj3 HC2 HR2 HB2 HN2 HO0 ht1 hV1 hT hh7 HEQ HEF HW18 hw18 b1 HHX
    go_wp2_with ((with_reducible show wpList _ _ _ _ _ _); refine wpList_load_row rfl 48 (.tmp 6) rfl C rfl 48 (rdC ⟨a0, 0, 0, 0, 0, 0⟩) (0, 0) _ HC3.out Tryd.underlying48 rfl (by rw [size_rd]; rfl) ?_)
    refine (HRT.out _).mono ?_
    rintro e w4 ⟨rfl, hb4⟩
    have HC4 := Lib.hid ((hb4.block C (lt_of_block HC3.out)).trans HC3.out)
    have HB5 : Hid (Below w.heap.size w (w4.setRow C (rdC t1))) := below_set2 (HB3.out.trans (hb4.mono HB3.out.size)) HWC.out
    have HR5 := Lib.hid (IsRdr.pokeRow (HR3.out.kept hb4) HC4.out (by decide) (by decide) (rdC t1))
    have HC5 := Lib.hid (setRow_heap w4 _ _ (rdC t1) _ _ HC4.out)
    clear hb4 HRT HC3 HB3 HR3
    go_wp2_with ((with_reducible show wpList _ _ _ _ _ _); refine wpList_store_row rfl 48 (.tmp 6) (.tmp 38) rfl C (rdC t1) rfl rfl 48 (rdC ⟨a0, 0, 0, 0, 0, 0⟩) HC4.out (by rw [size_rd]; rfl) rfl (HRX.out _) ?_)
    obtain ⟨W5, hW5⟩ : ∃ W, W = w4.setRow C (rdC t1) := ⟨_, rfl⟩
    rw [← hW5] at HB5 HR5 HC5
    rw [← hW5]
    clear hW5 HC4
    refine (HRDX.out W5 (HN.out.kept HB5.out) HR5.out).mono ?_
    rintro e w6 ⟨x, rfl, hw6, hr6, hj6⟩
    simp only [hdC]
    have hb7 : Below w6.heap.size w6 ((w6.alloc (.cells hd0 26)).setRow w6.heap.size #[.int .u32 tot, .int .u64 ep, .int .i64 fi, .int .i64 a, .int .i64 b, .int .i64 c, .int .i64 d]) := below_set2 ((Below.refl _ _).alloc (Nat.le_refl _) _) (Nat.le_refl _)
    have hb6 := HB5.out.trans (hj6.below HG.out.1 HR5.out.lt)
    have HB7 := Lib.hid (hb6.trans (hb7.mono hb6.size))
    have HM7 := Lib.hid (heap_alloc_new w6 (.cells hd0 26))
    have HMR := Lib.hid (setRow_heap _ _ _ #[.int .u32 tot, .int .u64 ep, .int .i64 fi, .int .i64 a, .int .i64 b, .int .i64 c, .int .i64 d] _ _ (heap_alloc_new w6 (.cells hd0 26)))
    have hc6 := (hj6.block C (lt_of_block HC5.out) HGC.out).trans HC5.out
    have HC7 := Lib.hid ((hb7.block C (lt_of_block hc6)).trans hc6)
    have HR7 := Lib.hid (hr6.kept hb7)
    have HW7 := Lib.hid (hw6.kept (KeptW.below hb7))
    unfold hd0 at HM7 HB7 HC7 HR7 HW7 HMR
    clear hb7 hb6 hc6 hw6 hr6 hj6 HRDX HB5 HR5 HC5
    go_wp2_with (first
      | ((with_reducible show wpList _ _ _ _ _ _); refine wpList_store_row rfl 26 (.tmp 8) (.tmp 43) rfl w6.heap.size #[.int .u32 tot, .int .u64 ep, .int .i64 fi, .int .i64 a, .int .i64 b, .int .i64 c, .int .i64 d] rfl rfl 26 #[.int .u32 0, .int .u64 0, .int .i64 0, .int .i64 0, .int .i64 0, .int .i64 0, .int .i64 0] HM7.out (by rw [size_hd]; rfl) rfl HHR.out ?_)
      | ((with_reducible show wpList _ _ _ _ _ _); refine wpList_load_row rfl 48 (.tmp 6) rfl C rfl 48 (rdC t1) (0, 0) _ HC7.out Tryd.underlying48 rfl (by rw [size_rd]; rfl) ?_))
    refine (HGET.out _).mono ?_
    rintro e w8 ⟨rfl, hb8⟩
    obtain ⟨M, hM⟩ : ∃ M, w6.heap.size = M := ⟨_, rfl⟩
    rw [hM] at hb8 HB7 HR7 HW7 HMR
    rw [hM]
    have H8B := Lib.hid (HB7.out.trans (hb8.mono HB7.out.size))
    have H8M := Lib.hid ((hb8.block M (lt_of_block HMR.out)).trans HMR.out)
    have H8R := Lib.hid (HR7.out.kept hb8)
    have H8W := Lib.hid (HW7.out.kept (KeptW.below hb8))
    clear hb8 HB7 HR7 HW7 HMR HC7 HM7 hM
    have hb9 : Below w8.heap.size w8 ((((w8.alloc (.cells rd0 48)).alloc (.cells hd0 36)).setRow w8.heap.size (rdC T)).setRow (w8.heap.size + 1) #[.int .u32 tot, .int .u64 ep, .int .i64 fi, .int .i64 a, .int .i64 b, .int .i64 c, .int .i64 d]) := below_set2 (below_set2 (two_below _ _ _) (Nat.le_refl _)) (by omega)
    have hD1 : ((w8.alloc (.cells rd0 48)).alloc (.cells hd0 36)).heap[w8.heap.size]? = some (.cells rd0 48 (0, 0)) := (heap_alloc_old _ _ (by simp)).trans (heap_alloc_new _ _)
    have hD2 := (setRow_other ((w8.alloc (.cells rd0 48)).alloc (.cells hd0 36)) w8.heap.size (w8.heap.size + 1) (rdC T) (by omega)).trans (second_new w8 (.cells rd0 48) (.cells hd0 36))
    have hD3 := (setRow_other _ (w8.heap.size + 1) w8.heap.size #[.int .u32 tot, .int .u64 ep, .int .i64 fi, .int .i64 a, .int .i64 b, .int .i64 c, .int .i64 d] (by omega)).trans (setRow_heap _ _ _ (rdC T) _ _ hD1)
    have HF9 : Hid (HF w g T x M w8.heap.size (w8.heap.size + 1) #[.int .u32 tot, .int .u64 ep, .int .i64 fi, .int .i64 a, .int .i64 b, .int .i64 c, .int .i64 d] ((((w8.alloc (.cells rd0 48)).alloc (.cells hd0 36)).setRow w8.heap.size (rdC T)).setRow (w8.heap.size + 1) #[.int .u32 tot, .int .u64 ep, .int .i64 fi, .int .i64 a, .int .i64 b, .int .i64 c, .int .i64 d])) := by
      have hb := H8B.out.trans (hb9.mono H8B.out.size)
      exact ⟨H8R.out.kept hb9, H8W.out.kept (KeptW.below hb9), (hb9.block M (lt_of_block H8M.out)).trans H8M.out, hD3, setRow_heap _ _ _ _ _ _ hD2, HN.out.kept hb, hb⟩
    have HD1 := Lib.hid hD1
    have HD2 := Lib.hid hD2
    unfold rd0 hd0 at HD1 HD2 HF9
    clear hb9 hD1 hD2 hD3 H8B H8M H8R H8W HGET
    go_wp2_with (first
      | ((with_reducible show wpList _ _ _ _ _ _); refine wpList_store_row rfl 48 (.tmp 10) (.tmp 48) rfl w8.heap.size (rdC T) rfl rfl 48 #[.string ⟨#[]⟩, .int .i64 0, .int .i64 0, .int .i64 0, .int .i64 0, .int .i64 0] HD1.out (by rw [size_rd]; rfl) rfl (HRX.out _) ?_)
      | ((with_reducible show wpList _ _ _ _ _ _); refine wpList_store_row rfl 36 (.tmp 11) (.tmp 49) rfl (w8.heap.size + 1) #[.int .u32 tot, .int .u64 ep, .int .i64 fi, .int .i64 a, .int .i64 b, .int .i64 c, .int .i64 d] rfl rfl 36 #[.int .u32 0, .int .u64 0, .int .i64 0, .int .i64 0, .int .i64 0, .int .i64 0, .int .i64 0] HD2.out (by rw [size_rhd]; rfl) rfl HHR.out ?_))
    generalize hW9 : (World.setRow (World.setRow _ w8.heap.size (rdC T)) (w8.heap.size + 1) #[.int .u32 tot, .int .u64 ep, .int .i64 fi, .int .i64 a, .int .i64 b, .int .i64 c, .int .i64 d]) = W at HF9
    obtain ⟨D, hD⟩ : ∃ D, w8.heap.size = D := ⟨_, rfl⟩
    obtain ⟨D2, hD2⟩ : ∃ D2, w8.heap.size + 1 = D2 := ⟨_, rfl⟩
    rw [hD2, hD] at HF9
    rw [hD2, hD]
    clear hW9 hD hD2 HD1 HD2
    obtain ⟨d0, d1, d2, d3, d4, d5, d6, d7, d8, d9, d10, d11, d12, d13, d14, d15, d16, d17⟩ := HF9.out.cells
    have HFD := Lib.hid (fun (w6 : World) b => HF9.out.drewn (W' := w6) b)
    go_region_held3 (fun wx => wx.cell? ⟨M, 0, none⟩ = some (.int .u32 tot) ∧ wx.cell? ⟨M, 1, none⟩ = some (.int .u64 ep) ∧ wx.cell? ⟨M, 2, none⟩ = some (.int .i64 fi) ∧ wx.cell? ⟨M, 3, none⟩ = some (.int .i64 a) ∧ wx.cell? ⟨M, 4, none⟩ = some (.int .i64 b) ∧ wx.cell? ⟨M, 5, none⟩ = some (.int .i64 c) ∧ wx.cell? ⟨M, 6, none⟩ = some (.int .i64 d) ∧ wx.cell? ⟨D2, 0, none⟩ = some (.int .u32 tot) ∧ wx.cell? ⟨D2, 1, none⟩ = some (.int .u64 ep) ∧ wx.cell? ⟨D2, 2, none⟩ = some (.int .i64 fi) ∧ wx.cell? ⟨D2, 3, none⟩ = some (.int .i64 a) ∧ wx.cell? ⟨D2, 4, none⟩ = some (.int .i64 b) ∧ wx.cell? ⟨D2, 5, none⟩ = some (.int .i64 c) ∧ wx.cell? ⟨D2, 6, none⟩ = some (.int .i64 d) ∧ wx.cell? ⟨D, 1, none⟩ = some (.int .i64 T.p) ∧ wx.cell? ⟨D, 3, none⟩ = some (.int .i64 T.k) ∧ wx.cell? ⟨D, 4, none⟩ = some (.int .i64 T.fs) ∧ wx.cell? ⟨D, 5, none⟩ = some (.int .i64 T.fa)) (first | (go_keep; done) | exact HKP.out)
      (first
        | (go_at_call 10; refine (HPL.out _).mono ?_; rintro e w10 ⟨rfl, hb10⟩; have HX6 := Lib.hid (HFD.out w10 (by exact hb10)); have HKP := Lib.hid HX6.out.cells; clear hb10)
        | (go_at_call 11; refine (of_wrong _ HX6.out.wr (fun _ _ _ => rfl)).mono ?_; rintro e w11 ⟨rfl, hb11⟩; (try simp only [fltV]); have HX7 := Lib.hid (HX6.out.keep hb11); have HKP := Lib.hid HX7.out.cells; clear hb11)
        | (go_at_call 20; refine (place_any g _ _ HX7.out.rd).mono ?_; rintro e w' ⟨rfl, rfl⟩)
        | (go_at_call 7; refine (Go.Proofs.YteadednglodgpaaDoor.Hdr.awake_any _ HX7.out.laid).mono ?_; rintro e w12 ⟨rfl, hb12⟩; have HX8 := Lib.hid (HX7.out.keep hb12); have HKP := Lib.hid HX8.out.cells; clear hb12)
        | fail)
    go_wp2
    go_ret
    exact ⟨rfl, HX8.out.below⟩


end Go.Proofs.YteadednglodgpaaDoor.headerReads
