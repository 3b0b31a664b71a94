
/- The function HeaderPuts returns true for every slice of bytes and every header. Condition: the package-level variables hold what the program lays in them (the card ties that). This text: the walk through the Go text; the row is in the text without the W at its name's end. -/

import Derived.Test.YteadednglodgpaaDoorArgs

import Derived.Test.YteadednglodgpaaDoorHdrS

import Derived.Test.YteadednglodgpaaDoorHdrF

import Derived.Test.YteadednglodgpaaDoorCnv

import Derived.Test.YteadednglodgpaaDoorArgsS

import Derived.Deep.RegionHeld3

namespace Go.Proofs.YteadednglodgpaaDoor.headerPuts

open Go.RowKit Go.PlainAid Go.Proofs.YteadednglodgpaaDoor.Args

set_option linter.unusedVariables false

open Go.Proofs.YteadednglodgpaaDoor.Flt Go.Proofs.YteadednglodgpaaDoor.Rdr Go.Proofs.YteadednglodgpaaDoor.Hdr Go.Proofs.YteadednglodgpaaDoor.Oct Go.Proofs.YteadednglodgpaaDoor.Byt

theorem header_of {w : World} {a : Array Value} (h : IsAgg w [.one (.int .u32), .one (.int .u64), .one (.int .i64), .one (.int .i64), .one (.int .i64), .one (.int .i64), .one (.int .i64)] a) : ∃ h7 : H7, a = hdC h7 ∧ Fit h7 := by
  obtain ⟨hs, hf⟩ := h
  obtain ⟨v0, e0, tot, rfl, w0⟩ := hf 0 _ rfl
  obtain ⟨v1, e1, ep, rfl, w1⟩ := hf 1 _ rfl
  obtain ⟨v2, e2, fi, rfl, w2⟩ := hf 2 _ rfl
  obtain ⟨v3, e3, x, rfl, w3⟩ := hf 3 _ rfl
  obtain ⟨v4, e4, y, rfl, w4⟩ := hf 4 _ rfl
  obtain ⟨v5, e5, z, rfl, w5⟩ := hf 5 _ rfl
  obtain ⟨v6, e6, u, rfl, w6⟩ := hf 6 _ rfl
  have b0 := bounds_u32 w0
  have b1 := bounds_u64 w1
  obtain ⟨tot, rfl⟩ := Int.eq_ofNat_of_zero_le b0.1
  obtain ⟨ep, rfl⟩ := Int.eq_ofNat_of_zero_le b1.1
  refine ⟨⟨tot, ep, fi, x, y, z, u⟩, ?_, ⟨by show tot ≤ _; omega, by show ep ≤ _; omega, bounds_i64 w2, bounds_i64 w3, bounds_i64 w4, bounds_i64 w5, bounds_i64 w6⟩⟩
  have hs7 : a.size = 7 := hs
  apply Array.ext_getElem?
  intro i
  rcases (show i = 0 ∨ i = 1 ∨ i = 2 ∨ i = 3 ∨ i = 4 ∨ i = 5 ∨ i = 6 ∨ 7 ≤ i by omega) with rfl | rfl | rfl | rfl | rfl | rfl | rfl | h
  · exact e0
  · exact e1
  · exact e2
  · exact e3
  · exact e4
  · exact e5
  · exact e6
  · rw [Array.getElem?_eq_none (by omega), Array.getElem?_eq_none (by simp [hdC]; omega)]
theorem below_drewN {B : Nat} {a w : World} (h : Below B a w) (n : Nat) : Below B a (w.drewN n) := ⟨h.os, h.tape, h.output, h.size, h.block⟩
theorem kept_refl (w : World) : KeptW w w := fun _ _ _ => rfl
theorem good_of {h : H7} (hb : (bad h).1 = 0) : 0 ≤ h.fi ∧ h.fi ≤ 255 ∧ fineB 0 h.a = true ∧ fineB 1 h.b = true ∧ fineB 2 h.c = true ∧ fineB 3 h.d = true := by
  unfold bad at hb
  split at hb
  · cases hb
  · rename_i h0
    split at hb
    · cases hb
    · split at hb
      · cases hb
      · split at hb
        · cases hb
        · split at hb
          · cases hb
          · rename_i h1 h2 h3 h4
            refine ⟨by omega, by omega, ?_, ?_, ?_, ?_⟩ <;> first | (simpa using h1) | (simpa using h2) | (simpa using h3) | (simpa using h4)
/-- What stands behind Put and the document's Right. -/
structure PF (w : World) (B0 D : Nat) (hx fv : Array Value) (x : Value) (k : Nat) (s q : Int) (V : Value) (n : Nat) (ys : List Int) (W : World) : Prop where
  hdr : W.heap[B0]? = some (.cells hx 26 (0, 0))
  flt : W.heap[D]? = some (.cells fv 34 (0, 0))
  wr : Wrong W x k s q
  own : W.ownsRow w.heap.size 5 1 V n (ys.map (Value.int .u8))
  laid : Laid W
  below : Below w.heap.size w W
theorem PF.keep {w W W' : World} {B0 D : Nat} {hx fv : Array Value} {x V : Value} {k n : Nat} {s q : Int} {ys : List Int} (f : PF w B0 D hx fv x k s q V n ys W) (b : Below W.heap.size W W') : PF w B0 D hx fv x k s q V n ys W' :=
  ⟨(b.block _ (lt_of_block f.hdr)).trans f.hdr, (b.block _ (lt_of_block f.flt)).trans f.flt, f.wr.kept (KeptW.below b), Byt.owns_kept f.own b, f.laid.kept b, f.below.trans (b.mono f.below.size)⟩
theorem PF.drew {w W : World} {B0 D : Nat} {hx fv : Array Value} {x V : Value} {k n : Nat} {s q : Int} {ys : List Int} (f : PF w B0 D hx fv x k s q V n ys W) : PF w B0 D hx fv x k s q V n ys W.drew := f.keep ⟨rfl, rfl, rfl, Nat.le_refl _, fun _ _ => rfl⟩
abbrev S10 (B0 D : Nat) (tot ep : Nat) (fi a b c d : Int) (k : Nat) (s q : Int) (wx : World) : Prop := wx.cell? ⟨B0, 0, none⟩ = some (.int .u32 tot) ∧ wx.cell? ⟨B0, 1, none⟩ = some (.int .u64 ep) ∧ wx.cell? ⟨B0, 2, none⟩ = some (.int .i64 fi) ∧ wx.cell? ⟨B0, 3, none⟩ = some (.int .i64 a) ∧ wx.cell? ⟨B0, 4, none⟩ = some (.int .i64 b) ∧ wx.cell? ⟨B0, 5, none⟩ = some (.int .i64 c) ∧ wx.cell? ⟨B0, 6, none⟩ = some (.int .i64 d) ∧ wx.cell? ⟨D, 0, none⟩ = some (.int .i64 k) ∧ wx.cell? ⟨D, 1, none⟩ = some (.int .i64 s) ∧ wx.cell? ⟨D, 2, none⟩ = some (.int .i64 q)
theorem PF.cells {w W : World} {B0 D : Nat} {tot ep : Nat} {fi a b c d : Int} {x V : Value} {k n : Nat} {s q : Int} {ys : List Int} (f : PF w B0 D #[.int .u32 tot, .int .u64 ep, .int .i64 fi, .int .i64 a, .int .i64 b, .int .i64 c, .int .i64 d] #[.int .i64 k, .int .i64 s, .int .i64 q] x k s q V n ys W) : S10 B0 D tot ep fi a b c d k s q W := by
  refine ⟨?_, ?_, ?_, ?_, ?_, ?_, ?_, ?_, ?_, ?_⟩
  all_goals first
    | (rw [cell_of_row W _ _ _ _ _ f.hdr]; rfl)
    | (rw [cell_of_row W _ _ _ _ _ f.flt]; rfl)
theorem kcat {B0 D : Nat} {tot ep : Nat} {fi a b c d : Int} {k : Nat} {s q : Int} {wx : World} {P : Prop} (h : S10 B0 D tot ep fi a b c d k s q wx) (hp : P) : wx.cell? ⟨B0, 0, none⟩ = some (.int .u32 tot) ∧ wx.cell? ⟨B0, 1, none⟩ = some (.int .u64 ep) ∧ wx.cell? ⟨B0, 2, none⟩ = some (.int .i64 fi) ∧ wx.cell? ⟨B0, 3, none⟩ = some (.int .i64 a) ∧ wx.cell? ⟨B0, 4, none⟩ = some (.int .i64 b) ∧ wx.cell? ⟨B0, 5, none⟩ = some (.int .i64 c) ∧ wx.cell? ⟨B0, 6, none⟩ = some (.int .i64 d) ∧ wx.cell? ⟨D, 0, none⟩ = some (.int .i64 k) ∧ wx.cell? ⟨D, 1, none⟩ = some (.int .i64 s) ∧ wx.cell? ⟨D, 2, none⟩ = some (.int .i64 q) ∧ P := by
  obtain ⟨d0, d1, d2, d3, d4, d5, d6, d7, d8, d9⟩ := h
  exact ⟨d0, d1, d2, d3, d4, d5, d6, d7, d8, d9, hp⟩
theorem kc7 {B0 D : Nat} {tot ep : Nat} {fi a b c d : Int} {k : Nat} {s q : Int} {wx : World} {P : Prop} (h : S10 B0 D tot ep fi a b c d k s q wx) (hp : P) : wx.cell? ⟨B0, 0, none⟩ = some (.int .u32 tot) ∧ wx.cell? ⟨B0, 1, none⟩ = some (.int .u64 ep) ∧ wx.cell? ⟨B0, 2, none⟩ = some (.int .i64 fi) ∧ wx.cell? ⟨B0, 3, none⟩ = some (.int .i64 a) ∧ wx.cell? ⟨B0, 4, none⟩ = some (.int .i64 b) ∧ wx.cell? ⟨B0, 5, none⟩ = some (.int .i64 c) ∧ wx.cell? ⟨B0, 6, none⟩ = some (.int .i64 d) ∧ P := by
  obtain ⟨d0, d1, d2, d3, d4, d5, d6, d7, d8, d9⟩ := h
  exact ⟨d0, d1, d2, d3, d4, d5, d6, hp⟩
set_option maxRecDepth 8000 in
set_option maxHeartbeats 6000000 in
theorem walk (a0 : Option Addr) (len0 cap0 : Nat) (z0 : List Int) (a1 : Array Value) (w : World) (w0 : IsRow .u8 w a0 len0 cap0 z0) (w1 : IsAgg w [.one (.int .u32), .one (.int .u64), .one (.int .i64), .one (.int .i64), .one (.int .i64), .one (.int .i64), .one (.int .i64)] a1) (hn : Go.Proofs.YteadednglodgpaaDoor.Hdr.Laid w) :
    Calls Tryd.prog 3 #[.slice a0 len0 cap0, .agg a1] w fun e w' => e = .returned (.bool true) ∧ Below w.heap.size w w' := by
  have HN := Lib.hid hn
  clear hn
  obtain ⟨xs, hxs, hxr, hnil, hlc⟩ := bytes_of w0
  obtain ⟨h7, rfl, hfit⟩ := header_of w1
  by_cases hl : 50 < (len0 : Int)
  · have t : decide (50 < (len0 : Int)) = true := decide_eq_true hl
    have HB0 : Hid (Below w.heap.size w (w.alloc (.cells (hdC h7) 26))) := (Below.refl _ _).alloc (Nat.le_refl _) _
    have HN0 := Lib.hid (HN.out.kept HB0.out)
    obtain ⟨CS, hCS⟩ : ∃ CS, hdC h7 = CS := ⟨_, rfl⟩
    rw [hCS] at HB0 HN0
    rw [hCS]
    clear hl w0 w1 hxs hxr hnil hlc hfit hCS
    go_enter Tryd.func3, Tryd.ntmps3
    go_wp2_with (go_at_call 7; refine (Go.Proofs.YteadednglodgpaaDoor.Hdr.awake_any _ HN0.out).mono ?_; rintro e w' ⟨rfl, hb⟩)
    go_ret
    exact ⟨rfl, HB0.out.trans (hb.mono HB0.out.size)⟩
  · have t : decide (50 < (len0 : Int)) = false := decide_eq_false hl
    have hl0 : (len0 : Int) ≤ 50 := by omega
    have hxl : xs.length = len0 := hxs.1
    have HCV : Hid (∀ wx, Below w.heap.size w wx → (convert 22 9 (.slice a0 len0 cap0)).run Tryd.prog wx = .ok (.string (strOfNums xs)) wx) := fun w' b => conv_kept hxs b
    have HX := Lib.hid hxs
    have HNIL := Lib.hid hnil
    obtain ⟨Z, hZ⟩ : ∃ Z, strOfNums xs = Z := ⟨_, rfl⟩
    have HZ := Lib.hid hZ
    have hzs : Z.size = len0 := by rw [← hZ, strOfNums_size]; exact hxl
    have HZS := Lib.hid hzs
    rw [hZ] at HCV
    have hzz : (Z.toList == Z.toList) = true := by simp
    have hzz2 : (Z.toList != Z.toList) = false := by simp
    have HB0 : Hid (Below w.heap.size w (w.alloc (.cells (hdC h7) 26))) := (Below.refl _ _).alloc (Nat.le_refl _) _
    have HROW := Lib.hid (heap_alloc_new w (.cells (hdC h7) 26))
    have HN0 := Lib.hid (HN.out.kept HB0.out)
    have hc0 := HCV.out _ HB0.out
    have HRT := Lib.hid (fun w hl => right_any h7 hfit w hl)
    have HRR := Lib.hid (fun w => rright_any h7 w)
    have HPLX := Lib.hid (fun w => plain_any h7 w)
    obtain ⟨k, hk⟩ : ∃ k, (bad h7).1 = k := ⟨_, rfl⟩
    obtain ⟨s, hs⟩ : ∃ s, sec1 (bad h7).1 = s := ⟨_, rfl⟩
    obtain ⟨q, hq⟩ : ∃ q, (bad h7).2 = q := ⟨_, rfl⟩
    have hs2 := hs
    rw [hk] at hs2
    have hef : ∀ wx : World, (Op.equalIn 10000 34 (.agg #[.int .i64 k, .int .i64 s, .int .i64 q]) (.agg #[.int .i64 k, .int .i64 s, .int .i64 q])).run Tryd.prog wx = .ok true wx := eq_flt k s q
    have HO3 := Lib.hid (one_flt k s q)
    by_cases hbad : k = 0
    · obtain ⟨tot, ep, fi, a, b, c, d⟩ := h7
      have hb2 : (bad ⟨tot, ep, fi, a, b, c, d⟩).1 = 0 := hk.trans hbad
      obtain ⟨hf1, hf2, g0, g1, g2, g3⟩ : 0 ≤ fi ∧ fi ≤ 255 ∧ fineB 0 a = true ∧ fineB 1 b = true ∧ fineB 2 c = true ∧ fineB 3 d = true := good_of hb2
      have hle : 1 ≤ a ∧ a ≤ 32 ∧ 1 ≤ b ∧ b ≤ 16 ∧ 0 ≤ c ∧ c ≤ 240 ∧ 0 ≤ d ∧ d ≤ 512 := by
        have g0' := g0; have g1' := g1; have g2' := g2; have g3' := g3
        simp [fineB, mostL, fewL] at g0' g1' g2' g3'
        omega
      obtain ⟨ht1, ht2⟩ : tot ≤ 4294967295 ∧ ep ≤ 18446744073709551615 := ⟨hfit.tot, hfit.ep⟩
      obtain ⟨fi, rfl⟩ := Int.eq_ofNat_of_zero_le hf1
      obtain ⟨a, rfl⟩ := Int.eq_ofNat_of_zero_le (show (0 : Int) ≤ a by omega)
      obtain ⟨b, rfl⟩ := Int.eq_ofNat_of_zero_le (show (0 : Int) ≤ b by omega)
      obtain ⟨c, rfl⟩ := Int.eq_ofNat_of_zero_le (show (0 : Int) ≤ c by omega)
      obtain ⟨d, rfl⟩ := Int.eq_ofNat_of_zero_le (show (0 : Int) ≤ d by omega)
      have hbd : bad ⟨tot, ep, fi, a, b, c, d⟩ = (0, 0) := by
        have e : ¬ ((fi : Int) < 0 ∨ 255 < (fi : Int)) := by omega
        unfold bad
        simp only [e, g0, g1, g2, g3]
        simp
      rw [hbd] at hk hs hq
      obtain rfl : 0 = k := hk
      obtain rfl : 0 = s := hs
      obtain rfl : 0 = q := hq
      have hbk := head_read tot ep fi a b c d ht1 ht2 (by omega) g0 g1 g2 g3
      have hMs := hB_size tot ep fi a b c d
      have HT : Hid (∀ w, Calls Tryd.prog 14 #[.agg #[.int .u32 tot, .int .u64 ep, .int .i64 fi, .int .i64 a, .int .i64 b, .int .i64 c, .int .i64 d]] w fun e w' => e = .returned (.string (hB (fldF tot ep fi a b c d))) ∧ Below w.heap.size w w') := fun w => rtexth_any tot ep fi a b c d ht1 ht2 (by omega) (by omega) (by omega) (by omega) (by omega) w
      have HRT0 : Hid (∀ w, Laid w → Calls Tryd.prog 12 #[.agg #[.int .u32 tot, .int .u64 ep, .int .i64 fi, .int .i64 a, .int .i64 b, .int .i64 c, .int .i64 d]] w fun e w' => e = .returned .nilIface ∧ Below w.heap.size w w') := fun w hl => by
        refine (right_any ⟨tot, ep, fi, a, b, c, d⟩ hfit w hl).mono ?_
        rintro e w' ⟨x, rfl, hx, hb⟩
        rw [hbd] at hx
        rcases hx with ⟨_, _, _, rfl⟩ | ⟨h, _⟩
        · exact ⟨rfl, hb⟩
        · omega
      have HP := Lib.hid (hput_nat tot ep fi a b c d ht1 ht2 (by omega) (by omega) (by omega) (by omega) (by omega) a0 len0 cap0 xs (w.alloc (.cells (hdC ⟨tot, ep, fi, a, b, c, d⟩) 26)) (bytes_kept hxs HB0.out) hnil (by omega) (fun w1 hb1 => HRT0.out w1 (HN0.out.kept hb1)))
      have HRD : Hid (∀ g w, Laid w → IsRdr w g ⟨hB (fldF tot ep fi a b c d), 0, 0, 0, 0, 0⟩ → Calls Tryd.prog 15 #[.pointer (some ⟨g, 0, none⟩)] w (RdPost g ⟨hB (fldF tot ep fi a b c d), 23, 1, 0, 0, 0⟩ ⟨tot, ep, fi, a, b, c, d⟩ w)) := fun g w hl hr => by
        have h := rd_any g _ w hl hr ⟨Nat.zero_le _, by show (hB (fldF tot ep fi a b c d)).size ≤ _; omega⟩
        rw [hbk.1, hbk.2] at h
        exact h
      obtain ⟨YL, hYL⟩ : ∃ YL, accB (fldF tot ep fi a b c d) 7 = YL := ⟨_, rfl⟩
      obtain ⟨M, hM⟩ : ∃ M, hB (fldF tot ep fi a b c d) = M := ⟨_, rfl⟩
      have hMl : strOfNums YL = M := by rw [← hM, ← hYL]; rfl
      have hYLl : YL.length = 23 := by rw [← strOfNums_size, hMl, ← hM]; exact hMs
      rw [hM] at HT HRD hMs
      rw [hYL] at HP
      obtain ⟨Y, hY⟩ : ∃ Y, Z ++ M = Y := ⟨_, rfl⟩
      have hYc : strOfNums (xs ++ YL) = Y := by rw [strOf_append, hMl, hZ]; exact hY
      have hsum : ¬ 9223372036854775807 < Z.size + M.size := by omega
      have hyy : (Y.toList == Y.toList) = true := by simp
      have hyy2 : (Y.toList != Y.toList) = false := by simp
      have heh : ∀ wx : World, (Op.equalIn 10000 26 (.agg #[.int .u32 tot, .int .u64 ep, .int .i64 fi, .int .i64 a, .int .i64 b, .int .i64 c, .int .i64 d]) (.agg #[.int .u32 tot, .int .u64 ep, .int .i64 fi, .int .i64 a, .int .i64 b, .int .i64 c, .int .i64 d])).run Tryd.prog wx = .ok true wx := eq_hd tot ep fi a b c d
      have HHR : Hid ((#[.int .u32 tot, .int .u64 ep, .int .i64 fi, .int .i64 a, .int .i64 b, .int .i64 c, .int .i64 d] : Array Value).all (·.oneCell') = true) := one_hd ⟨tot, ep, fi, a, b, c, d⟩
      have HML : Hid (M.size = 23 ∧ YL.length = 23 ∧ strOfNums YL = M ∧ strOfNums (xs ++ YL) = Y ∧ xs.length = len0) := ⟨hMs, hYLl, hMl, hYc, hxl⟩
      have hsec0 : sec1 0 = 0 := rfl
      have hef0 : ∀ wx : World, (Op.equalIn 10000 34 (.agg #[.int .i64 0, .int .i64 0, .int .i64 0]) (.agg #[.int .i64 0, .int .i64 0, .int .i64 0])).run Tryd.prog wx = .ok true wx := eq_flt 0 0 0
      have HO30 := Lib.hid (one_flt 0 0 0)
      have HL : Hid (∀ g w, IsRdr w g ⟨M, 23, 1, 0, 0, 0⟩ → Calls Tryd.prog 16 #[.pointer (some ⟨g, 0, none⟩)] w fun e w' => e = .returned (.int .i64 0) ∧ ∃ n, w' = w.drewN n) := fun g w h => by
        have := left_int g _ w h ⟨by show 23 ≤ M.size; omega, by show M.size ≤ _; omega⟩
        have e : ((M.size : Int) - ((23 : Nat) : Int)) = 0 := by omega
        rw [← e]; exact this
      clear hef HO3
      unfold HYes at HP
      simp only [hdC, fltV, hbd, Int.natCast_zero, hsec0] at HB0 HROW HN0 HRR HPLX HP hc0
      unfold RdPost at HRD
      simp only [hdC] at HRD
      simp only [hdC]
      (try clear hk); (try clear hs); (try clear hq); (try clear hs2); (try clear hbad)
      clear hl w0 w1 hxs hxr hnil hlc hfit hZ hxl hzs hf1 hf2 g0 g1 g2 g3 hle ht1 ht2 hbd hbk hMs hM hYL hMl hYLl hYc hb2 HRT hsec0
      go_enter Tryd.func3, Tryd.ntmps3
      go_wp2_with ((with_reducible show wpList _ _ _ _ _ _); refine wpList_load_row rfl 26 (.tmp 3) rfl w.heap.size rfl 26 #[.int .u32 tot, .int .u64 ep, .int .i64 fi, .int .i64 a, .int .i64 b, .int .i64 c, .int .i64 d] (0, 0) _ HROW.out Tryd.underlying26 rfl (by rw [size_hd]; rfl) ?_)
      refine HP.out.mono ?_
      rintro e w2 ⟨V, rfl, ho, hb2⟩
      have HB2 := Lib.hid (HB0.out.trans (hb2.mono HB0.out.size))
      have HR2 := Lib.hid ((hb2.block _ (lt_of_block HROW.out)).trans HROW.out)
      obtain ⟨N, hN⟩ : ∃ N, len0 + YL.length = N := ⟨_, rfl⟩
      rw [hN] at ho
      have hN23 : N = len0 + 23 := by rw [← hN, HML.out.2.1]
      have ho2 := owns_base ho HB0.out.size
      obtain ⟨G, c', rfl, hG1, hG2, hG3⟩ := own_open ho2 (by omega)
      have HO2 := Lib.hid ho2
      have HGC : Hid (len0 < N ∧ N ≤ c' ∧ N = len0 + 23) := ⟨by omega, hG3, hN23⟩
      have tlen : decide ((N : Int) < (len0 : Int)) = false := decide_eq_false (by omega)
      have tlen2 : decide (N < len0) = false := decide_eq_false (by omega)
      have tlen3 : (len0 : Int) ≤ (N : Int) := by omega
      have hsl := fun w => low_slice w G len0 N c' (by omega) hG3
      have hcne : ¬ c' = len0 := by omega
      clear ho ho2 hb2 HP HROW HN0 hc0 hN hN23 hG1 hG2 hG3
      go_wp2_with ((with_reducible show wpList _ _ _ _ _ _); refine wpList_load_row rfl 26 (.tmp 3) rfl w.heap.size rfl 26 #[.int .u32 tot, .int .u64 ep, .int .i64 fi, .int .i64 a, .int .i64 b, .int .i64 c, .int .i64 d] (0, 0) _ HR2.out Tryd.underlying26 rfl (by rw [size_hd]; rfl) ?_)
      refine (HPLX.out _).mono ?_
      rintro e w3 ⟨rfl, hb3⟩
      go_wp2_with fail
      refine (HRR.out _).mono ?_
      rintro e w4 ⟨rfl, hb4⟩
      have hb34 := hb3.trans (hb4.mono hb3.size)
      have hb5 : Below w4.heap.size w4 ((w4.alloc (.cells #[.int .i64 0, .int .i64 0, .int .i64 0] 34)).setRow w4.heap.size #[.int .i64 0, .int .i64 0, .int .i64 0]) := below_set2 ((Below.refl _ _).alloc (Nat.le_refl _) _) (Nat.le_refl _)
      have hb35 := hb34.trans (hb5.mono hb34.size)
      have HPF : Hid (PF w w.heap.size w4.heap.size #[.int .u32 tot, .int .u64 ep, .int .i64 fi, .int .i64 a, .int .i64 b, .int .i64 c, .int .i64 d] #[.int .i64 0, .int .i64 0, .int .i64 0] .nilIface 0 0 0 (.slice (some ⟨G, 0, none⟩) N c') N (xs ++ YL) ((w4.alloc (.cells #[.int .i64 0, .int .i64 0, .int .i64 0] 34)).setRow w4.heap.size #[.int .i64 0, .int .i64 0, .int .i64 0])) := by
        have hb := HB2.out.trans (hb35.mono HB2.out.size)
        exact ⟨(hb35.block _ (lt_of_block HR2.out)).trans HR2.out, setRow_heap _ _ _ _ _ _ (heap_alloc_new _ _), .inl ⟨rfl, rfl, rfl, rfl⟩, Byt.owns_kept HO2.out hb35, HN.out.kept hb, hb⟩
      have HF4 := Lib.hid (heap_alloc_new w4 (.cells #[.int .i64 0, .int .i64 0, .int .i64 0] 34))
      clear hb3 hb4 hb34 hb5 hb35 HB2 HR2 HO2 HRR
      go_wp2_with ((with_reducible show wpList _ _ _ _ _ _); refine wpList_store_row rfl 34 (.tmp 8) (.tmp 26) rfl w4.heap.size #[.int .i64 0, .int .i64 0, .int .i64 0] rfl rfl 34 #[.int .i64 0, .int .i64 0, .int .i64 0] HF4.out (by rw [size_flt]; rfl) rfl HO30.out ?_)
      generalize hW4 : (World.setRow _ w4.heap.size #[.int .i64 0, .int .i64 0, .int .i64 0]) = W at HPF
      obtain ⟨D, hD⟩ : ∃ D, w4.heap.size = D := ⟨_, rfl⟩
      obtain ⟨B0, hB0⟩ : ∃ B0, w.heap.size = B0 := ⟨_, rfl⟩
      have HPF : Hid (PF w B0 D #[.int .u32 tot, .int .u64 ep, .int .i64 fi, .int .i64 a, .int .i64 b, .int .i64 c, .int .i64 d] #[.int .i64 0, .int .i64 0, .int .i64 0] .nilIface 0 0 0 (.slice (some ⟨G, 0, none⟩) N c') N (xs ++ YL) W) := by have h := HPF.out; rw [hD] at h; rw [← hB0]; exact h
      rw [hD, hB0]
      have HB0E := Lib.hid hB0
      clear hW4 hD hB0 HF4
      have hcl := HPF.out.cells
      obtain ⟨d0, d1, d2, d3, d4, d5, d6, d7, d8, d9⟩ := hcl
      have hcw := HCV.out W HPF.out.below
      have HPD := Lib.hid HPF.out.drew
      go_region_held3 (fun wx => wx.cell? ⟨B0, 0, none⟩ = some (.int .u32 tot) ∧ wx.cell? ⟨B0, 1, none⟩ = some (.int .u64 ep) ∧ wx.cell? ⟨B0, 2, none⟩ = some (.int .i64 fi) ∧ wx.cell? ⟨B0, 3, none⟩ = some (.int .i64 a) ∧ wx.cell? ⟨B0, 4, none⟩ = some (.int .i64 b) ∧ wx.cell? ⟨B0, 5, none⟩ = some (.int .i64 c) ∧ wx.cell? ⟨B0, 6, none⟩ = some (.int .i64 d) ∧ wx.cell? ⟨D, 0, none⟩ = some (.int .i64 0) ∧ wx.cell? ⟨D, 1, none⟩ = some (.int .i64 0) ∧ wx.cell? ⟨D, 2, none⟩ = some (.int .i64 0) ∧ (convert 22 9 (.slice a0 len0 cap0)).run Tryd.prog wx = .ok (.string Z) wx) (first | (go_keep; done) | exact HKP.out | (refine ⟨?_, ?_, ?_, ?_, ?_, ?_, ?_, ?_, ?_, ?_, ?_⟩ <;> first | assumption | exact HCV.out _ HPD.out.below))
        (first
          | (go_at_call 11; ((with_reducible refine (of_wrong _ HPD.out.wr (kept_refl _)).mono ?_); rintro e w5 ⟨rfl, hb5⟩); (try simp only [fltV, Int.natCast_zero]); have HP5 := Lib.hid (HPD.out.keep hb5); have HKP := Lib.hid (kcat HP5.out.cells (HCV.out _ HP5.out.below)); clear hb5)
          | (go_at_call 12; refine (HRT0.out _ HP5.out.laid).mono ?_; rintro e w6 ⟨rfl, hb6⟩; have HP6 := Lib.hid (HP5.out.keep hb6); have HKP := Lib.hid (kcat HP6.out.cells (HCV.out _ HP6.out.below)); clear hb6)
          | (go_at_call 11; ((with_reducible refine (of_wrong _ HP6.out.wr (kept_refl _)).mono ?_); rintro e w7 ⟨rfl, hb7⟩); (try simp only [fltV, Int.natCast_zero]); have HP7 := Lib.hid (HP6.out.keep hb7); have HKP := Lib.hid (kcat HP7.out.cells (HCV.out _ HP7.out.below)); clear hb7)
          | fail)
      have hk7 := (HP7.out.cells).2.2.2.2.2.2.2.1
      simp only [Int.natCast_zero] at hk7
      have hcp := Go.Proofs.YteadednglodgpaaDoor.Byt.conv_part (c' := c' - len0) HP7.out.own rfl HML.out.2.2.2.2 (show YL.length = N - len0 by have := HGC.out; have := HML.out.2.1; omega)
      rw [HML.out.2.2.1] at hcp
      clear d0 d1 d2 d3 d4 d5 d6 d7 d8 d9 hcw
      go_wp2_with fail
      refine (new_any M _).mono ?_
      rintro e w8 ⟨g, hg, rfl, hr8, hb8⟩
      have HP8 := Lib.hid (HP7.out.keep hb8)
      have HR8 := Lib.hid hr8
      have HGG : Hid (w7.heap.size ≤ g ∧ g < w8.heap.size ∧ B0 < g) := ⟨hg, hr8.lt, by have := lt_of_block HP7.out.hdr; omega⟩
      clear hr8 hb8 hg hcp hk7 hsl hcne tlen tlen2 tlen3
      have hcl8 := HP8.out.cells
      obtain ⟨d0, d1, d2, d3, d4, d5, d6, d7, d8, d9⟩ := hcl8
      have HCY : Hid (∀ W, PF w B0 D #[.int .u32 tot, .int .u64 ep, .int .i64 fi, .int .i64 a, .int .i64 b, .int .i64 c, .int .i64 d] #[.int .i64 0, .int .i64 0, .int .i64 0] .nilIface 0 0 0 (.slice (some ⟨G, 0, none⟩) N c') N (xs ++ YL) W → (convert 22 9 (.slice (some ⟨G, 0, none⟩) N c')).run Tryd.prog W = .ok (.string Y) W) := fun W f => by
        rw [← HML.out.2.2.2.1]; exact conv_own f.own
      have hcy := HCY.out _ HP8.out
      have HPD8 := Lib.hid HP8.out.drew
      go_wp2_with fail
      go_region_held3 (fun wx => wx.cell? ⟨B0, 0, none⟩ = some (.int .u32 tot) ∧ wx.cell? ⟨B0, 1, none⟩ = some (.int .u64 ep) ∧ wx.cell? ⟨B0, 2, none⟩ = some (.int .i64 fi) ∧ wx.cell? ⟨B0, 3, none⟩ = some (.int .i64 a) ∧ wx.cell? ⟨B0, 4, none⟩ = some (.int .i64 b) ∧ wx.cell? ⟨B0, 5, none⟩ = some (.int .i64 c) ∧ wx.cell? ⟨B0, 6, none⟩ = some (.int .i64 d) ∧ (convert 22 9 (.slice (some ⟨G, 0, none⟩) N c')).run Tryd.prog wx = .ok (.string Y) wx) (first | (go_keep; done) | exact HKP8.out | (refine ⟨?_, ?_, ?_, ?_, ?_, ?_, ?_, ?_⟩ <;> first | assumption | exact HCY.out _ HPD8.out))
        (first
          | (go_at_call 10; refine (HPLX.out _).mono ?_; rintro e w9 ⟨rfl, hb9⟩; have HP9 := Lib.hid (HPD8.out.keep (by exact hb9)); have HR9 := Lib.hid ((HR8.out.drewN 1).kept (by exact hb9)); have HS9 : Hid (w8.heap.size ≤ w9.heap.size) := (by exact hb9.size); have HKP8 := Lib.hid (kc7 HP9.out.cells (HCY.out _ HP9.out)); clear hb9)
          | (go_at_call 14; refine (HT.out _).mono ?_; rintro e w10 ⟨rfl, hb10⟩; have HP10 := Lib.hid (HP9.out.keep hb10); have HR10 := Lib.hid (HR9.out.kept hb10); have HKP8 := Lib.hid (kc7 HP10.out.cells (HCY.out _ HP10.out)); clear hb10)
          | fail)
      have HRC := Lib.hid (HRD.out g _ HP10.out.laid HR10.out)
      go_wp2_with fail
      refine HRC.out.mono ?_
      rintro e w11 ⟨x, rfl, hw11, hr11, hj11⟩
      obtain rfl : x = .nilIface := by
        rcases hw11 with ⟨_, _, _, h⟩ | ⟨h, _⟩
        · exact h
        · exact absurd h (by show ¬ (1 ≤ 0); omega)
      have hh11 := (hj11.block B0 (lt_of_block HP10.out.hdr) (by have := HGG.out.2.2; omega)).trans HP10.out.hdr
      have hbw : Below w.heap.size w w11 := HP10.out.below.trans (hj11.below (by have h1 := HGG.out; have h2 := HB0E.out; omega) HR10.out.lt)
      have hb12 : Below w11.heap.size w11 ((w11.alloc (.cells hd0 26)).setRow w11.heap.size #[.int .u32 tot, .int .u64 ep, .int .i64 fi, .int .i64 a, .int .i64 b, .int .i64 c, .int .i64 d]) := below_set2 ((Below.refl _ _).alloc (Nat.le_refl _) _) (Nat.le_refl _)
      have HB12 := Lib.hid (hbw.trans (hb12.mono hbw.size))
      have HH12 := Lib.hid ((hb12.block _ (lt_of_block hh11)).trans hh11)
      have HM11 := Lib.hid (heap_alloc_new w11 (.cells hd0 26))
      have HM12 := Lib.hid (setRow_heap _ _ _ #[.int .u32 tot, .int .u64 ep, .int .i64 fi, .int .i64 a, .int .i64 b, .int .i64 c, .int .i64 d] _ _ (heap_alloc_new w11 (.cells hd0 26)))
      have HR12 := Lib.hid (hr11.kept hb12)
      unfold hd0 at HB12 HH12 HM11 HM12 HR12
      have u0 := cell_of_row _ _ 0 _ _ _ HM12.out
      have v0 := cell_of_row _ _ 0 _ _ _ HH12.out
      have u1 := cell_of_row _ _ 1 _ _ _ HM12.out
      have v1 := cell_of_row _ _ 1 _ _ _ HH12.out
      have u2 := cell_of_row _ _ 2 _ _ _ HM12.out
      have v2 := cell_of_row _ _ 2 _ _ _ HH12.out
      have u3 := cell_of_row _ _ 3 _ _ _ HM12.out
      have v3 := cell_of_row _ _ 3 _ _ _ HH12.out
      have u4 := cell_of_row _ _ 4 _ _ _ HM12.out
      have v4 := cell_of_row _ _ 4 _ _ _ HH12.out
      have u5 := cell_of_row _ _ 5 _ _ _ HM12.out
      have v5 := cell_of_row _ _ 5 _ _ _ HH12.out
      have u6 := cell_of_row _ _ 6 _ _ _ HM12.out
      have v6 := cell_of_row _ _ 6 _ _ _ HH12.out
      simp only [List.getElem?_toArray, List.getElem?_cons_zero, List.getElem?_cons_succ] at u0 u1 u2 u3 u4 u5 u6 v0 v1 v2 v3 v4 v5 v6
      clear hw11 hr11 hj11 hh11 hbw hb12 HRC d0 d1 d2 d3 d4 d5 d6 d7 d8 d9 hcy
      go_wp2_with (first
        | ((with_reducible show wpList _ _ _ _ _ _); refine wpList_store_row rfl 26 (.tmp 10) (.tmp 80) rfl w11.heap.size #[.int .u32 tot, .int .u64 ep, .int .i64 fi, .int .i64 a, .int .i64 b, .int .i64 c, .int .i64 d] rfl rfl 26 #[.int .u32 0, .int .u64 0, .int .i64 0, .int .i64 0, .int .i64 0, .int .i64 0, .int .i64 0] HM11.out (by rw [size_hd]; rfl) rfl HHR.out ?_)
        | (go_at_call 16; refine (HL.out g _ HR12.out).mono ?_; rintro e w13 ⟨rfl, k13, rfl⟩; have HB13 := Lib.hid (below_drewN HB12.out k13); have HL13 := Lib.hid (HN.out.kept HB13.out))
        | (go_at_call 7; refine (Go.Proofs.YteadednglodgpaaDoor.Hdr.awake_any _ HL13.out).mono ?_; rintro e w14 ⟨rfl, hb14⟩; have HB14 := Lib.hid (HB13.out.trans (hb14.mono HB13.out.size)); clear hb14))
      go_ret
      exact ⟨rfl, HB14.out⟩
    · have tk : ((k : Int) != 0) = true := by simp; exact hbad
      have HP := Lib.hid (hput_no h7 hfit (by rw [hk]; exact hbad) a0 len0 cap0 xs _ HN0.out (bytes_kept hxs HB0.out) hnil (by omega))
      unfold HNo at HP
      unfold RtPost at HRT
      rw [hs, hk, hq] at HP HRR
      simp only [hk, hs2, hq] at HRT
      obtain ⟨tot, ep, fi, a, b, c, d⟩ := h7
      simp only [hdC, fltV] at HB0 HROW HN0 HRT HRR HPLX HP hc0
      simp only [hdC]
      clear hl w0 w1 hxs hxr hnil hlc hfit hk hs hq hs2 hZ hbad hxl hzs
      go_enter Tryd.func3, Tryd.ntmps3
      go_wp2_with ((with_reducible show wpList _ _ _ _ _ _); refine wpList_load_row rfl 26 (.tmp 3) rfl w.heap.size rfl 26 #[.int .u32 tot, .int .u64 ep, .int .i64 fi, .int .i64 a, .int .i64 b, .int .i64 c, .int .i64 d] (0, 0) _ HROW.out Tryd.underlying26 rfl (by rw [size_hd]; rfl) ?_)
      refine HP.out.mono ?_
      rintro e w2 ⟨V, x, rfl, ho, hw, hb2⟩
      have HB2 := Lib.hid (HB0.out.trans (hb2.mono HB0.out.size))
      have HR2 := Lib.hid ((hb2.block _ (lt_of_block HROW.out)).trans HROW.out)
      have HO2 := Lib.hid (owns_base ho HB0.out.size)
      have HW2 := Lib.hid hw
      clear ho hw hb2 HP HROW HN0 hc0
      go_wp2_with ((with_reducible show wpList _ _ _ _ _ _); refine wpList_load_row rfl 26 (.tmp 3) rfl w.heap.size rfl 26 #[.int .u32 tot, .int .u64 ep, .int .i64 fi, .int .i64 a, .int .i64 b, .int .i64 c, .int .i64 d] (0, 0) _ HR2.out Tryd.underlying26 rfl (by rw [size_hd]; rfl) ?_)
      refine (HPLX.out _).mono ?_
      rintro e w3 ⟨rfl, hb3⟩
      go_wp2_with fail
      refine (HRR.out _).mono ?_
      rintro e w4 ⟨rfl, hb4⟩
      have hb34 := hb3.trans (hb4.mono hb3.size)
      have hb5 : Below w4.heap.size w4 ((w4.alloc (.cells #[.int .i64 0, .int .i64 0, .int .i64 0] 34)).setRow w4.heap.size #[.int .i64 k, .int .i64 s, .int .i64 q]) := below_set2 ((Below.refl _ _).alloc (Nat.le_refl _) _) (Nat.le_refl _)
      have hb35 := hb34.trans (hb5.mono hb34.size)
      have HPF : Hid (PF w w.heap.size w4.heap.size #[.int .u32 tot, .int .u64 ep, .int .i64 fi, .int .i64 a, .int .i64 b, .int .i64 c, .int .i64 d] #[.int .i64 k, .int .i64 s, .int .i64 q] x k s q V len0 xs ((w4.alloc (.cells #[.int .i64 0, .int .i64 0, .int .i64 0] 34)).setRow w4.heap.size #[.int .i64 k, .int .i64 s, .int .i64 q])) := by
        have hb := HB2.out.trans (hb35.mono HB2.out.size)
        exact ⟨(hb35.block _ (lt_of_block HR2.out)).trans HR2.out, setRow_heap _ _ _ _ _ _ (heap_alloc_new _ _), HW2.out.kept (KeptW.below hb35), Byt.owns_kept HO2.out hb35, HN.out.kept hb, hb⟩
      have HF4 := Lib.hid (heap_alloc_new w4 (.cells #[.int .i64 0, .int .i64 0, .int .i64 0] 34))
      clear hb3 hb4 hb34 hb5 hb35 HB2 HR2 HO2 HW2 HPLX HRR
      go_wp2_with ((with_reducible show wpList _ _ _ _ _ _); refine wpList_store_row rfl 34 (.tmp 8) (.tmp 26) rfl w4.heap.size #[.int .i64 k, .int .i64 s, .int .i64 q] rfl rfl 34 #[.int .i64 0, .int .i64 0, .int .i64 0] HF4.out (by rw [size_flt]; rfl) rfl HO3.out ?_)
      generalize hW4 : (World.setRow _ w4.heap.size #[.int .i64 k, .int .i64 s, .int .i64 q]) = W at HPF
      obtain ⟨D, hD⟩ : ∃ D, w4.heap.size = D := ⟨_, rfl⟩
      obtain ⟨B0, hB0⟩ : ∃ B0, w.heap.size = B0 := ⟨_, rfl⟩
      have HPF : Hid (PF w B0 D #[.int .u32 tot, .int .u64 ep, .int .i64 fi, .int .i64 a, .int .i64 b, .int .i64 c, .int .i64 d] #[.int .i64 k, .int .i64 s, .int .i64 q] x k s q V len0 xs W) := by have h := HPF.out; rw [hD] at h; rw [← hB0]; exact h
      rw [hD, hB0]
      have HB0E := Lib.hid hB0
      clear hW4 hD hB0 HF4
      obtain ⟨d0, d1, d2, d3, d4, d5, d6, d7, d8, d9⟩ := HPF.out.cells
      have hcw := HCV.out W HPF.out.below
      have HPD := Lib.hid HPF.out.drew
      go_region_held3 (fun wx => wx.cell? ⟨B0, 0, none⟩ = some (.int .u32 tot) ∧ wx.cell? ⟨B0, 1, none⟩ = some (.int .u64 ep) ∧ wx.cell? ⟨B0, 2, none⟩ = some (.int .i64 fi) ∧ wx.cell? ⟨B0, 3, none⟩ = some (.int .i64 a) ∧ wx.cell? ⟨B0, 4, none⟩ = some (.int .i64 b) ∧ wx.cell? ⟨B0, 5, none⟩ = some (.int .i64 c) ∧ wx.cell? ⟨B0, 6, none⟩ = some (.int .i64 d) ∧ wx.cell? ⟨D, 0, none⟩ = some (.int .i64 k) ∧ wx.cell? ⟨D, 1, none⟩ = some (.int .i64 s) ∧ wx.cell? ⟨D, 2, none⟩ = some (.int .i64 q) ∧ (convert 22 9 (.slice a0 len0 cap0)).run Tryd.prog wx = .ok (.string Z) wx) (first | (go_keep; done) | exact HKP.out | (refine ⟨?_, ?_, ?_, ?_, ?_, ?_, ?_, ?_, ?_, ?_, ?_⟩ <;> first | assumption | exact HCV.out _ HPD.out.below))
        (first
          | (go_at_call 11; ((with_reducible refine (of_wrong _ HPD.out.wr (kept_refl _)).mono ?_); rintro e w5 ⟨rfl, hb5⟩); (try simp only [fltV]); have HP5 := Lib.hid (HPD.out.keep hb5); have HKP := Lib.hid (kcat HP5.out.cells (HCV.out _ HP5.out.below)); clear hb5)
          | (go_at_call 12; refine (HRT.out _ HP5.out.laid).mono ?_; rintro e w6 ⟨y, rfl, hw6, hb6⟩; have HW6 := Lib.hid hw6; have HP6 := Lib.hid (HP5.out.keep hb6); have HKP := Lib.hid (kcat HP6.out.cells (HCV.out _ HP6.out.below)); clear hb6 hw6)
          | (go_at_call 11; ((with_reducible refine (of_wrong _ HW6.out (kept_refl _)).mono ?_); rintro e w7 ⟨rfl, hb7⟩); (try simp only [fltV]); have HP7 := Lib.hid (HP6.out.keep hb7); have HKP := Lib.hid (kcat HP7.out.cells (HCV.out _ HP7.out.below)); clear hb7)
          | fail)
      have hcv7 := Go.Proofs.YteadednglodgpaaDoor.Nam.conv_owns HP7.out.own
      rw [HZ.out] at hcv7
      go_wp2_with (go_at_call 7; refine (Go.Proofs.YteadednglodgpaaDoor.Hdr.awake_any _ HP7.out.laid).mono ?_; rintro e w9 ⟨rfl, hb9⟩; have HB9 := Lib.hid (HP7.out.below.trans (hb9.mono HP7.out.below.size)); clear hb9)
      go_ret
      exact ⟨rfl, HB9.out⟩


end Go.Proofs.YteadednglodgpaaDoor.headerPuts
