
/- The function PairsPuts returns true for every slice of bytes and every slice of pairs. Condition: the package-level variables hold what the program lays in them (the card ties that). This text: the walk through the Go text; the row is in the text without the W at its name's end. -/

import Derived.Test.YtplllmfbpliciaaGreatDoorArgs

import Derived.Test.YtplllmfbpliciaaGreatDoorPaiG

import Derived.Test.YtplllmfbpliciaaGreatDoorPaiA

import Derived.Test.YtplllmfbpliciaaGreatDoorPrtL

import Derived.Test.YtplllmfbpliciaaGreatDoorCnv

import Derived.Deep.RegionHeld3

namespace Go.Proofs.YtplllmfbpliciaaGreatDoor.pairsPuts

open Go.RowKit Go.PlainAid Go.Proofs.YtplllmfbpliciaaGreatDoor.Args

set_option linter.unusedVariables false

open Go.Proofs.YtplllmfbpliciaaGreatDoor.Flt Go.Proofs.YtplllmfbpliciaaGreatDoor.Rdr Go.Proofs.YtplllmfbpliciaaGreatDoor.Oct Go.Proofs.YtplllmfbpliciaaGreatDoor.Byt Go.Proofs.YtplllmfbpliciaaGreatDoor.Pai

open Go.Proofs.YtplllmfbpliciaaGreatDoor.Prt (low_any)

theorem kept_refl (w : World) : KeptW w w := fun _ _ _ => rfl
/-- What stands behind Put and the document's Wrong. -/
structure PG (w : World) (D : Nat) (fv : Array Value) (x : Value) (k : Nat) (s q : Int) (V : Value) (n : Nat) (ys : List Int) (W : World) : Prop where
  flt : W.heap[D]? = some (.cells fv 31 (0, 0))
  wr : Wrong W x k s q
  own : W.ownsRow w.heap.size 5 1 V n (ys.map (Value.int .u8))
  names : Names W
  below : Below w.heap.size w W
theorem PG.keep {w W W' : World} {D : Nat} {fv : Array Value} {x V : Value} {k n : Nat} {s q : Int} {ys : List Int} (f : PG w D fv x k s q V n ys W) (b : Below W.heap.size W W') : PG w D fv x k s q V n ys W' :=
  ⟨(b.block _ (lt_of_block f.flt)).trans f.flt, f.wr.kept (KeptW.below b), Byt.owns_kept f.own b, f.names.kept b, f.below.trans (b.mono f.below.size)⟩
theorem PG.drew {w W : World} {D : Nat} {fv : Array Value} {x V : Value} {k n : Nat} {s q : Int} {ys : List Int} (f : PG w D fv x k s q V n ys W) : PG w D fv x k s q V n ys W.drew := f.keep ⟨rfl, rfl, rfl, Nat.le_refl _, fun _ _ => rfl⟩
theorem PG.cells {w W : World} {D : Nat} {x V : Value} {k n : Nat} {s q : Int} {ys : List Int} (f : PG w D #[.int .i64 k, .int .i64 s, .int .i64 q] x k s q V n ys W) :
    W.cell? ⟨D, 0, none⟩ = some (.int .i64 k) ∧ W.cell? ⟨D, 1, none⟩ = some (.int .i64 s) ∧ W.cell? ⟨D, 2, none⟩ = some (.int .i64 q) := by
  refine ⟨?_, ?_, ?_⟩
  all_goals (rw [cell_of_row W _ _ _ _ _ f.flt]; rfl)
theorem k3 {a b c d : Prop} (h : a ∧ b ∧ c) (hd : d) : a ∧ b ∧ c ∧ d := ⟨h.1, h.2.1, h.2.2, hd⟩
set_option maxRecDepth 8000 in
set_option maxHeartbeats 6000000 in
theorem walk (a0 : Option Addr) (len0 cap0 : Nat) (z0 : List Int) (a1 : Option Addr) (len1 cap1 : Nat) (w : World) (w0 : IsRow .u8 w a0 len0 cap0 z0) (w1 : IsRecs w a1 len1 cap1 [.int .i64, .int .i64]) (hn : Go.Proofs.YtplllmfbpliciaaGreatDoor.Flt.Names w) :
    Calls Tryz.prog 3 #[.slice a0 len0 cap0, .slice a1 len1 cap1] w fun e w' => e = .returned (.bool true) ∧ Below w.heap.size w w' := by
  have HN := Lib.hid hn
  clear hn
  obtain ⟨xs, hxs, hxr, hnil, hlc⟩ := bytes_of w0
  obtain ⟨l, hll, hpa, hwd, hlc1, hcm1⟩ := pairs_of w1
  by_cases hl : 50 < (len0 : Int)
  · have t : decide (50 < (len0 : Int)) = true := decide_eq_true hl
    clear hl w0 w1 hxs hxr hnil hlc hll hpa hwd hlc1 hcm1
    go_enter Tryz.func3, Tryz.ntmps3
    go_wp2_with (go_at_call 5; refine (Go.Proofs.YtplllmfbpliciaaGreatDoor.Pai.awake_any _).mono ?_; rintro e w' ⟨rfl, hb⟩)
    go_ret
    exact ⟨rfl, hb⟩
  · have t : decide (50 < (len0 : Int)) = false := decide_eq_false hl
    by_cases hl1 : 300 < (len1 : Int)
    · have t1 : decide (300 < (len1 : Int)) = true := decide_eq_true hl1
      clear hl hl1 w0 w1 hxs hxr hnil hlc hll hpa hwd hlc1 hcm1
      go_enter Tryz.func3, Tryz.ntmps3
      go_wp2_with (go_at_call 5; refine (Go.Proofs.YtplllmfbpliciaaGreatDoor.Pai.awake_any _).mono ?_; rintro e w' ⟨rfl, hb⟩)
      go_ret
      exact ⟨rfl, hb⟩
    have t1 : decide (300 < (len1 : Int)) = false := decide_eq_false hl1
    have hl0 : (len0 : Int) ≤ 50 := by omega
    have hl300 : len1 ≤ 300 := by omega
    have hxl : xs.length = len0 := hxs.1
    have HXL := Lib.hid hxl
    have HLL := Lib.hid hll
    have HLC1 : Hid (l.length ≤ cap1) := by show _ ≤ _; omega
    have HPA := Lib.hid hpa
    have HWD := Lib.hid hwd
    have HXB := Lib.hid hxs
    have HNIL := Lib.hid hnil
    have HLEN : Hid (l.length ≤ 300) := by show _ ≤ _; omega
    have HCV : Hid (∀ wx, Below w.heap.size w wx → (convert 22 9 (.slice a0 len0 cap0)).run Tryz.prog wx = .ok (.string (strOfNums xs)) wx) := fun w' b => conv_kept hxs b
    obtain ⟨Z, hZ⟩ : ∃ Z, strOfNums xs = Z := ⟨_, rfl⟩
    have HZ := Lib.hid hZ
    have hzs : Z.size = len0 := by rw [← hZ, strOfNums_size]; exact hxl
    rw [hZ] at HCV
    have hzz : (Z.toList == Z.toList) = true := by simp
    have hzz2 : (Z.toList != Z.toList) = false := by simp
    have hc1 := HCV.out _ (Below.refl _ w)
    have HTB := Lib.hid (fun wx b => wrong10_any a1 cap1 l wx (HPA.out.kept (w' := wx) b) (by have := HLEN.out; omega))
    clear hl hl1 w0 w1 hxs hxr hnil hlc hll hpa hwd hlc1 hcm1 hxl hZ
    by_cases hbad : (badP l).1 = 0
    · have HBD := Lib.hid hbad
      have hP := pput_yes l a1 cap1 a0 len0 cap0 xs w hbad HN.out HPA.out HWD.out (by have := HLEN.out; omega) HLC1.out HXB.out HNIL.out (by omega)
      have hbd : badP l = (0, 0) := by
        have key : ∀ (pre : List P2) (m : List P2), (Prt.fb bad1 pre m).1 = 0 → Prt.fb bad1 pre m = (0, 0) := by
          intro pre m
          induction m generalizing pre with
          | nil => intro _; rfl
          | cons y m ih =>
            intro h
            rw [Prt.fb] at h ⊢
            split at h
            · rename_i h0
              rw [if_pos h0]
              exact ih _ h
            · rename_i h0
              exact absurd h h0
        exact key [] l hbad
      have hRD := pairs_read l hbad _ rfl
      have hTX := fun wx b => text10_any a1 cap1 l wx (HPA.out.kept (w' := wx) b) (right_all hbad) (by have := HLEN.out; omega)
      have hTL := pairB_len l
      have HPU := Lib.hid hP
      have HTX := Lib.hid hTX
      have HRD := Lib.hid hRD
      unfold PYes at HPU
      rw [hbd] at HTB
      rw [HLL.out] at HPU HTB HTX HRD
      have hYl : (pairB l).length ≤ 8000 := by have := HLEN.out; omega
      obtain ⟨YL, hYL⟩ : ∃ YL, pairB l = YL := ⟨_, rfl⟩
      rw [hYL] at HPU HTX HRD hYl
      obtain ⟨M, hM⟩ : ∃ M, strOfNums YL = M := ⟨_, rfl⟩
      rw [hM] at HTX HRD
      have hMs : M.size = YL.length := by rw [← hM, strOfNums_size]
      have HMS : Hid (M.size ≤ 8000 ∧ strOfNums YL = M) := ⟨by omega, hM⟩
      obtain ⟨Y, hY⟩ : ∃ Y, Z ++ M = Y := ⟨_, rfl⟩
      have HYC : Hid (strOfNums (xs ++ YL) = Y) := by show _ = _; rw [strOf_append, hM, HZ.out]; exact hY
      have hsum : ¬ 9223372036854775807 < Z.size + M.size := by omega
      have hyy : (Y.toList == Y.toList) = true := by simp
      have hyy2 : (Y.toList != Y.toList) = false := by simp
      have hef0 : ∀ wx : World, (Op.equalIn 10000 31 (.agg #[.int .i64 0, .int .i64 0, .int .i64 0]) (.agg #[.int .i64 0, .int .i64 0, .int .i64 0])).run Tryz.prog wx = .ok true wx := eq_flt 0 0 0
      have HO30 := Lib.hid (one_flt 0 0 0)
      clear hP hRD hTX hTL hYL hM hbad hbd hzs hMs hYl
      go_enter Tryz.func3, Tryz.ntmps3
      go_wp2_with fail
      refine HPU.out.mono ?_
      rintro e w2 ⟨V, N, rfl, ho, hb2⟩
      have HB2 := Lib.hid hb2
      have ho2 := ho
      obtain ⟨A, c, A2, c2, rfl, hle, hsl, hcp⟩ := low_any ho2 HXL.out
      have HCP := Lib.hid hcp
      have HO2 := Lib.hid ho2
      have tlen : decide ((N : Int) < (len0 : Int)) = false := decide_eq_false (by omega)
      have tlen2 : decide (N < len0) = false := decide_eq_false (by omega)
      have tlen3 : (len0 : Int) ≤ (N : Int) := by omega
      clear ho hb2 ho2 HPU hc1 hcp hle
      go_wp2_with fail
      refine (HTB.out _ HB2.out).mono ?_
      rintro e w3 ⟨rfl, hb3⟩
      simp only [fltV, Int.natCast_zero, show sec4 0 = 0 from rfl]
      have hb4 : Below w3.heap.size w3 (w3.alloc (.cells #[.int .i64 0, .int .i64 0, .int .i64 0] 31)) := (Below.refl _ _).alloc (Nat.le_refl _) _
      have hb34 := hb3.trans (hb4.mono hb3.size)
      have HPF : Hid (PG w w3.heap.size #[.int .i64 (0 : Nat), .int .i64 0, .int .i64 0] .nilIface 0 0 0 (.slice A N c) N (xs ++ YL) (w3.alloc (.cells #[.int .i64 0, .int .i64 0, .int .i64 0] 31))) := by
        have hb := HB2.out.trans (hb34.mono HB2.out.size)
        exact ⟨heap_alloc_new _ _, .inl ⟨rfl, rfl, rfl, rfl⟩, Byt.owns_kept HO2.out hb34, HN.out.kept hb, hb⟩
      clear hb3 hb4 hb34 HTB
      go_wp2_with fail
      generalize hW4 : (w3.alloc (.cells #[.int .i64 0, .int .i64 0, .int .i64 0] 31)) = W at HPF
      obtain ⟨D, hD⟩ : ∃ D, w3.heap.size = D := ⟨_, rfl⟩
      rw [hD] at HPF
      rw [hD]
      clear hW4 hD
      have hcl := HPF.out.cells
      simp only [Int.natCast_zero] at hcl
      obtain ⟨d0, d1, d2⟩ := hcl
      have hcw := HCV.out W HPF.out.below
      have HPD := Lib.hid HPF.out.drew
      go_region_held3 (fun wx => wx.cell? ⟨D, 0, none⟩ = some (.int .i64 0) ∧ wx.cell? ⟨D, 1, none⟩ = some (.int .i64 0) ∧ wx.cell? ⟨D, 2, none⟩ = some (.int .i64 0) ∧ (convert 22 9 (.slice a0 len0 cap0)).run Tryz.prog wx = .ok (.string Z) wx) (first | (go_keep; done) | exact HKP.out | (refine ⟨?_, ?_, ?_, ?_⟩ <;> first | assumption | exact HCV.out _ HPD.out.below))
        (first
          | (go_at_call 8; ((with_reducible refine (of_wrong _ HPD.out.wr (kept_refl _)).mono ?_); rintro e w5 ⟨rfl, hb5⟩); (try simp only [fltV, Int.natCast_zero]); have HP7 := Lib.hid (HPD.out.keep hb5); have HKP := Lib.hid (k3 HP7.out.cells (HCV.out _ HP7.out.below)); clear hb5)
          | fail)
      have hk7 := (HP7.out.cells).1
      simp only [Int.natCast_zero] at hk7
      have hcp := HCP.out _ HP7.out.own
      rw [HMS.out.2] at hcp
      clear d0 d1 d2 hcw HCP
      go_wp2_with fail
      refine (new_any M _).mono ?_
      rintro e w8 ⟨g, hg, rfl, hr8, hb8⟩
      have HP8 := Lib.hid (HP7.out.keep hb8)
      have HR8 := Lib.hid hr8
      have HGG : Hid (w.heap.size ≤ g) := by have h1 := HP7.out.below.size; show _ ≤ _; omega
      clear hr8 hb8 hg hcp hk7 hsl tlen tlen2 tlen3
      have HCY : Hid (∀ W, PG w D #[.int .i64 (0 : Nat), .int .i64 0, .int .i64 0] .nilIface 0 0 0 (.slice A N c) N (xs ++ YL) W → (convert 22 9 (.slice A N c)).run Tryz.prog W = .ok (.string Y) W) := fun W f => by
        rw [← HYC.out]; exact Nam.conv_owns f.own
      have hcy := HCY.out _ HP8.out
      have HPD8 := Lib.hid HP8.out.drew
      go_wp2_with fail
      go_region_held3 (fun wx => (convert 22 9 (.slice A N c)).run Tryz.prog wx = .ok (.string Y) wx) (first | (go_keep; done) | exact HKP8.out | exact HCY.out _ HPD8.out | assumption)
        (first
          | (go_at_call 10; refine (HTX.out _ HPD8.out.below).mono ?_; rintro e w10 ⟨rfl, hb10⟩; have HP10 := Lib.hid (HPD8.out.keep (by exact hb10)); have HR10 := Lib.hid ((HR8.out.drewN 1).kept (by exact hb10)); have HKP8 := Lib.hid (HCY.out _ HP10.out); clear hb10)
          | fail)
      have hRC := pread_any g ⟨M, 0, 0, 0, 0, 0⟩ len1 _ HP10.out.names HR10.out ⟨Nat.zero_le _, by show M.size ≤ _; have := HMS.out.1; omega⟩
      rw [show ((len1 : Nat) : Int).toNat = len1 from rfl, HRD.out.1, HRD.out.2] at hRC
      have HRC := Lib.hid hRC
      clear hRC
      go_wp2_with fail
      refine HRC.out.mono ?_
      rintro e w11 hpost
      rcases hpost with ⟨h, _⟩ | ⟨_, V3, rfl, hown, hr11, hj11⟩
      · exact absurd rfl h
      obtain ⟨P2, c3, rfl, hpt, _⟩ := own_at hown
      have hbw : Below w.heap.size w w11 := HP10.out.below.trans (hj11.below HGG.out HR10.out.lt)
      have HSM := Lib.hid (same10_yes P2 a1 c3 cap1 l w11 hpt (HPA.out.kept hbw) (by have := HLEN.out; unfold maxLen; omega))
      rw [HLL.out] at HSM
      rw [HLL.out]
      have HBW := Lib.hid hbw
      have HR11 := Lib.hid hr11
      have HL : Hid (∀ wx, IsRdr wx g (RP4 M M.size) → Calls Tryz.prog 13 #[.pointer (some ⟨g, 0, none⟩)] wx fun e w' => e = .returned (.int .i64 0) ∧ ∃ n, w' = wx.drewN n) := fun wx h => by
        have := left_int g _ wx h ⟨Nat.le_refl _, by show M.size ≤ _; have := HMS.out.1; omega⟩
        have e : ((M.size : Int) - ((M.size : Nat) : Int)) = 0 := by omega
        rw [← e]; exact this
      clear hpt hbw hown hr11 hj11 HRC hcy
      go_wp2_with (first
        | (go_at_call 12; refine HSM.out.mono ?_; rintro e w12 ⟨rfl, k12, rfl⟩; have HB12 := Lib.hid (below_drewN HBW.out k12); have HR12 := Lib.hid (HR11.out.drewN k12))
        | (go_at_call 13; refine (HL.out _ HR12.out).mono ?_; rintro e w13 ⟨rfl, k13, rfl⟩; have HB13 := Lib.hid (below_drewN HBW.out (k12 + k13))))
      refine (Go.Proofs.YtplllmfbpliciaaGreatDoor.Pai.awake_any _).mono ?_
      rintro e w14 ⟨rfl, hb14⟩
      have HB14 := Lib.hid (HB13.out.trans (hb14.mono HB13.out.size))
      clear hb14
      go_wp2
      go_ret
      exact ⟨rfl, HB14.out⟩
    · have HBD := Lib.hid hbad
      have hP := pput_no l a1 cap1 a0 len0 cap0 xs w hbad HN.out HPA.out HWD.out (by have := HLEN.out; omega) HLC1.out HXB.out HNIL.out (by omega)
      have HPU := Lib.hid hP
      unfold PNo at HPU
      obtain ⟨k, hk⟩ : ∃ k, (badP l).1 = k := ⟨_, rfl⟩
      obtain ⟨s, hs2⟩ : ∃ s, sec4 k = s := ⟨_, rfl⟩
      obtain ⟨q, hq⟩ : ∃ q, (badP l).2 = q := ⟨_, rfl⟩
      have tk : ((k : Int) != 0) = true := by rw [hk] at hbad; simp; omega
      simp only [hk, hs2, hq] at HPU HTB
      simp only [HLL.out] at HPU HTB
      have hef : ∀ wx : World, (Op.equalIn 10000 31 (.agg #[.int .i64 k, .int .i64 s, .int .i64 q]) (.agg #[.int .i64 k, .int .i64 s, .int .i64 q])).run Tryz.prog wx = .ok true wx := eq_flt k s q
      have HO3 := Lib.hid (one_flt k s q)
      clear hP hbad hk hs2 hq
      go_enter Tryz.func3, Tryz.ntmps3
      go_wp2_with fail
      refine HPU.out.mono ?_
      rintro e w2 ⟨V, x, rfl, ho, hw, hb2⟩
      have HB2 := Lib.hid hb2
      have HO2 := Lib.hid ho
      have HW2 := Lib.hid hw
      clear ho hb2 hw HPU hc1
      go_wp2_with fail
      refine (HTB.out _ HB2.out).mono ?_
      rintro e w3 ⟨rfl, hb3⟩
      simp only [fltV]
      have hb4 : Below w3.heap.size w3 (w3.alloc (.cells #[.int .i64 k, .int .i64 s, .int .i64 q] 31)) := (Below.refl _ _).alloc (Nat.le_refl _) _
      have hb34 := hb3.trans (hb4.mono hb3.size)
      have HPF : Hid (PG w w3.heap.size #[.int .i64 k, .int .i64 s, .int .i64 q] x k s q V len0 xs (w3.alloc (.cells #[.int .i64 k, .int .i64 s, .int .i64 q] 31))) := by
        have hb := HB2.out.trans (hb34.mono HB2.out.size)
        exact ⟨heap_alloc_new _ _, HW2.out.kept (KeptW.below hb34), Byt.owns_kept HO2.out hb34, HN.out.kept hb, hb⟩
      clear hb3 hb4 hb34 HTB HB2 HO2 HW2
      go_wp2_with fail
      generalize hW4 : (w3.alloc (.cells #[.int .i64 k, .int .i64 s, .int .i64 q] 31)) = W at HPF
      obtain ⟨D, hD⟩ : ∃ D, w3.heap.size = D := ⟨_, rfl⟩
      rw [hD] at HPF
      rw [hD]
      clear hW4 hD
      obtain ⟨d0, d1, d2⟩ := HPF.out.cells
      have hcw := HCV.out W HPF.out.below
      have HPD := Lib.hid HPF.out.drew
      go_region_held3 (fun wx => wx.cell? ⟨D, 0, none⟩ = some (.int .i64 k) ∧ wx.cell? ⟨D, 1, none⟩ = some (.int .i64 s) ∧ wx.cell? ⟨D, 2, none⟩ = some (.int .i64 q) ∧ (convert 22 9 (.slice a0 len0 cap0)).run Tryz.prog wx = .ok (.string Z) wx) (first | (go_keep; done) | exact HKP.out | (refine ⟨?_, ?_, ?_, ?_⟩ <;> first | assumption | exact HCV.out _ HPD.out.below))
        (first
          | (go_at_call 8; ((with_reducible refine (of_wrong _ HPD.out.wr (kept_refl _)).mono ?_); rintro e w5 ⟨rfl, hb5⟩); (try simp only [fltV]); have HP7 := Lib.hid (HPD.out.keep hb5); have HKP := Lib.hid (k3 HP7.out.cells (HCV.out _ HP7.out.below)); clear hb5)
          | fail)
      have hcv7 := Nam.conv_owns HP7.out.own
      rw [HZ.out] at hcv7
      go_wp2_with (go_at_call 5; refine (Go.Proofs.YtplllmfbpliciaaGreatDoor.Pai.awake_any _).mono ?_; rintro e w9 ⟨rfl, hb9⟩; have HB9 := Lib.hid (HP7.out.below.trans (hb9.mono HP7.out.below.size)); clear hb9)
      go_ret
      exact ⟨rfl, HB9.out⟩

end Go.Proofs.YtplllmfbpliciaaGreatDoor.pairsPuts
