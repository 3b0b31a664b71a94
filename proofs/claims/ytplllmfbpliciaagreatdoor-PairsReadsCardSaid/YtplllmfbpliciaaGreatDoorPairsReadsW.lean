
/- The function PairsReads returns true for every text and every number of pairs. Condition: the package-level variables hold what the program lays in them (the card ties that). This text: the walk through the Go text; the row is in the text without the W at its name's end. -/

import Derived.Test.YtplllmfbpliciaaGreatDoorArgs

import Derived.Test.YtplllmfbpliciaaGreatDoorPaiG

import Derived.Test.YtplllmfbpliciaaGreatDoorPaiO

import Derived.Test.YtplllmfbpliciaaGreatDoorPrtL

import Derived.Test.YtplllmfbpliciaaGreatDoorCnv

import Derived.Deep.RegionHeld3

import Derived.Deep.CutRange

namespace Go.Proofs.YtplllmfbpliciaaGreatDoor.pairsReads

open Go.RowKit Go.PlainAid Go.Proofs.YtplllmfbpliciaaGreatDoor.Args

set_option linter.unusedVariables false

open Go.Proofs.YtplllmfbpliciaaGreatDoor.Flt Go.Proofs.YtplllmfbpliciaaGreatDoor.Rdr Go.Proofs.YtplllmfbpliciaaGreatDoor.Oct Go.Proofs.YtplllmfbpliciaaGreatDoor.Byt Go.Proofs.YtplllmfbpliciaaGreatDoor.Pai

/-- What stands behind both readings. -/
structure QA (g D : Nat) (t : St) (x : Value) (w W : World) : Prop where
  rd : IsRdr W g t
  wr : Wrong W x t.k t.fs t.fa
  d : W.heap[D]? = some (.cells (rdC t) 43 (0, 0))
  names : Names W
  below : Below w.heap.size w W
theorem QA.keep {g D : Nat} {t : St} {x : Value} {w W W' : World} (f : QA g D t x w W) (b : Below W.heap.size W W') : QA g D t x w W' :=
  ⟨f.rd.kept b, f.wr.kept (KeptW.below b), (b.block _ (lt_of_block f.d)).trans f.d, f.names.kept b, f.below.trans (b.mono f.below.size)⟩
theorem QA.drewN {g D : Nat} {t : St} {x : Value} {w W : World} (f : QA g D t x w W) (n : Nat) : QA g D t x w (W.drewN n) := f.keep ⟨rfl, rfl, rfl, Nat.le_refl _, fun _ _ => rfl⟩
theorem QA.drew {g D : Nat} {t : St} {x : Value} {w W : World} (f : QA g D t x w W) : QA g D t x w W.drew := f.keep ⟨rfl, rfl, rfl, Nat.le_refl _, fun _ _ => rfl⟩
theorem QA.cells {g D : Nat} {t : St} {x : Value} {w W : World} (f : QA g D t x w W) : W.cell? ⟨D, 1, none⟩ = some (.int .i64 t.p) ∧ W.cell? ⟨D, 3, none⟩ = some (.int .i64 t.k) ∧ W.cell? ⟨D, 4, none⟩ = some (.int .i64 t.fs) ∧ W.cell? ⟨D, 5, none⟩ = some (.int .i64 t.fa) := rd_cells f.d
theorem kept_refl (w : World) : KeptW w w := fun _ _ _ => rfl
set_option maxRecDepth 8000 in
set_option maxHeartbeats 8000000 in
theorem walk (a0 : ByteArray) (a1 : Int) (w : World) (w0 : a0.size ≤ maxLen) (w1 : (Lit.int .i64 a1).wf = true) (hn : Go.Proofs.YtplllmfbpliciaaGreatDoor.Flt.Names w) :
    Calls Tryz.prog 4 #[.string a0, .int .i64 a1] w fun e w' => e = .returned (.bool true) ∧ Below w.heap.size w w' := by
  have HN := Lib.hid hn
  by_cases hl : 600 < (a0.size : Int)
  · have t : decide (600 < (a0.size : Int)) = true := decide_eq_true hl
    clear hl w0 w1 hn
    go_enter Tryz.func4, Tryz.ntmps4
    go_wp2_with fail
    refine (new_any a0 _).mono ?_
    rintro e w1 ⟨g, hg, rfl, hr1, hb1⟩
    have HB1 := Lib.hid hb1
    clear hr1 hb1
    go_wp2_with (go_at_call 5; refine (Go.Proofs.YtplllmfbpliciaaGreatDoor.Pai.awake_any _).mono ?_; rintro e w' ⟨rfl, hb⟩; have HB2 := Lib.hid (HB1.out.trans (hb.mono HB1.out.size)); clear hb)
    go_ret
    exact ⟨rfl, HB2.out⟩
  · have t : decide (600 < (a0.size : Int)) = false := decide_eq_false hl
    have hs600 : a0.size ≤ 600 := by omega
    have hok : Ok ⟨a0, 0, 0, 0, 0, 0⟩ := ⟨Nat.zero_le _, by show a0.size ≤ _; omega⟩
    have HGE : Hid (∀ W, Calls Tryz.prog 14 #[.agg #[.string a0, .int .i64 0, .int .i64 0, .int .i64 0, .int .i64 0, .int .i64 0], .int .i64 a1] W (GPost (rdP ⟨a0, 0, 0, 0, 0, 0⟩ a1.toNat) (rdPL ⟨a0, 0, 0, 0, 0, 0⟩ a1.toNat) W)) := fun W => get10_any ⟨a0, 0, 0, 0, 0, 0⟩ a1 W hok
    have HRE : Hid (∀ (W : World) (g : Nat), Names W → IsRdr W g ⟨a0, 0, 0, 0, 0, 0⟩ → Calls Tryz.prog 11 #[.pointer (some ⟨g, 0, none⟩), .int .i64 a1] W (KPost g (rdP ⟨a0, 0, 0, 0, 0, 0⟩ a1.toNat) (rdPL ⟨a0, 0, 0, 0, 0, 0⟩ a1.toNat) W)) := fun W g hn hr => pread_any g ⟨a0, 0, 0, 0, 0, 0⟩ a1 W hn hr hok
    have HBK := Lib.hid (read_back a0 a1.toNat)
    obtain ⟨T, hT⟩ : ∃ T, rdP ⟨a0, 0, 0, 0, 0, 0⟩ a1.toNat = T := ⟨_, rfl⟩
    obtain ⟨l, hL⟩ : ∃ l, rdPL ⟨a0, 0, 0, 0, 0, 0⟩ a1.toNat = l := ⟨_, rfl⟩
    rw [hT, hL] at HGE HRE HBK
    clear hl w0 w1 hn hok hT hL
    go_enter Tryz.func4, Tryz.ntmps4
    go_wp2_with fail
    refine (new_any a0 _).mono ?_
    rintro e w1 ⟨g, hg, rfl, hr1, hb1⟩
    have HB1 := Lib.hid hb1
    have HR1 := Lib.hid hr1
    have HGG : Hid (w.heap.size ≤ g) := hg
    clear hr1 hb1 hg
    go_wp2_with fail
    refine (HRE.out _ _ (HN.out.kept HB1.out) HR1.out).mono ?_
    intro e w2 hp
    rcases hp with ⟨hk, x, rfl, hw2, hr2, hj2⟩ | ⟨hk, V, rfl, ho2, hr2, hj2⟩
    · obtain ⟨u, y, rfl⟩ := Hdr.iface_of_wrong hw2 hk
      have HK := Lib.hid hk
      have HW2 := Lib.hid hw2
      have HR2 := Lib.hid hr2
      have HN2 := Lib.hid (Rdr.Names.just (HN.out.kept HB1.out) HR1.out hj2)
      have HB2 := Lib.hid (HB1.out.trans (hj2.below HGG.out HR1.out.lt))
      clear hk hw2 hr2 hj2 HBK
      go_wp2_with fail
      refine (HGE.out _).mono ?_
      rintro e w3 ⟨V3, rfl, hor, hb3⟩
      obtain rfl : V3 = .slice none 0 0 := by
        rcases hor with ⟨_, h⟩ | ⟨h, _⟩
        · exact h
        · exact absurd h HK.out
      have hq : QA g w3.heap.size T (.iface u y) w (w3.alloc (.cells (rdC T) 43)) := by
        have hb4 : Below w3.heap.size w3 (w3.alloc (.cells (rdC T) 43)) := (Below.refl _ _).alloc (Nat.le_refl _) _
        have hb34 := hb3.trans (hb4.mono hb3.size)
        exact ⟨HR2.out.kept hb34, HW2.out.kept (KeptW.below hb34), heap_alloc_new _ _, HN2.out.kept hb34, HB2.out.trans (hb34.mono HB2.out.size)⟩
      clear hor hb3
      dsimp only [rdC]
      go_upto_region 6 with fail
      obtain ⟨D, hD⟩ : ∃ D, w3.heap.size = D := ⟨_, rfl⟩
      obtain ⟨W, hW⟩ : ∃ W, (w3.alloc (.cells (rdC T) 43)) = W := ⟨_, rfl⟩
      rw [hD, hW] at hq
      unfold rdC at hW
      rw [hW, hD]
      have HQ := Lib.hid hq
      clear hq hD hW
      have HSM : Hid (∀ W : World, Calls Tryz.prog 12 #[.slice none 0 0, .slice none 0 0] W fun e w' => e = .returned (.bool true) ∧ ∃ n, w' = W.drewN n) := fun W => same10_yes none none 0 0 [] W (fun i x h => by simp at h) (fun i x h => by simp at h) (Nat.zero_le _)
      have HC0 := Lib.hid HQ.out.cells
      obtain ⟨d1, d3, d4, d5⟩ := HC0.out
      have tpp : ((T.p : Int) != (T.p : Int)) = false := by simp
      have hef : ∀ wx : World, (Op.equalIn 10000 31 (.agg #[.int .i64 T.k, .int .i64 T.fs, .int .i64 T.fa]) (.agg #[.int .i64 T.k, .int .i64 T.fs, .int .i64 T.fa])).run Tryz.prog wx = .ok true wx := eq_flt T.k T.fs T.fa
      go_region_held3 (fun wx => wx.cell? ⟨D, 1, none⟩ = some (.int .i64 T.p) ∧ wx.cell? ⟨D, 3, none⟩ = some (.int .i64 T.k) ∧ wx.cell? ⟨D, 4, none⟩ = some (.int .i64 T.fs) ∧ wx.cell? ⟨D, 5, none⟩ = some (.int .i64 T.fa)) (first | (go_keep; done) | exact HC0.out | exact HKP.out | (refine ⟨?_, ?_, ?_, ?_⟩ <;> assumption))
        (first
          | (go_at_call 12; refine (HSM.out _).mono ?_; rintro e w5 ⟨rfl, n5, rfl⟩; have HQ5 := Lib.hid (HQ.out.drewN (1 + n5)); have HKP := Lib.hid HQ5.out.cells)
          | (go_at_call 8; refine (of_wrong _ HQ5.out.wr (kept_refl _)).mono ?_; rintro e w6 ⟨rfl, hb6⟩; (try simp only [fltV]); have HQ6 := Lib.hid (HQ5.out.keep hb6); have HKP := Lib.hid HQ6.out.cells; clear hb6)
          | (go_at_call 15; refine (place_any g _ _ HQ6.out.rd).mono ?_; rintro e w' ⟨rfl, rfl⟩)
          | fail)
      go_wp2_with (go_at_call 5; refine (Go.Proofs.YtplllmfbpliciaaGreatDoor.Pai.awake_any _).mono ?_; rintro e w9 ⟨rfl, hb9⟩; have HB9 := Lib.hid (HQ6.out.below.trans (hb9.mono HQ6.out.below.size)); clear hb9)
      go_ret
      exact ⟨rfl, HB9.out⟩
    · obtain ⟨l', hl', hT, hbad, hby, hsz⟩ := HBK.out hk
      subst hl'
      obtain ⟨A, c, rfl, hat2, _, hlc2⟩ := own_at ho2
      have HLC := Lib.hid hlc2
      clear hlc2
      have HT := Lib.hid hT
      have HK := Lib.hid hk
      have HBD := Lib.hid hbad
      have HR2 := Lib.hid hr2
      have HA2 := Lib.hid hat2
      have HN2 := Lib.hid (Rdr.Names.just (HN.out.kept HB1.out) HR1.out hj2)
      have HB2 := Lib.hid (HB1.out.trans (hj2.below HGG.out HR1.out.lt))
      have HWR : Hid (∀ W, Wrong W .nilIface T.k T.fs T.fa) := fun W => .inl ⟨hk, by rw [hT], by rw [hT], rfl⟩
      have htp : T.p = l.length * 2 := by rw [hT]
      have hll : l.length ≤ 300 := by omega
      have HLL := Lib.hid hll
      obtain ⟨SX, hSX⟩ : ∃ X, strOfNums (pairB l) = X := ⟨_, rfl⟩
      have HSX := Lib.hid hSX
      have HSL : Hid (∀ wx : World, (Instr.slice 9 (.string a0) none (some (.int .i64 T.p)) none).run Tryz.prog wx = .ok (.string SX) wx) := fun wx => by
        have h1 : T.p ≤ a0.size := by omega
        rw [← hSX, hby, ← htp]
        simp [Instr.slice, go_sem, h1]
      clear hk hT hbad hby hsz htp hll ho2 hat2 hr2 hj2 hSX HBK
      go_wp2_with fail
      refine (HGE.out _).mono ?_
      rintro e w3 ⟨V3, rfl, hor, hb3⟩
      have ho3 : w3.ownsRow w2.heap.size 50 2 V3 l.length (flatP l) := by
        rcases hor with ⟨h, _⟩ | ⟨_, h⟩
        · exact absurd HK.out h
        · exact h
      obtain ⟨AQ, c3, rfl, hat3, _⟩ := own_at ho3
      have hb4 : Below w3.heap.size w3 (w3.alloc (.cells (rdC T) 43)) := (Below.refl _ _).alloc (Nat.le_refl _) _
      have hq : QA g w3.heap.size T .nilIface w (w3.alloc (.cells (rdC T) 43)) := by
        have hb34 := hb3.trans (hb4.mono hb3.size)
        exact ⟨HR2.out.kept hb34, HWR.out _, heap_alloc_new _ _, HN2.out.kept hb34, HB2.out.trans (hb34.mono HB2.out.size)⟩
      have ha2 := HA2.out.kept (hb3.trans (hb4.mono hb3.size))
      have ha3 := hat3.kept hb4
      clear hor hb3 ho3 hat3 hb4
      dsimp only [rdC]
      go_upto_region 6 with fail
      obtain ⟨D, hD⟩ : ∃ D, w3.heap.size = D := ⟨_, rfl⟩
      obtain ⟨W, hW⟩ : ∃ W, (w3.alloc (.cells (rdC T) 43)) = W := ⟨_, rfl⟩
      rw [hD, hW] at hq
      rw [hW] at ha2 ha3
      unfold rdC at hW
      rw [hW, hD]
      have HQ := Lib.hid hq
      have HA := Lib.hid ha2
      have HSM : Hid (∀ W' : World, Below W.heap.size W W' → Calls Tryz.prog 12 #[.slice A l.length c, .slice AQ l.length c3] W' fun e w' => e = .returned (.bool true) ∧ ∃ n, w' = W'.drewN n) := fun W' b => same10_yes A AQ c c3 l W' (HA.out.kept b) (ha3.kept b) (by have := HLL.out; unfold maxLen; omega)
      have HSMD := Lib.hid (HSM.out W.drew ⟨rfl, rfl, rfl, Nat.le_refl _, fun _ _ => rfl⟩)
      clear hq hD hW ha2 ha3 HSM
      have HC0 := Lib.hid HQ.out.cells
      obtain ⟨d1, d3, d4, d5⟩ := HC0.out
      have tpp : ((T.p : Int) != (T.p : Int)) = false := by simp
      have hef : ∀ wx : World, (Op.equalIn 10000 31 (.agg #[.int .i64 T.k, .int .i64 T.fs, .int .i64 T.fa]) (.agg #[.int .i64 T.k, .int .i64 T.fs, .int .i64 T.fa])).run Tryz.prog wx = .ok true wx := eq_flt T.k T.fs T.fa
      go_region_held3 (fun wx => wx.cell? ⟨D, 1, none⟩ = some (.int .i64 T.p) ∧ wx.cell? ⟨D, 3, none⟩ = some (.int .i64 T.k) ∧ wx.cell? ⟨D, 4, none⟩ = some (.int .i64 T.fs) ∧ wx.cell? ⟨D, 5, none⟩ = some (.int .i64 T.fa)) (first | (go_keep; done) | exact HC0.out | exact HKP.out | (refine ⟨?_, ?_, ?_, ?_⟩ <;> assumption))
        (first
          | (go_at_call 12; refine HSMD.out.mono ?_; rintro e w5 ⟨rfl, n5, rfl⟩; have HQ5 := Lib.hid (HQ.out.drewN (1 + n5)); have HKP := Lib.hid HQ5.out.cells)
          | (go_at_call 8; refine (of_wrong _ HQ5.out.wr (kept_refl _)).mono ?_; rintro e w6 ⟨rfl, hb6⟩; (try simp only [fltV]); have HQ6 := Lib.hid (HQ5.out.keep hb6); have HBW := Lib.hid (below_drewN (Below.refl W.heap.size W) (1 + n5)); have HB6 := Lib.hid hb6; have HKP := Lib.hid HQ6.out.cells; clear hb6)
          | (go_at_call 15; refine (place_any g _ _ HQ6.out.rd).mono ?_; rintro e w' ⟨rfl, rfl⟩)
          | fail)
      clear d1 d3 d4 d5 HC0 HSMD tpp hef
      have hpu := pput_yes l A c none 0 0 [] w6 HBD.out HQ6.out.names (HA.out.kept (HBW.out.trans (HB6.out.mono HBW.out.size))) (fun x hx => by
        obtain ⟨r1, r2⟩ := right_all HBD.out x hx
        exact ⟨⟨by omega, by omega⟩, ⟨by omega, by omega⟩⟩) (by have := HLL.out; omega) HLC.out ⟨rfl, fun h => absurd h (by omega)⟩ (fun _ => ⟨rfl, rfl⟩) (by omega)
      have HPU := Lib.hid hpu
      unfold PYes at HPU
      clear hpu
      go_wp2_with fail
      refine HPU.out.mono ?_
      rintro e w8 ⟨V8, n8, rfl, ho8, hb8⟩
      rw [List.nil_append] at ho8
      have HQ8 := Lib.hid (HQ6.out.keep hb8)
      have HCV : Hid (∀ W', Below w8.heap.size w8 W' → (convert 22 9 V8).run Tryz.prog W' = .ok (.string SX) W') := fun W' b => by rw [← HSX.out]; exact Nam.conv_owns (Byt.owns_kept ho8 b)
      have hcv := HCV.out w8 (Below.refl _ _)
      have hsl := HSL.out
      obtain ⟨d1, _, _, _⟩ := HQ8.out.cells
      have hxx : (SX.toList == SX.toList) = true := by simp
      have HCD := Lib.hid (HCV.out w8.drew ⟨rfl, rfl, rfl, Nat.le_refl _, fun _ _ => rfl⟩)
      have HQD8 := Lib.hid HQ8.out.drew
      have HCVD : Hid (∀ W', Below w8.drew.heap.size w8.drew W' → (convert 22 9 V8).run Tryz.prog W' = .ok (.string SX) W') := fun W' b => HCV.out W' ((Below.refl w8.heap.size w8).drew.trans b)
      clear ho8 hb8 HPU
      go_wp2_with fail
      go_region_held3 (fun wx => wx.cell? ⟨D, 1, none⟩ = some (.int .i64 T.p) ∧ (convert 22 9 V8).run Tryz.prog wx = .ok (.string SX) wx) (first | (go_keep; done) | exact ⟨d1, hcv⟩ | exact ⟨d1, HCD.out⟩ | exact HKP8.out | (refine ⟨?_, ?_⟩ <;> assumption))
        (first
          | (go_at_call 5; refine (Go.Proofs.YtplllmfbpliciaaGreatDoor.Pai.awake_any _).mono ?_; rintro e w9 ⟨rfl, hb9⟩; have HQ9 := Lib.hid (HQD8.out.keep hb9); have HKP8 := Lib.hid (And.intro HQ9.out.cells.1 (HCVD.out w9 hb9)); clear hb9)
          | fail)
      go_wp2
      go_ret
      exact ⟨rfl, HQ9.out.below⟩

end Go.Proofs.YtplllmfbpliciaaGreatDoor.pairsReads
