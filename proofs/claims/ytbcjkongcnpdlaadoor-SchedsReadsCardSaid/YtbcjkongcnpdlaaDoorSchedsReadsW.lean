
/- The function SchedsReads returns true for every text and every number of schedules. Condition: the package-level variables hold what the program lays in them (the card ties that). This text: the walk through the Go text; the row is in the text without the W at its name's end. -/

import Derived.Test.YtbcjkongcnpdlaaDoorArgs

import Derived.Test.YtbcjkongcnpdlaaDoorScdO

import Derived.Test.YtbcjkongcnpdlaaDoorPrtL

import Derived.Test.YtbcjkongcnpdlaaDoorCnv

import Derived.Deep.RegionHeld3

import Derived.Deep.CutRange

namespace Go.Proofs.YtbcjkongcnpdlaaDoor.schedsReads

open Go.RowKit Go.PlainAid Go.Proofs.YtbcjkongcnpdlaaDoor.Args

set_option linter.unusedVariables false

open Go.Proofs.YtbcjkongcnpdlaaDoor.Flt Go.Proofs.YtbcjkongcnpdlaaDoor.Rdr Go.Proofs.YtbcjkongcnpdlaaDoor.Oct Go.Proofs.YtbcjkongcnpdlaaDoor.Byt Go.Proofs.YtbcjkongcnpdlaaDoor.Act Go.Proofs.YtbcjkongcnpdlaaDoor.Scd

open Go.Proofs.YtbcjkongcnpdlaaDoor.Prt (below_drewN)

/-- What stands behind both readings. -/
structure QA (g D : Nat) (t : St) (x : Value) (w W : World) : Prop where
  rd : IsRdr W g t
  wr : Wrong W x t.k t.fs t.fa
  d : W.heap[D]? = some (.cells (rdC t) 44 (0, 0))
  names : Names W
  below : Below w.heap.size w W
theorem QA.keep {g D : Nat} {t : St} {x : Value} {w W W' : World} (f : QA g D t x w W) (b : Below W.heap.size W W') : QA g D t x w W' :=
  ⟨f.rd.kept b, f.wr.kept (KeptW.below b), (b.block _ (lt_of_block f.d)).trans f.d, f.names.kept b, f.below.trans (b.mono f.below.size)⟩
theorem QA.drewN {g D : Nat} {t : St} {x : Value} {w W : World} (f : QA g D t x w W) (n : Nat) : QA g D t x w (W.drewN n) := f.keep ⟨rfl, rfl, rfl, Nat.le_refl _, fun _ _ => rfl⟩
theorem QA.drew {g D : Nat} {t : St} {x : Value} {w W : World} (f : QA g D t x w W) : QA g D t x w W.drew := f.keep ⟨rfl, rfl, rfl, Nat.le_refl _, fun _ _ => rfl⟩
theorem QA.cells {g D : Nat} {t : St} {x : Value} {w W : World} (f : QA g D t x w W) : W.cell? ⟨D, 1, none⟩ = some (.int .i64 t.p) ∧ W.cell? ⟨D, 3, none⟩ = some (.int .i64 t.k) ∧ W.cell? ⟨D, 4, none⟩ = some (.int .i64 t.fs) ∧ W.cell? ⟨D, 5, none⟩ = some (.int .i64 t.fa) := rd_cells f.d
theorem wide_rg {x : SC} (h : rgS x = 0) : WideS x := by
  obtain ⟨h1, h2, _, h3, _, h4⟩ := rgS_in h
  have hw : ∀ y : A3, rowB y = true → Wide y := fun y hy => by
    obtain ⟨⟨a, b⟩, ⟨c, d⟩, ⟨e, f⟩⟩ := rowB_in hy
    exact ⟨⟨by omega, by omega⟩, ⟨by omega, by omega⟩, ⟨by omega, by omega⟩⟩
  exact ⟨⟨by omega, by omega⟩, fun y hy => hw y (h3 y hy), fun y hy => hw y (h4 y hy)⟩
theorem kept_refl (w : World) : KeptW w w := fun _ _ _ => rfl
set_option maxRecDepth 8000 in
set_option maxHeartbeats 8000000 in
theorem walk (a0 : ByteArray) (a1 : Int) (w : World) (w0 : a0.size ≤ maxLen) (w1 : (Lit.int .i64 a1).wf = true) (hn : Go.Proofs.YtbcjkongcnpdlaaDoor.Flt.Names w) :
    Calls Tryd.prog 4 #[.string a0, .int .i64 a1] w fun e w' => e = .returned (.bool true) ∧ Below w.heap.size w w' := by
  have HN := Lib.hid hn
  by_cases hl : 1000 < (a0.size : Int)
  · have t : decide (1000 < (a0.size : Int)) = true := decide_eq_true hl
    clear hl w0 w1 hn
    go_enter Tryd.func4, Tryd.ntmps4
    go_wp2_with fail
    refine (new_any a0 _).mono ?_
    rintro e w1 ⟨g, hg, rfl, hr1, hb1⟩
    have HB1 := Lib.hid hb1
    clear hr1 hb1
    go_wp2_with (go_at_call 7; refine (Go.Proofs.YtbcjkongcnpdlaaDoor.Scd.awake_any _ (HN.out.kept HB1.out)).mono ?_; rintro e w' ⟨rfl, hb⟩; have HB2 := Lib.hid (HB1.out.trans (hb.mono HB1.out.size)); clear hb)
    go_ret
    exact ⟨rfl, HB2.out⟩
  · have t : decide (1000 < (a0.size : Int)) = false := decide_eq_false hl
    have hs600 : a0.size ≤ 1000 := by omega
    have hok : Ok ⟨a0, 0, 0, 0, 0, 0⟩ := ⟨Nat.zero_le _, by show a0.size ≤ _; omega⟩
    have HGE : Hid (∀ W, Calls Tryd.prog 16 #[.agg #[.string a0, .int .i64 0, .int .i64 0, .int .i64 0, .int .i64 0, .int .i64 0], .int .i64 a1] W (GPost (rdS ⟨a0, 0, 0, 0, 0, 0⟩ a1.toNat) (rdL ⟨a0, 0, 0, 0, 0, 0⟩ a1.toNat) W)) := fun W => get09_any ⟨a0, 0, 0, 0, 0, 0⟩ a1 W hok (fun k _ h => most_rounds a0 (by omega) k h)
    have HRE : Hid (∀ (W : World) (g : Nat), Names W → IsRdr W g ⟨a0, 0, 0, 0, 0, 0⟩ → Calls Tryd.prog 13 #[.pointer (some ⟨g, 0, none⟩), .int .i64 a1] W (KPost g (rdS ⟨a0, 0, 0, 0, 0, 0⟩ a1.toNat) (rdL ⟨a0, 0, 0, 0, 0, 0⟩ a1.toNat) W)) := fun W g hn hr => sread_any g ⟨a0, 0, 0, 0, 0, 0⟩ a1 W hn hr hok (fun k _ h => most_rounds a0 (by omega) k h)
    have HBK := Lib.hid (sread_back a0 a1.toNat)
    obtain ⟨T, hT⟩ : ∃ T, rdS ⟨a0, 0, 0, 0, 0, 0⟩ a1.toNat = T := ⟨_, rfl⟩
    obtain ⟨l, hL⟩ : ∃ l, rdL ⟨a0, 0, 0, 0, 0, 0⟩ a1.toNat = l := ⟨_, rfl⟩
    rw [hT, hL] at HGE HRE HBK
    clear hl w0 w1 hn hok hT hL
    go_enter Tryd.func4, Tryd.ntmps4
    go_wp2_with fail
    refine (new_any a0 _).mono ?_
    rintro e w1 ⟨g, hg, rfl, hr1, hb1⟩
    have HB1 := Lib.hid hb1
    have HR1 := Lib.hid hr1
    have HGG : Hid (w.heap.size ≤ g) := hg
    clear hr1 hb1 hg
    go_wp2_with fail
    refine (HRE.out _ _ (HN.out.kept HB1.out) HR1.out).mono ?_
    intro e w2 hp
    rcases hp with ⟨hk, x, rfl, hw2, hr2, hj2⟩ | ⟨hk, V, L2, rfl, hL2, hrp⟩
    · obtain ⟨u, y, rfl⟩ := Hdr.iface_of_wrong hw2 hk
      have HK := Lib.hid hk
      have HW2 := Lib.hid hw2
      have HR2 := Lib.hid hr2
      have HN2 := Lib.hid (Rdr.Names.just (HN.out.kept HB1.out) HR1.out hj2)
      have HB2 := Lib.hid (HB1.out.trans (hj2.below HGG.out HR1.out.lt))
      clear hk hw2 hr2 hj2 HBK
      go_wp2_with fail
      refine (HGE.out _).mono ?_
      rintro e w3 ⟨V3, L3, rfl, hor, hb3⟩
      obtain rfl : V3 = .slice none 0 0 := by
        rcases hor with ⟨_, h⟩ | ⟨h, _⟩
        · exact h
        · exact absurd h HK.out
      have hq : QA g w3.heap.size T (.iface u y) w (w3.alloc (.cells (rdC T) 44)) := by
        have hb4 : Below w3.heap.size w3 (w3.alloc (.cells (rdC T) 44)) := (Below.refl _ _).alloc (Nat.le_refl _) _
        have hb34 := hb3.trans (hb4.mono hb3.size)
        exact ⟨HR2.out.kept hb34, HW2.out.kept (KeptW.below hb34), heap_alloc_new _ _, HN2.out.kept hb34, HB2.out.trans (hb34.mono HB2.out.size)⟩
      clear hor hb3
      dsimp only [rdC]
      go_upto_region 6 with fail
      obtain ⟨D, hD⟩ : ∃ D, w3.heap.size = D := ⟨_, rfl⟩
      obtain ⟨W, hW⟩ : ∃ W, (w3.alloc (.cells (rdC T) 44)) = W := ⟨_, rfl⟩
      rw [hD, hW] at hq
      unfold rdC at hW
      rw [hW, hD]
      have HQ := Lib.hid hq
      clear hq hD hW
      have HSM : Hid (∀ W : World, Calls Tryd.prog 14 #[.slice none 0 0, .slice none 0 0] W fun e w' => e = .returned (.bool true) ∧ ∃ n, w' = W.drewN n) := fun W => same09_any none none 0 0 [] W (fun i x h => by simp at h) (fun i x h => by simp at h) (Nat.zero_le _)
      have HC0 := Lib.hid HQ.out.cells
      obtain ⟨d1, d3, d4, d5⟩ := HC0.out
      have tpp : ((T.p : Int) != (T.p : Int)) = false := by simp
      have hef : ∀ wx : World, (Op.equalIn 10000 32 (.agg #[.int .i64 T.k, .int .i64 T.fs, .int .i64 T.fa]) (.agg #[.int .i64 T.k, .int .i64 T.fs, .int .i64 T.fa])).run Tryd.prog wx = .ok true wx := eq_flt T.k T.fs T.fa
      go_region_held3 (fun wx => wx.cell? ⟨D, 1, none⟩ = some (.int .i64 T.p) ∧ wx.cell? ⟨D, 3, none⟩ = some (.int .i64 T.k) ∧ wx.cell? ⟨D, 4, none⟩ = some (.int .i64 T.fs) ∧ wx.cell? ⟨D, 5, none⟩ = some (.int .i64 T.fa)) (first | (go_keep; done) | exact HC0.out | exact HKP.out | (refine ⟨?_, ?_, ?_, ?_⟩ <;> assumption))
        (first
          | (go_at_call 14; refine (HSM.out _).mono ?_; rintro e w5 ⟨rfl, n5, rfl⟩; have HQ5 := Lib.hid (HQ.out.drewN (1 + n5)); have HKP := Lib.hid HQ5.out.cells)
          | (go_at_call 10; refine (of_wrong _ HQ5.out.wr (kept_refl _)).mono ?_; rintro e w6 ⟨rfl, hb6⟩; (try simp only [fltV]); have HQ6 := Lib.hid (HQ5.out.keep hb6); have HKP := Lib.hid HQ6.out.cells; clear hb6)
          | (go_at_call 17; refine (place_any g _ _ HQ6.out.rd).mono ?_; rintro e w' ⟨rfl, rfl⟩)
          | fail)
      go_wp2_with (go_at_call 7; refine (Go.Proofs.YtbcjkongcnpdlaaDoor.Scd.awake_any _ HQ6.out.names).mono ?_; rintro e w9 ⟨rfl, hb9⟩; have HB9 := Lib.hid (HQ6.out.below.trans (hb9.mono HQ6.out.below.size)); clear hb9)
      go_ret
      exact ⟨rfl, HB9.out⟩
    · obtain ⟨l', hl', hT, hbad, hby, hsz, hlen⟩ := HBK.out hk
      subst hl'
      have hr2 := hrp.rd
      have hj2 := hrp.just
      obtain ⟨A, c, rfl, hat2, _⟩ := hrp.at
      rw [hL2] at hat2
      rw [hL2]
      have HT := Lib.hid hT
      have HK := Lib.hid hk
      have HBD := Lib.hid hbad
      have HR2 := Lib.hid hr2
      have HA2 := Lib.hid hat2
      have HN2 := Lib.hid (Rdr.Names.just (HN.out.kept HB1.out) HR1.out hj2)
      have HB2 := Lib.hid (HB1.out.trans (hj2.below HGG.out HR1.out.lt))
      have HWR : Hid (∀ W, Wrong W .nilIface T.k T.fs T.fa) := fun W => .inl ⟨hk, by rw [hT], by rw [hT], rfl⟩
      have htp : T.p = (textS l).length := by rw [hT]
      have hll : l.length ≤ 200 := by omega
      have HLL := Lib.hid hll
      obtain ⟨SX, hSX⟩ : ∃ X, strOfNums (textS l) = X := ⟨_, rfl⟩
      have HSX := Lib.hid hSX
      have HSL : Hid (∀ wx : World, (Instr.slice 9 (.string a0) none (some (.int .i64 T.p)) none).run Tryd.prog wx = .ok (.string SX) wx) := fun wx => by
        have h1 : T.p ≤ a0.size := by omega
        rw [← hSX, hby, ← htp]
        simp [Instr.slice, go_sem, h1]
      clear hk hT hbad hby hsz hlen htp hll hrp hL2 hat2 hr2 hj2 hSX HBK
      go_wp2_with fail
      refine (HGE.out _).mono ?_
      rintro e w3 ⟨V3, L3, rfl, hor, hb3⟩
      have hor2 : L3.map Prod.fst = l ∧ w3.ownsRow w2.heap.size 51 4 V3 L3.length (flatS L3) ∧ (∀ q ∈ L3, w3.ownsRow w2.heap.size 59 3 q.2.1 q.1.ws.length (flatA q.1.ws)) ∧ (∀ q ∈ L3, w3.ownsRow w2.heap.size 68 3 q.2.2 q.1.ns.length (flatA q.1.ns)) := by
        rcases hor with ⟨h, _⟩ | ⟨_, h⟩
        · exact absurd HK.out h
        · exact h
      obtain ⟨hL3, ho3, ho4, ho5⟩ := hor2
      obtain ⟨A3, c3, rfl, hat3, _⟩ := srows_at ho3 (fun q hq => ⟨_, ho4 q hq⟩) (fun q hq => ⟨_, ho5 q hq⟩)
      rw [hL3] at hat3
      rw [hL3]
      have hb4 : Below w3.heap.size w3 (w3.alloc (.cells (rdC T) 44)) := (Below.refl _ _).alloc (Nat.le_refl _) _
      have hq : QA g w3.heap.size T .nilIface w (w3.alloc (.cells (rdC T) 44)) := by
        have hb34 := hb3.trans (hb4.mono hb3.size)
        exact ⟨HR2.out.kept hb34, HWR.out _, heap_alloc_new _ _, HN2.out.kept hb34, HB2.out.trans (hb34.mono HB2.out.size)⟩
      have ha2 := HA2.out.kept (hb3.trans (hb4.mono hb3.size))
      have ha3 := hat3.kept hb4
      clear hor hb3 ho3 ho4 ho5 hL3 hat3 hb4
      dsimp only [rdC]
      go_upto_region 6 with fail
      obtain ⟨D, hD⟩ : ∃ D, w3.heap.size = D := ⟨_, rfl⟩
      obtain ⟨W, hW⟩ : ∃ W, (w3.alloc (.cells (rdC T) 44)) = W := ⟨_, rfl⟩
      rw [hD, hW] at hq
      rw [hW] at ha2 ha3
      unfold rdC at hW
      rw [hW, hD]
      have HQ := Lib.hid hq
      have HA := Lib.hid ha2
      have HSM : Hid (∀ W' : World, Below W.heap.size W W' → Calls Tryd.prog 14 #[.slice A l.length c, .slice A3 l.length c3] W' fun e w' => e = .returned (.bool true) ∧ ∃ n, w' = W'.drewN n) := fun W' b => same09_any A A3 c c3 l W' (HA.out.kept b) (ha3.kept b) (by have := HLL.out; unfold maxLen; omega)
      have HSMD := Lib.hid (HSM.out W.drew ⟨rfl, rfl, rfl, Nat.le_refl _, fun _ _ => rfl⟩)
      clear hq hD hW ha2 ha3 HSM
      have HC0 := Lib.hid HQ.out.cells
      obtain ⟨d1, d3, d4, d5⟩ := HC0.out
      have tpp : ((T.p : Int) != (T.p : Int)) = false := by simp
      have hef : ∀ wx : World, (Op.equalIn 10000 32 (.agg #[.int .i64 T.k, .int .i64 T.fs, .int .i64 T.fa]) (.agg #[.int .i64 T.k, .int .i64 T.fs, .int .i64 T.fa])).run Tryd.prog wx = .ok true wx := eq_flt T.k T.fs T.fa
      go_region_held3 (fun wx => wx.cell? ⟨D, 1, none⟩ = some (.int .i64 T.p) ∧ wx.cell? ⟨D, 3, none⟩ = some (.int .i64 T.k) ∧ wx.cell? ⟨D, 4, none⟩ = some (.int .i64 T.fs) ∧ wx.cell? ⟨D, 5, none⟩ = some (.int .i64 T.fa)) (first | (go_keep; done) | exact HC0.out | exact HKP.out | (refine ⟨?_, ?_, ?_, ?_⟩ <;> assumption))
        (first
          | (go_at_call 14; refine HSMD.out.mono ?_; rintro e w5 ⟨rfl, n5, rfl⟩; have HQ5 := Lib.hid (HQ.out.drewN (1 + n5)); have HKP := Lib.hid HQ5.out.cells)
          | (go_at_call 10; refine (of_wrong _ HQ5.out.wr (kept_refl _)).mono ?_; rintro e w6 ⟨rfl, hb6⟩; (try simp only [fltV]); have HQ6 := Lib.hid (HQ5.out.keep hb6); have HBW := Lib.hid (below_drewN (Below.refl W.heap.size W) (1 + n5)); have HB6 := Lib.hid hb6; have HKP := Lib.hid HQ6.out.cells; clear hb6)
          | (go_at_call 17; refine (place_any g _ _ HQ6.out.rd).mono ?_; rintro e w' ⟨rfl, rfl⟩)
          | fail)
      clear d1 d3 d4 d5 HC0 HSMD tpp hef
      have hpu := sput_yes l A c none 0 0 [] w6 HBD.out HQ6.out.names (HA.out.kept (HBW.out.trans (HB6.out.mono HBW.out.size))) (fun x hx => wide_rg (badS_rg HBD.out x hx)) (by have := HLL.out; omega) ⟨rfl, fun h => absurd h (by omega)⟩ (fun _ => ⟨rfl, rfl⟩) (by omega)
      have HPU := Lib.hid hpu
      unfold PYes at HPU
      clear hpu
      go_wp2_with fail
      refine HPU.out.mono ?_
      rintro e w8 ⟨V8, n8, rfl, ho8, hb8⟩
      rw [List.nil_append] at ho8
      have HQ8 := Lib.hid (HQ6.out.keep hb8)
      have HCV : Hid (∀ W', Below w8.heap.size w8 W' → (convert 22 9 V8).run Tryd.prog W' = .ok (.string SX) W') := fun W' b => by rw [← HSX.out]; exact Nam.conv_owns (Byt.owns_kept ho8 b)
      have hcv := HCV.out w8 (Below.refl _ _)
      have hsl := HSL.out
      obtain ⟨d1, _, _, _⟩ := HQ8.out.cells
      have hxx : (SX.toList == SX.toList) = true := by simp
      have HCD := Lib.hid (HCV.out w8.drew ⟨rfl, rfl, rfl, Nat.le_refl _, fun _ _ => rfl⟩)
      have HQD8 := Lib.hid HQ8.out.drew
      have HCVD : Hid (∀ W', Below w8.drew.heap.size w8.drew W' → (convert 22 9 V8).run Tryd.prog W' = .ok (.string SX) W') := fun W' b => HCV.out W' ((Below.refl w8.heap.size w8).drew.trans b)
      clear ho8 hb8 HPU
      go_wp2_with fail
      go_region_held3 (fun wx => wx.cell? ⟨D, 1, none⟩ = some (.int .i64 T.p) ∧ (convert 22 9 V8).run Tryd.prog wx = .ok (.string SX) wx) (first | (go_keep; done) | exact ⟨d1, hcv⟩ | exact ⟨d1, HCD.out⟩ | exact HKP8.out | (refine ⟨?_, ?_⟩ <;> assumption))
        (first
          | (go_at_call 7; refine (Go.Proofs.YtbcjkongcnpdlaaDoor.Scd.awake_any _ HQD8.out.names).mono ?_; rintro e w9 ⟨rfl, hb9⟩; have HQ9 := Lib.hid (HQD8.out.keep hb9); have HKP8 := Lib.hid (And.intro HQ9.out.cells.1 (HCVD.out w9 hb9)); clear hb9)
          | fail)
      go_wp2
      go_ret
      exact ⟨rfl, HQ9.out.below⟩

end Go.Proofs.YtbcjkongcnpdlaaDoor.schedsReads
