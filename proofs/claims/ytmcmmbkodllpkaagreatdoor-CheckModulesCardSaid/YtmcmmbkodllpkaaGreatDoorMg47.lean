/- The function CheckModules returns true for every module. Condition: the package-level variables hold what the program lays in them (the card ties that). This text: the walk through the Go text; the row is in the text without the W at its name's end. -/
import Derived.Test.YtmcmmbkodllpkaaGreatDoorMg01
import Derived.Test.YtmcmmbkodllpkaaGreatDoorMg45
import Derived.Test.YtmcmmbkodllpkaaGreatDoorMg46
import Derived.Deep.RegionHeld3
namespace Go.Proofs.YtmcmmbkodllpkaaGreatDoor.checkModules

open Go.RowKit Go.PlainAid Go.Proofs.YtmcmmbkodllpkaaGreatDoor.Args

set_option linter.unusedVariables false

open Go.Proofs.YtmcmmbkodllpkaaGreatDoor.Chk Go.Proofs.YtmcmmbkodllpkaaGreatDoor.Flt Go.Proofs.YtmcmmbkodllpkaaGreatDoor.Rdr

open Go.Proofs.YtmcmmbkodllpkaaGreatDoor.Cel (own_slice own_keep own_base)

open Go.Proofs.YtmcmmbkodllpkaaGreatDoor.Lat (LP LS MAt cparts_any cscheds_any rscheds_any rparts_any)

open Go.Proofs.YtmcmmbkodllpkaaGreatDoor.Scd (SC)

set_option linter.unusedSimpArgs false

/-- What stands behind the document's Wrong and the program's Module. -/
structure CM (B F : Nat) (cs fv : Array Value) (x : Value) (q : KW) (w W : World) : Prop where
  m : W.heap[B]? = some (.cells cs 28 (0, 0))
  flt : W.heap[F]? = some (.cells fv 36 (0, 0))
  wr : WrongK W x q
  below : Below w.heap.size w W
theorem CM.keep {B F : Nat} {cs fv : Array Value} {x : Value} {q : KW} {w W W' : World} (h : CM B F cs fv x q w W) (b : Below W.heap.size W W') : CM B F cs fv x q w W' :=
  ⟨(b.block _ (lt_of_block h.m)).trans h.m, (b.block _ (lt_of_block h.flt)).trans h.flt, h.wr.kept b, h.below.trans (b.mono h.below.size)⟩
theorem CM.cells {B F : Nat} {e f kz sz az : Int} {PA SA QA AA : Option Addr} {np pc ns sc nQ qc na acp : Nat} {x : Value} {q : KW} {w W : World} (h : CM B F #[.int .u64 e, .int .i64 f, .slice PA np pc, .slice SA ns sc, .slice QA nQ qc, .slice AA na acp] #[.int .i64 kz, .int .i64 sz, .int .i64 az] x q w W) :
    W.cell? ⟨B, 0, none⟩ = some (.int .u64 e) ∧ W.cell? ⟨B, 1, none⟩ = some (.int .i64 f) ∧ W.cell? ⟨B, 2, none⟩ = some (.slice PA np pc) ∧ W.cell? ⟨B, 3, none⟩ = some (.slice SA ns sc) ∧ W.cell? ⟨B, 4, none⟩ = some (.slice QA nQ qc) ∧ W.cell? ⟨B, 5, none⟩ = some (.slice AA na acp) ∧ W.cell? ⟨F, 0, none⟩ = some (.int .i64 kz) ∧ W.cell? ⟨F, 1, none⟩ = some (.int .i64 sz) ∧ W.cell? ⟨F, 2, none⟩ = some (.int .i64 az) := by
  refine ⟨?_, ?_, ?_, ?_, ?_, ?_, ?_, ?_, ?_⟩
  · rw [cell_of_row W _ _ _ _ _ h.m]; rfl
  · rw [cell_of_row W _ _ _ _ _ h.m]; rfl
  · rw [cell_of_row W _ _ _ _ _ h.m]; rfl
  · rw [cell_of_row W _ _ _ _ _ h.m]; rfl
  · rw [cell_of_row W _ _ _ _ _ h.m]; rfl
  · rw [cell_of_row W _ _ _ _ _ h.m]; rfl
  · rw [cell_of_row W _ _ _ _ _ h.flt]; rfl
  · rw [cell_of_row W _ _ _ _ _ h.flt]; rfl
  · rw [cell_of_row W _ _ _ _ _ h.flt]; rfl
theorem wrongK_set {w : World} {x : Value} {q : KW} {F : Nat} {fv gv : Array Value} (h : WrongK w x q) (hF : w.heap[F]? = some (.cells fv 36 (0, 0))) : WrongK (w.setRow F gv) x q := by
  rcases h with h | ⟨h1, h2, h3⟩
  · exact .inl h
  · refine .inr ⟨h1, h2, h3.only fun g cs hg => ?_⟩
    refine setRow_other _ _ _ _ fun e => ?_
    rw [e, hF] at hg
    simp only [Option.some.injEq, Obj.cells.injEq] at hg
    exact absurd hg.2.1 (by decide)
set_option maxRecDepth 8000 in
set_option maxHeartbeats 6400000 in
theorem walk (a0 : Array Value) (w : World) (w0 : IsMod w modK a0) (hn : Go.Proofs.YtmcmmbkodllpkaaGreatDoor.Flt.Names w) :
    Calls Tryz.prog 3 #[.agg a0] w fun e w' => e = .returned (.bool true) ∧ Below w.heap.size w w' := by
  obtain ⟨e, f, PA, SA, QA, AA, np, pc, ns, sc, nQ, qc, na, acp, ps, ss, qs, av, lp, ls, lq, rfl, h, hm, hna⟩ := bmod_in w0
  have hb0 : Below w.heap.size w (w.alloc (.cells #[.int .u64 e, .int .i64 f, .slice PA np pc, .slice SA ns sc, .slice QA nQ qc, .slice AA na acp] 28)) := (Below.refl _ _).alloc (Nat.le_refl _) _
  have hx0 := heap_alloc_new w (.cells #[.int .u64 e, .int .i64 f, .slice PA np pc, .slice SA ns sc, .slice QA nQ qc, .slice AA na acp] 28)
  obtain ⟨W1, hW1⟩ : ∃ W, w.alloc (.cells #[.int .u64 e, .int .i64 f, .slice PA np pc, .slice SA ns sc, .slice QA nQ qc, .slice AA na acp] 28) = W := ⟨_, rfl⟩
  rw [hW1] at hb0 hx0
  have hlen : ∀ x ∈ ss, x.ws.length ≤ 9223372036854775807 ∧ x.ns.length ≤ 9223372036854775807 := fun x hx => by
    obtain ⟨i, hi, rfl⟩ := List.mem_iff_getElem.1 hx
    obtain ⟨_, _, _, _, _, _, _, _, _, _, _, _, l1, l2, _, _, l3, l4⟩ := h.s i _ (List.getElem?_eq_getElem hi)
    unfold maxLen at l2 l4
    exact ⟨by omega, by omega⟩
  have HN := Lib.hid hn
  have HW1 := Lib.hid hW1
  have HMX := Lib.hid hx0
  obtain ⟨B, hB⟩ : ∃ B, w.heap.size = B := ⟨_, rfl⟩
  have HBZ := Lib.hid hB
  have HB1 := Lib.hid hb0
  have HMC : Hid (∀ W, Below W1.heap.size W1 W → W.cell? ⟨w.heap.size, 0, none⟩ = some (.int .u64 e) ∧ W.cell? ⟨w.heap.size, 1, none⟩ = some (.int .i64 f) ∧ W.cell? ⟨w.heap.size, 2, none⟩ = some (.slice PA np pc) ∧ W.cell? ⟨w.heap.size, 3, none⟩ = some (.slice SA ns sc) ∧ W.cell? ⟨w.heap.size, 4, none⟩ = some (.slice QA nQ qc) ∧ W.cell? ⟨w.heap.size, 5, none⟩ = some (.slice AA na acp)) := fun W b => by
    have hx := (b.block _ (lt_of_block hx0)).trans hx0
    refine ⟨?_, ?_, ?_, ?_, ?_, ?_⟩
    all_goals (rw [cell_of_row W _ _ _ _ _ hx]; rfl)
  have HLG := Lib.hid (large_any (pc := pc) (sc := sc) (qc := qc) (acp := acp) (e := e) (f := f) (h.kept hb0) (hm.kept hb0) hm.sm (fun x hx => (hlen x hx).1))
  have HAW : Hid (∀ W, Below w.heap.size w W → Calls Tryz.prog 6 #[] W fun e w' => e = .returned (.bool true) ∧ Below W.heap.size W w') := fun W b => awake16 W (hn.kept b)
  obtain ⟨d0, d1, d2, d3, d4, d5⟩ := HMC.out W1 (Below.refl _ _)
  have HH := Lib.hid h
  have HHM := Lib.hid hm
  have HNA : Hid (na ≤ 9223372036854775807) := hna
  have HLE := Lib.hid hlen
  clear h hm hna hlen hb0 hx0 hW1 hB hn w0
  go_enter Tryz.func3, Tryz.ntmps3
  go_upto_region 1 with fail
  rw [HW1.out]
  go_wp2_with fail
  refine HLG.out.mono ?_
  rintro e0 W2 ⟨v, rfl, hb2, hv⟩
  have HB2 := Lib.hid (HB1.out.trans (hb2.mono HB1.out.size))
  have HB12 := Lib.hid hb2
  clear hb2 HLG d0 d1 d2 d3 d4 d5
  cases v with
  | true =>
    clear hv
    go_wp2_with (go_at_call 6; refine (HAW.out _ HB2.out).mono ?_; rintro e0 W3 ⟨rfl, hb3⟩; have HB3 := Lib.hid (HB2.out.trans (hb3.mono HB2.out.size)); clear hb3)
    go_ret
    exact ⟨rfl, HB3.out⟩
  | false =>
    obtain ⟨hp, hs, hq, hbig⟩ := hv rfl
    clear hv
    have h := HH.out
    have hm := HHM.out
    have hw : ∀ x ∈ ss, x.ws.length ≤ 400 ∧ x.ns.length ≤ 9223372036854775807 := fun x hx => by
      have h1 := hbig x hx
      unfold bigS at h1
      rw [Bool.or_eq_false_iff] at h1
      have h2 := of_decide_eq_false h1.2
      exact ⟨by omega, (HLE.out x hx).2⟩
    have HMO := Lib.hid (fun (W : World) (b : Below w.heap.size w W) => module_any (pc := pc) (sc := sc) (qc := qc) (acp := acp) (e := e) (f := f) (HN.out.kept b) (h.kept b) (hm.kept b) hp hs hq HNA.out hw)
    have HWR : Hid (∀ W, Below w.heap.size w W → Calls Tryz.prog 8 #[.agg #[.int .u64 e, .int .i64 f, .slice PA np pc, .slice SA ns sc, .slice QA nQ qc, .slice AA na acp]] W fun e w' => e = .returned (.agg #[.int .i64 ((modM f ps ss qs av).1 : Nat), .int .i64 (secOf (modM f ps ss qs av).2), .int .i64 (atOf (modM f ps ss qs av).2)]) ∧ Below W.heap.size W w') := fun W b => wrong_any (h.kept b) (hm.kept b) hp hs hq HNA.out hw
    have HPA : Hid (∀ W, Below w.heap.size w W → Calls Tryz.prog 12 #[.agg #[.int .u64 e, .int .i64 f, .slice PA np pc, .slice SA ns sc, .slice QA nQ qc, .slice AA na acp]] W fun e w' => ∃ V, e = .returned V ∧ w'.ownsRow W.heap.size 3 1 V np ((lp.map LP.id).map (Value.int .i64)) ∧ Below W.heap.size W w') := fun W b => (cparts_any (hm.kept b) (by omega)).mono (by rintro e w' ⟨V, rfl, ho, hb⟩; rw [hm.pl] at ho; exact ⟨V, rfl, by rw [List.map_map]; exact ho, hb⟩)
    have HPB : Hid (∀ W, Below w.heap.size w W → Calls Tryz.prog 13 #[.agg #[.int .u64 e, .int .i64 f, .slice PA np pc, .slice SA ns sc, .slice QA nQ qc, .slice AA na acp]] W fun e w' => ∃ V, e = .returned V ∧ w'.ownsRow W.heap.size 3 1 V np ((lp.map LP.id).map (Value.int .i64)) ∧ Below W.heap.size W w') := fun W b => (rparts_any (hm.kept b) (by omega)).mono (by rintro e w' ⟨V, rfl, ho, hb⟩; rw [hm.pl] at ho; exact ⟨V, rfl, by rw [List.map_map]; exact ho, hb⟩)
    have HSA : Hid (∀ W, Below w.heap.size w W → Calls Tryz.prog 14 #[.agg #[.int .u64 e, .int .i64 f, .slice PA np pc, .slice SA ns sc, .slice QA nQ qc, .slice AA na acp]] W fun e w' => ∃ V, e = .returned V ∧ w'.ownsRow W.heap.size 3 1 V ns ((ls.map LS.id).map (Value.int .i64)) ∧ Below W.heap.size W w') := fun W b => (cscheds_any (hm.kept b) (by omega)).mono (by rintro e w' ⟨V, rfl, ho, hb⟩; rw [hm.sl] at ho; exact ⟨V, rfl, by rw [List.map_map]; exact ho, hb⟩)
    have HSB : Hid (∀ W, Below w.heap.size w W → Calls Tryz.prog 15 #[.agg #[.int .u64 e, .int .i64 f, .slice PA np pc, .slice SA ns sc, .slice QA nQ qc, .slice AA na acp]] W fun e w' => ∃ V, e = .returned V ∧ w'.ownsRow W.heap.size 3 1 V ns ((ls.map LS.id).map (Value.int .i64)) ∧ Below W.heap.size W w') := fun W b => (rscheds_any (hm.kept b) (by omega)).mono (by rintro e w' ⟨V, rfl, ho, hb⟩; rw [hm.sl] at ho; exact ⟨V, rfl, by rw [List.map_map]; exact ho, hb⟩)
    have HSP : Hid (∀ (V V' : Value) (B B' : Nat) (W : World), W.ownsRow B 3 1 V np ((lp.map LP.id).map (Value.int .i64)) → W.ownsRow B' 3 1 V' np ((lp.map LP.id).map (Value.int .i64)) → Calls Tryz.prog 11 #[V, V'] W fun e w' => e = .returned (.bool true) ∧ Below W.heap.size W w') := fun V V' B B' W h1 h2 => same_own _ V V' np B B' W h1 h2 (by omega)
    have HSS : Hid (∀ (V V' : Value) (B B' : Nat) (W : World), W.ownsRow B 3 1 V ns ((ls.map LS.id).map (Value.int .i64)) → W.ownsRow B' 3 1 V' ns ((ls.map LS.id).map (Value.int .i64)) → Calls Tryz.prog 11 #[V, V'] W fun e w' => e = .returned (.bool true) ∧ Below W.heap.size W w') := fun V V' B B' W h1 h2 => same_own _ V V' ns B B' W h1 h2 (by omega)
    have hfew := few_mod f ps ss qs av
    have hz0 := mod_zero f ps ss qs av
    obtain ⟨q, hq9⟩ : ∃ q, modM f ps ss qs av = q := ⟨_, rfl⟩
    rw [hq9] at HMO HWR hfew hz0
    clear h hm hw hp hs hq hbig hq9 HH HHM HLE
    obtain ⟨d0, d1, d2, d3, d4, d5⟩ := HMC.out W2 HB12.out
    go_wp2_with fail
    refine (HMO.out _ HB2.out).mono ?_
    rintro e0 W3 ⟨x, rfl, hx, hb3⟩
    have HB3 := Lib.hid (HB2.out.trans (hb3.mono HB2.out.size))
    have HB13 := Lib.hid (HB12.out.trans (hb3.mono HB12.out.size))
    have HX3 := Lib.hid hx
    clear d0 d1 d2 d3 d4 d5 hx hb3 HMO
    obtain ⟨d0, d1, d2, d3, d4, d5⟩ := HMC.out W3 HB13.out
    have HOF : Hid (∀ W, WrongK W x q → Calls Tryz.prog 9 #[x] W fun e w' => e = .returned (.agg #[.int .i64 (q.1 : Int), .int .i64 (secOf q.2), .int .i64 (atOf q.2)]) ∧ Below W.heap.size W w') := fun W h => of_K h hfew hz0
    have HCL : Hid (∀ W, WrongK W x q → Calls Tryz.prog 10 #[x] W fun e w' => e = .returned (.int .i64 (q.1 : Int)) ∧ Below W.heap.size W w') := fun W h => class_K h hfew hz0
    obtain ⟨kz, hkz⟩ : ∃ z : Int, (q.1 : Int) = z := ⟨_, rfl⟩
    obtain ⟨sz, hsz⟩ : ∃ z : Int, secOf q.2 = z := ⟨_, rfl⟩
    obtain ⟨az, haz⟩ : ∃ z : Int, atOf q.2 = z := ⟨_, rfl⟩
    rw [hkz, hsz, haz] at HWR HOF
    rw [hkz] at HCL
    clear hsz haz
    go_wp2_with fail
    refine (HWR.out _ HB3.out).mono ?_
    rintro e0 W4 ⟨rfl, hb4⟩
    have HB4 := Lib.hid (HB3.out.trans (hb4.mono HB3.out.size))
    have HX4 := Lib.hid (HX3.out.kept hb4)
    have HM4 := Lib.hid (((HB13.out.trans (hb4.mono HB13.out.size)).block _ (lt_of_block HMX.out)).trans HMX.out)
    clear d0 d1 d2 d3 d4 d5 hb4 HWR HX3
    have hb5 : Below W4.heap.size W4 (W4.alloc (.cells #[.int .i64 0, .int .i64 0, .int .i64 0] 36)) := (Below.refl _ _).alloc (Nat.le_refl _) _
    have HF5 := Lib.hid (heap_alloc_new W4 (.cells #[.int .i64 0, .int .i64 0, .int .i64 0] 36))
    have HSF := Lib.hid size_flt
    have HCM : Hid (CM w.heap.size W4.heap.size #[.int .u64 e, .int .i64 f, .slice PA np pc, .slice SA ns sc, .slice QA nQ qc, .slice AA na acp] #[.int .i64 kz, .int .i64 sz, .int .i64 az] x q w ((W4.alloc (.cells #[.int .i64 0, .int .i64 0, .int .i64 0] 36)).setRow W4.heap.size #[.int .i64 kz, .int .i64 sz, .int .i64 az])) := by
      have hlt : w.heap.size < W4.heap.size := lt_of_block HM4.out
      refine ⟨?_, setRow_heap _ _ _ _ _ _ HF5.out, wrongK_set (HX4.out.kept hb5) HF5.out, ?_⟩
      · rw [setRow_other _ _ _ _ (by omega)]
        exact (hb5.block _ hlt).trans HM4.out
      · exact HB4.out.trans ⟨rfl, rfl, rfl, by simp, fun b hb => (setRow_other _ _ _ _ (by omega)).trans (heap_alloc_old _ _ (by omega))⟩
    have tkk : (kz == kz) = true := by simp
    have hef : ∀ wx : World, (Op.equalIn 10000 36 (.agg #[.int .i64 kz, .int .i64 sz, .int .i64 az]) (.agg #[.int .i64 kz, .int .i64 sz, .int .i64 az])).run Tryz.prog wx = .ok true wx := eq_flt kz sz az
    have hcase : (x = .nilIface ∧ (kz == 0) = true) ∨ ((∃ u y, x = .iface u y) ∧ (kz == 0) = false) := by
      by_cases h0 : q.1 = 0
      · exact .inl ⟨wrongK_nil HX4.out h0, by simp; omega⟩
      · exact .inr ⟨wrongK_iface HX4.out h0, by simp; omega⟩
    clear hb5 hkz hfew hz0 HX4 HM4
    go_upto_region 5 with (first
      | ((with_reducible show wpList _ _ _ _ _ _); refine wpList_store_row rfl 36 (.tmp 4) (.tmp 11) rfl W4.heap.size #[.int .i64 kz, .int .i64 sz, .int .i64 az] rfl rfl 36 #[.int .i64 0, .int .i64 0, .int .i64 0] HF5.out (by rw [HSF.out]; rfl) rfl (one_flt kz sz az) ?_))
    obtain ⟨F, hF⟩ : ∃ F, W4.heap.size = F := ⟨_, rfl⟩
    obtain ⟨W5, hW5⟩ : ∃ W, (W4.alloc (.cells #[.int .i64 0, .int .i64 0, .int .i64 0] 36)).setRow W4.heap.size #[.int .i64 kz, .int .i64 sz, .int .i64 az] = W := ⟨_, rfl⟩
    rw [hW5, hF] at HCM
    rw [hW5, hF]
    have HBB := HBZ.out
    clear hF hW5
    rw [HBB] at HCM
    rw [HBB]
    clear HBB
    have HP0 := Lib.hid (HCM.out.keep (⟨rfl, rfl, rfl, Nat.le_refl _, fun _ _ => rfl⟩ : Below W5.heap.size W5 W5.drew))
    obtain ⟨y0, y1, y2, y3, y4, y5, y6, y7, y8⟩ := HCM.out.cells
    clear HCM
    rcases hcase with ⟨rfl, tz⟩ | ⟨⟨u, y, rfl⟩, tz⟩
    · skip
      go_region_held3 (fun wx => wx.cell? ⟨B, 0, none⟩ = some (.int .u64 e) ∧ wx.cell? ⟨B, 1, none⟩ = some (.int .i64 f) ∧ wx.cell? ⟨B, 2, none⟩ = some (.slice PA np pc) ∧ wx.cell? ⟨B, 3, none⟩ = some (.slice SA ns sc) ∧ wx.cell? ⟨B, 4, none⟩ = some (.slice QA nQ qc) ∧ wx.cell? ⟨B, 5, none⟩ = some (.slice AA na acp) ∧ wx.cell? ⟨F, 0, none⟩ = some (.int .i64 kz) ∧ wx.cell? ⟨F, 1, none⟩ = some (.int .i64 sz) ∧ wx.cell? ⟨F, 2, none⟩ = some (.int .i64 az))
        (first | exact HKP.out | (refine ⟨?_, ?_, ?_, ?_, ?_, ?_, ?_, ?_, ?_⟩ <;> assumption) | (go_keep; done))
        (first
          | (go_at_call 9; refine (HOF.out _ HP0.out.wr).mono ?_; rintro e0 wa ⟨rfl, hba⟩; have HP1 := Lib.hid (HP0.out.keep hba); have HKP : Hid (wa.cell? ⟨B, 0, none⟩ = some (.int .u64 e) ∧ wa.cell? ⟨B, 1, none⟩ = some (.int .i64 f) ∧ wa.cell? ⟨B, 2, none⟩ = some (.slice PA np pc) ∧ wa.cell? ⟨B, 3, none⟩ = some (.slice SA ns sc) ∧ wa.cell? ⟨B, 4, none⟩ = some (.slice QA nQ qc) ∧ wa.cell? ⟨B, 5, none⟩ = some (.slice AA na acp) ∧ wa.cell? ⟨F, 0, none⟩ = some (.int .i64 kz) ∧ wa.cell? ⟨F, 1, none⟩ = some (.int .i64 sz) ∧ wa.cell? ⟨F, 2, none⟩ = some (.int .i64 az)) := HP1.out.cells; clear hba HP0)
          | (go_at_call 10; refine (HCL.out _ HP1.out.wr).mono ?_; rintro e0 wa ⟨rfl, hba⟩; have HP2 := Lib.hid (HP1.out.keep hba); clear HKP; have HKP : Hid (wa.cell? ⟨B, 0, none⟩ = some (.int .u64 e) ∧ wa.cell? ⟨B, 1, none⟩ = some (.int .i64 f) ∧ wa.cell? ⟨B, 2, none⟩ = some (.slice PA np pc) ∧ wa.cell? ⟨B, 3, none⟩ = some (.slice SA ns sc) ∧ wa.cell? ⟨B, 4, none⟩ = some (.slice QA nQ qc) ∧ wa.cell? ⟨B, 5, none⟩ = some (.slice AA na acp) ∧ wa.cell? ⟨F, 0, none⟩ = some (.int .i64 kz) ∧ wa.cell? ⟨F, 1, none⟩ = some (.int .i64 sz) ∧ wa.cell? ⟨F, 2, none⟩ = some (.int .i64 az)) := HP2.out.cells; clear hba HP1)
          | (go_at_call 12; refine (HPA.out _ HP2.out.below).mono ?_; rintro e0 wa ⟨VA, rfl, hoa, hba⟩; have HOA := Lib.hid hoa; have HP3 := Lib.hid (HP2.out.keep hba); clear HKP; have HKP : Hid (wa.cell? ⟨B, 0, none⟩ = some (.int .u64 e) ∧ wa.cell? ⟨B, 1, none⟩ = some (.int .i64 f) ∧ wa.cell? ⟨B, 2, none⟩ = some (.slice PA np pc) ∧ wa.cell? ⟨B, 3, none⟩ = some (.slice SA ns sc) ∧ wa.cell? ⟨B, 4, none⟩ = some (.slice QA nQ qc) ∧ wa.cell? ⟨B, 5, none⟩ = some (.slice AA na acp) ∧ wa.cell? ⟨F, 0, none⟩ = some (.int .i64 kz) ∧ wa.cell? ⟨F, 1, none⟩ = some (.int .i64 sz) ∧ wa.cell? ⟨F, 2, none⟩ = some (.int .i64 az)) := HP3.out.cells; clear hba HP2 hoa)
          | (go_at_call 13; refine (HPB.out _ HP3.out.below).mono ?_; rintro e0 wa ⟨VB, rfl, hoa, hba⟩; have HOB := Lib.hid hoa; have HOC := Lib.hid (own_keep HOA.out hba); have HP4 := Lib.hid (HP3.out.keep hba); clear HKP; have HKP : Hid (wa.cell? ⟨B, 0, none⟩ = some (.int .u64 e) ∧ wa.cell? ⟨B, 1, none⟩ = some (.int .i64 f) ∧ wa.cell? ⟨B, 2, none⟩ = some (.slice PA np pc) ∧ wa.cell? ⟨B, 3, none⟩ = some (.slice SA ns sc) ∧ wa.cell? ⟨B, 4, none⟩ = some (.slice QA nQ qc) ∧ wa.cell? ⟨B, 5, none⟩ = some (.slice AA na acp) ∧ wa.cell? ⟨F, 0, none⟩ = some (.int .i64 kz) ∧ wa.cell? ⟨F, 1, none⟩ = some (.int .i64 sz) ∧ wa.cell? ⟨F, 2, none⟩ = some (.int .i64 az)) := HP4.out.cells; clear hba HP3 hoa HOA)
          | (go_at_call 11; refine (HSP.out _ _ _ _ _ HOC.out HOB.out).mono ?_; rintro e0 wa ⟨rfl, hba⟩; have HP5 := Lib.hid (HP4.out.keep hba); clear HKP; have HKP : Hid (wa.cell? ⟨B, 0, none⟩ = some (.int .u64 e) ∧ wa.cell? ⟨B, 1, none⟩ = some (.int .i64 f) ∧ wa.cell? ⟨B, 2, none⟩ = some (.slice PA np pc) ∧ wa.cell? ⟨B, 3, none⟩ = some (.slice SA ns sc) ∧ wa.cell? ⟨B, 4, none⟩ = some (.slice QA nQ qc) ∧ wa.cell? ⟨B, 5, none⟩ = some (.slice AA na acp) ∧ wa.cell? ⟨F, 0, none⟩ = some (.int .i64 kz) ∧ wa.cell? ⟨F, 1, none⟩ = some (.int .i64 sz) ∧ wa.cell? ⟨F, 2, none⟩ = some (.int .i64 az)) := HP5.out.cells; clear hba HP4 HOC HOB)
          | (go_at_call 14; refine (HSA.out _ HP5.out.below).mono ?_; rintro e0 wa ⟨VC, rfl, hoa, hba⟩; have HOA := Lib.hid hoa; have HP6 := Lib.hid (HP5.out.keep hba); clear HKP; have HKP : Hid (wa.cell? ⟨B, 0, none⟩ = some (.int .u64 e) ∧ wa.cell? ⟨B, 1, none⟩ = some (.int .i64 f) ∧ wa.cell? ⟨B, 2, none⟩ = some (.slice PA np pc) ∧ wa.cell? ⟨B, 3, none⟩ = some (.slice SA ns sc) ∧ wa.cell? ⟨B, 4, none⟩ = some (.slice QA nQ qc) ∧ wa.cell? ⟨B, 5, none⟩ = some (.slice AA na acp) ∧ wa.cell? ⟨F, 0, none⟩ = some (.int .i64 kz) ∧ wa.cell? ⟨F, 1, none⟩ = some (.int .i64 sz) ∧ wa.cell? ⟨F, 2, none⟩ = some (.int .i64 az)) := HP6.out.cells; clear hba HP5 hoa)
          | (go_at_call 15; refine (HSB.out _ HP6.out.below).mono ?_; rintro e0 wa ⟨VD, rfl, hoa, hba⟩; have HOB := Lib.hid hoa; have HOC := Lib.hid (own_keep HOA.out hba); have HP7 := Lib.hid (HP6.out.keep hba); clear HKP; have HKP : Hid (wa.cell? ⟨B, 0, none⟩ = some (.int .u64 e) ∧ wa.cell? ⟨B, 1, none⟩ = some (.int .i64 f) ∧ wa.cell? ⟨B, 2, none⟩ = some (.slice PA np pc) ∧ wa.cell? ⟨B, 3, none⟩ = some (.slice SA ns sc) ∧ wa.cell? ⟨B, 4, none⟩ = some (.slice QA nQ qc) ∧ wa.cell? ⟨B, 5, none⟩ = some (.slice AA na acp) ∧ wa.cell? ⟨F, 0, none⟩ = some (.int .i64 kz) ∧ wa.cell? ⟨F, 1, none⟩ = some (.int .i64 sz) ∧ wa.cell? ⟨F, 2, none⟩ = some (.int .i64 az)) := HP7.out.cells; clear hba HP6 hoa HOA)
          | (go_at_call 11; refine (HSS.out _ _ _ _ _ HOC.out HOB.out).mono ?_; rintro e0 wa ⟨rfl, hba⟩; have HP8 := Lib.hid (HP7.out.keep hba); clear HKP; have HKP : Hid (wa.cell? ⟨B, 0, none⟩ = some (.int .u64 e) ∧ wa.cell? ⟨B, 1, none⟩ = some (.int .i64 f) ∧ wa.cell? ⟨B, 2, none⟩ = some (.slice PA np pc) ∧ wa.cell? ⟨B, 3, none⟩ = some (.slice SA ns sc) ∧ wa.cell? ⟨B, 4, none⟩ = some (.slice QA nQ qc) ∧ wa.cell? ⟨B, 5, none⟩ = some (.slice AA na acp) ∧ wa.cell? ⟨F, 0, none⟩ = some (.int .i64 kz) ∧ wa.cell? ⟨F, 1, none⟩ = some (.int .i64 sz) ∧ wa.cell? ⟨F, 2, none⟩ = some (.int .i64 az)) := HP8.out.cells; clear hba HP7 HOC HOB)
          | (go_at_call 6; refine (HAW.out _ HP8.out.below).mono ?_; rintro e0 wa ⟨rfl, hba⟩; have HP9 := Lib.hid (HP8.out.keep hba); clear HKP; have HKP : Hid (wa.cell? ⟨B, 0, none⟩ = some (.int .u64 e) ∧ wa.cell? ⟨B, 1, none⟩ = some (.int .i64 f) ∧ wa.cell? ⟨B, 2, none⟩ = some (.slice PA np pc) ∧ wa.cell? ⟨B, 3, none⟩ = some (.slice SA ns sc) ∧ wa.cell? ⟨B, 4, none⟩ = some (.slice QA nQ qc) ∧ wa.cell? ⟨B, 5, none⟩ = some (.slice AA na acp) ∧ wa.cell? ⟨F, 0, none⟩ = some (.int .i64 kz) ∧ wa.cell? ⟨F, 1, none⟩ = some (.int .i64 sz) ∧ wa.cell? ⟨F, 2, none⟩ = some (.int .i64 az)) := HP9.out.cells; clear hba HP8))
      all_goals
        go_wp2
        go_ret
        exact ⟨rfl, HP9.out.below⟩
    · skip
      go_region_held3 (fun wx => wx.cell? ⟨B, 0, none⟩ = some (.int .u64 e) ∧ wx.cell? ⟨B, 1, none⟩ = some (.int .i64 f) ∧ wx.cell? ⟨B, 2, none⟩ = some (.slice PA np pc) ∧ wx.cell? ⟨B, 3, none⟩ = some (.slice SA ns sc) ∧ wx.cell? ⟨B, 4, none⟩ = some (.slice QA nQ qc) ∧ wx.cell? ⟨B, 5, none⟩ = some (.slice AA na acp) ∧ wx.cell? ⟨F, 0, none⟩ = some (.int .i64 kz) ∧ wx.cell? ⟨F, 1, none⟩ = some (.int .i64 sz) ∧ wx.cell? ⟨F, 2, none⟩ = some (.int .i64 az))
        (first | exact HKP.out | (refine ⟨?_, ?_, ?_, ?_, ?_, ?_, ?_, ?_, ?_⟩ <;> assumption) | (go_keep; done))
        (first
          | (go_at_call 9; refine (HOF.out _ HP0.out.wr).mono ?_; rintro e0 wa ⟨rfl, hba⟩; have HP1 := Lib.hid (HP0.out.keep hba); have HKP : Hid (wa.cell? ⟨B, 0, none⟩ = some (.int .u64 e) ∧ wa.cell? ⟨B, 1, none⟩ = some (.int .i64 f) ∧ wa.cell? ⟨B, 2, none⟩ = some (.slice PA np pc) ∧ wa.cell? ⟨B, 3, none⟩ = some (.slice SA ns sc) ∧ wa.cell? ⟨B, 4, none⟩ = some (.slice QA nQ qc) ∧ wa.cell? ⟨B, 5, none⟩ = some (.slice AA na acp) ∧ wa.cell? ⟨F, 0, none⟩ = some (.int .i64 kz) ∧ wa.cell? ⟨F, 1, none⟩ = some (.int .i64 sz) ∧ wa.cell? ⟨F, 2, none⟩ = some (.int .i64 az)) := HP1.out.cells; clear hba HP0)
          | (go_at_call 10; refine (HCL.out _ HP1.out.wr).mono ?_; rintro e0 wa ⟨rfl, hba⟩; have HP2 := Lib.hid (HP1.out.keep hba); clear HKP; have HKP : Hid (wa.cell? ⟨B, 0, none⟩ = some (.int .u64 e) ∧ wa.cell? ⟨B, 1, none⟩ = some (.int .i64 f) ∧ wa.cell? ⟨B, 2, none⟩ = some (.slice PA np pc) ∧ wa.cell? ⟨B, 3, none⟩ = some (.slice SA ns sc) ∧ wa.cell? ⟨B, 4, none⟩ = some (.slice QA nQ qc) ∧ wa.cell? ⟨B, 5, none⟩ = some (.slice AA na acp) ∧ wa.cell? ⟨F, 0, none⟩ = some (.int .i64 kz) ∧ wa.cell? ⟨F, 1, none⟩ = some (.int .i64 sz) ∧ wa.cell? ⟨F, 2, none⟩ = some (.int .i64 az)) := HP2.out.cells; clear hba HP1)
          | (go_at_call 12; refine (HPA.out _ HP2.out.below).mono ?_; rintro e0 wa ⟨VA, rfl, hoa, hba⟩; have HOA := Lib.hid hoa; have HP3 := Lib.hid (HP2.out.keep hba); clear HKP; have HKP : Hid (wa.cell? ⟨B, 0, none⟩ = some (.int .u64 e) ∧ wa.cell? ⟨B, 1, none⟩ = some (.int .i64 f) ∧ wa.cell? ⟨B, 2, none⟩ = some (.slice PA np pc) ∧ wa.cell? ⟨B, 3, none⟩ = some (.slice SA ns sc) ∧ wa.cell? ⟨B, 4, none⟩ = some (.slice QA nQ qc) ∧ wa.cell? ⟨B, 5, none⟩ = some (.slice AA na acp) ∧ wa.cell? ⟨F, 0, none⟩ = some (.int .i64 kz) ∧ wa.cell? ⟨F, 1, none⟩ = some (.int .i64 sz) ∧ wa.cell? ⟨F, 2, none⟩ = some (.int .i64 az)) := HP3.out.cells; clear hba HP2 hoa)
          | (go_at_call 13; refine (HPB.out _ HP3.out.below).mono ?_; rintro e0 wa ⟨VB, rfl, hoa, hba⟩; have HOB := Lib.hid hoa; have HOC := Lib.hid (own_keep HOA.out hba); have HP4 := Lib.hid (HP3.out.keep hba); clear HKP; have HKP : Hid (wa.cell? ⟨B, 0, none⟩ = some (.int .u64 e) ∧ wa.cell? ⟨B, 1, none⟩ = some (.int .i64 f) ∧ wa.cell? ⟨B, 2, none⟩ = some (.slice PA np pc) ∧ wa.cell? ⟨B, 3, none⟩ = some (.slice SA ns sc) ∧ wa.cell? ⟨B, 4, none⟩ = some (.slice QA nQ qc) ∧ wa.cell? ⟨B, 5, none⟩ = some (.slice AA na acp) ∧ wa.cell? ⟨F, 0, none⟩ = some (.int .i64 kz) ∧ wa.cell? ⟨F, 1, none⟩ = some (.int .i64 sz) ∧ wa.cell? ⟨F, 2, none⟩ = some (.int .i64 az)) := HP4.out.cells; clear hba HP3 hoa HOA)
          | (go_at_call 11; refine (HSP.out _ _ _ _ _ HOC.out HOB.out).mono ?_; rintro e0 wa ⟨rfl, hba⟩; have HP5 := Lib.hid (HP4.out.keep hba); clear HKP; have HKP : Hid (wa.cell? ⟨B, 0, none⟩ = some (.int .u64 e) ∧ wa.cell? ⟨B, 1, none⟩ = some (.int .i64 f) ∧ wa.cell? ⟨B, 2, none⟩ = some (.slice PA np pc) ∧ wa.cell? ⟨B, 3, none⟩ = some (.slice SA ns sc) ∧ wa.cell? ⟨B, 4, none⟩ = some (.slice QA nQ qc) ∧ wa.cell? ⟨B, 5, none⟩ = some (.slice AA na acp) ∧ wa.cell? ⟨F, 0, none⟩ = some (.int .i64 kz) ∧ wa.cell? ⟨F, 1, none⟩ = some (.int .i64 sz) ∧ wa.cell? ⟨F, 2, none⟩ = some (.int .i64 az)) := HP5.out.cells; clear hba HP4 HOC HOB)
          | (go_at_call 14; refine (HSA.out _ HP5.out.below).mono ?_; rintro e0 wa ⟨VC, rfl, hoa, hba⟩; have HOA := Lib.hid hoa; have HP6 := Lib.hid (HP5.out.keep hba); clear HKP; have HKP : Hid (wa.cell? ⟨B, 0, none⟩ = some (.int .u64 e) ∧ wa.cell? ⟨B, 1, none⟩ = some (.int .i64 f) ∧ wa.cell? ⟨B, 2, none⟩ = some (.slice PA np pc) ∧ wa.cell? ⟨B, 3, none⟩ = some (.slice SA ns sc) ∧ wa.cell? ⟨B, 4, none⟩ = some (.slice QA nQ qc) ∧ wa.cell? ⟨B, 5, none⟩ = some (.slice AA na acp) ∧ wa.cell? ⟨F, 0, none⟩ = some (.int .i64 kz) ∧ wa.cell? ⟨F, 1, none⟩ = some (.int .i64 sz) ∧ wa.cell? ⟨F, 2, none⟩ = some (.int .i64 az)) := HP6.out.cells; clear hba HP5 hoa)
          | (go_at_call 15; refine (HSB.out _ HP6.out.below).mono ?_; rintro e0 wa ⟨VD, rfl, hoa, hba⟩; have HOB := Lib.hid hoa; have HOC := Lib.hid (own_keep HOA.out hba); have HP7 := Lib.hid (HP6.out.keep hba); clear HKP; have HKP : Hid (wa.cell? ⟨B, 0, none⟩ = some (.int .u64 e) ∧ wa.cell? ⟨B, 1, none⟩ = some (.int .i64 f) ∧ wa.cell? ⟨B, 2, none⟩ = some (.slice PA np pc) ∧ wa.cell? ⟨B, 3, none⟩ = some (.slice SA ns sc) ∧ wa.cell? ⟨B, 4, none⟩ = some (.slice QA nQ qc) ∧ wa.cell? ⟨B, 5, none⟩ = some (.slice AA na acp) ∧ wa.cell? ⟨F, 0, none⟩ = some (.int .i64 kz) ∧ wa.cell? ⟨F, 1, none⟩ = some (.int .i64 sz) ∧ wa.cell? ⟨F, 2, none⟩ = some (.int .i64 az)) := HP7.out.cells; clear hba HP6 hoa HOA)
          | (go_at_call 11; refine (HSS.out _ _ _ _ _ HOC.out HOB.out).mono ?_; rintro e0 wa ⟨rfl, hba⟩; have HP8 := Lib.hid (HP7.out.keep hba); clear HKP; have HKP : Hid (wa.cell? ⟨B, 0, none⟩ = some (.int .u64 e) ∧ wa.cell? ⟨B, 1, none⟩ = some (.int .i64 f) ∧ wa.cell? ⟨B, 2, none⟩ = some (.slice PA np pc) ∧ wa.cell? ⟨B, 3, none⟩ = some (.slice SA ns sc) ∧ wa.cell? ⟨B, 4, none⟩ = some (.slice QA nQ qc) ∧ wa.cell? ⟨B, 5, none⟩ = some (.slice AA na acp) ∧ wa.cell? ⟨F, 0, none⟩ = some (.int .i64 kz) ∧ wa.cell? ⟨F, 1, none⟩ = some (.int .i64 sz) ∧ wa.cell? ⟨F, 2, none⟩ = some (.int .i64 az)) := HP8.out.cells; clear hba HP7 HOC HOB)
          | (go_at_call 6; refine (HAW.out _ HP8.out.below).mono ?_; rintro e0 wa ⟨rfl, hba⟩; have HP9 := Lib.hid (HP8.out.keep hba); clear HKP; have HKP : Hid (wa.cell? ⟨B, 0, none⟩ = some (.int .u64 e) ∧ wa.cell? ⟨B, 1, none⟩ = some (.int .i64 f) ∧ wa.cell? ⟨B, 2, none⟩ = some (.slice PA np pc) ∧ wa.cell? ⟨B, 3, none⟩ = some (.slice SA ns sc) ∧ wa.cell? ⟨B, 4, none⟩ = some (.slice QA nQ qc) ∧ wa.cell? ⟨B, 5, none⟩ = some (.slice AA na acp) ∧ wa.cell? ⟨F, 0, none⟩ = some (.int .i64 kz) ∧ wa.cell? ⟨F, 1, none⟩ = some (.int .i64 sz) ∧ wa.cell? ⟨F, 2, none⟩ = some (.int .i64 az)) := HP9.out.cells; clear hba HP8))
      all_goals
        go_wp2
        go_ret
        exact ⟨rfl, HP9.out.below⟩

end Go.Proofs.YtmcmmbkodllpkaaGreatDoor.checkModules
