/- The walk of CheckTexts. Condition: the names' table and the library's table of powers of ten hold what the program lays there. Out of what a row lists of the library's table of powers of ten: that the table holds them. No condition but that the table is listed as the library lays it. The function CheckTexts returns true for every module. Condition: the package-level variables hold what the program lays in them (the card ties that). This text: the walk through the Go text; the row is in the text without the W at its name's end. -/
import Derived.Test.YtmcmmbkodllpkaaGreatDoorMh02
import Derived.Test.YtmcmmbkodllpkaaGreatDoorMh03
import Derived.Deep.RegionHeld3
import Derived.Test.YtmcmmbkodllpkaaGreatDoorMg46
import Derived.LaidLaws
import Derived.LaidHandle
import Derived.Lib.LaidTab
import Derived.Stop.LaidErr
import Derived.ChangeArms
import Derived.Test.YtmcmmbkodllpkaaGreatDoorMg01
namespace Go.Proofs.YtmcmmbkodllpkaaGreatDoor.Chk

open Go.RowKit Go.PlainAid Go.Proofs.YtmcmmbkodllpkaaGreatDoor.Args Go.Proofs.YtmcmmbkodllpkaaGreatDoor.Flt Go.Proofs.YtmcmmbkodllpkaaGreatDoor.Rdr

open Go.Proofs.YtmcmmbkodllpkaaGreatDoor.Nam (Tab tab_kept)

open Go.Proofs.YtmcmmbkodllpkaaGreatDoor.Lat (LP LS MAt)

open Go.Proofs.YtmcmmbkodllpkaaGreatDoor.Scd (SC)

open Go.Proofs.YtmcmmbkodllpkaaGreatDoor.Prt (PT)

set_option linter.unusedVariables false

set_option linter.unusedSimpArgs false

set_option maxRecDepth 8000 in
set_option maxHeartbeats 6400000 in
theorem texts_any (a0 : Array Value) (w : World) (w0 : IsMod w modK a0) (hn : Names w) (ht : Tab w) :
    Calls Tryz.prog 4 #[.agg a0] w fun e w' => e = .returned (.bool true) ∧ Below w.heap.size w w' := by
  obtain ⟨e, f, PA, SA, QA, AA, np, pc, ns, sc, nQ, qc, na, acp, ps, ss, qs, av, lp, ls, lq, rfl, h, hm, hna⟩ := bmod_in w0
  have hb0 : Below w.heap.size w (w.alloc (.cells #[.int .u64 e, .int .i64 f, .slice PA np pc, .slice SA ns sc, .slice QA nQ qc, .slice AA na acp] 28)) := (Below.refl _ _).alloc (Nat.le_refl _) _
  have hx0 := heap_alloc_new w (.cells #[.int .u64 e, .int .i64 f, .slice PA np pc, .slice SA ns sc, .slice QA nQ qc, .slice AA na acp] 28)
  obtain ⟨WM, hWM⟩ : ∃ W, w.alloc (.cells #[.int .u64 e, .int .i64 f, .slice PA np pc, .slice SA ns sc, .slice QA nQ qc, .slice AA na acp] 28) = W := ⟨_, rfl⟩
  rw [hWM] at hb0 hx0
  have hlen : ∀ x ∈ ss, x.ws.length ≤ 9223372036854775807 ∧ x.ns.length ≤ 9223372036854775807 := fun x hx => by
    obtain ⟨i, hi, rfl⟩ := List.mem_iff_getElem.1 hx
    obtain ⟨_, _, _, _, _, _, _, _, _, _, _, _, l1, l2, _, _, l3, l4⟩ := h.s i _ (List.getElem?_eq_getElem hi)
    unfold maxLen at l2 l4
    exact ⟨by omega, by omega⟩
  have HN := Lib.hid hn
  have HT := Lib.hid ht
  have HWM := Lib.hid hWM
  have HB1 := Lib.hid hb0
  have HMX : Hid (∀ W, Below WM.heap.size WM W → W.heap[w.heap.size]? = some (.cells #[.int .u64 e, .int .i64 f, .slice PA np pc, .slice SA ns sc, .slice QA nQ qc, .slice AA na acp] 28 (0, 0))) := fun W b => (b.block _ (lt_of_block hx0)).trans hx0
  have HMC : Hid (∀ wx, Below WM.heap.size WM wx → wx.cell? ⟨w.heap.size, 0, none⟩ = some (.int .u64 e) ∧ wx.cell? ⟨w.heap.size, 1, none⟩ = some (.int .i64 f) ∧ wx.cell? ⟨w.heap.size, 2, none⟩ = some (.slice PA np pc) ∧ wx.cell? ⟨w.heap.size, 3, none⟩ = some (.slice SA ns sc) ∧ wx.cell? ⟨w.heap.size, 4, none⟩ = some (.slice QA nQ qc) ∧ wx.cell? ⟨w.heap.size, 5, none⟩ = some (.slice AA na acp)) := fun W b => by
    have hx := HMX.out W b
    refine ⟨?_, ?_, ?_, ?_, ?_, ?_⟩
    all_goals (rw [cell_of_row W _ _ _ _ _ hx]; rfl)
  have HLG := Lib.hid (large_any (pc := pc) (sc := sc) (qc := qc) (acp := acp) (e := e) (f := f) (h.kept hb0) (hm.kept hb0) hm.sm (fun x hx => (hlen x hx).1))
  have HAW : Hid (∀ W, Below w.heap.size w W → Calls Tryz.prog 6 #[] W fun e w' => e = .returned (.bool true) ∧ Below W.heap.size W w') := fun W b => awake16 W (hn.kept b)
  obtain ⟨d0, d1, d2, d3, d4, d5⟩ := HMC.out WM (Below.refl _ _)
  have HH := Lib.hid h
  have HHM := Lib.hid hm
  have HNA : Hid (na ≤ 9223372036854775807) := hna
  have HLE := Lib.hid hlen
  clear h hm hna hlen hb0 hx0 hWM hn ht w0
  go_enter Tryz.func4, Tryz.ntmps4
  go_upto_region 1 with fail
  rw [HWM.out]
  go_wp2_with fail
  refine HLG.out.mono ?_
  rintro e0 W2 ⟨v, rfl, hb2, hv⟩
  have HB2 := Lib.hid (HB1.out.trans (hb2.mono HB1.out.size))
  have HB12 := Lib.hid hb2
  clear hb2 HLG d0 d1 d2 d3 d4 d5
  cases v with
  | true =>
    clear hv
    go_wp2_with (go_at_call 6; refine (HAW.out _ HB2.out).mono ?_; rintro e0 W3 ⟨rfl, hb3⟩; have HB3 := Lib.hid (HB2.out.trans (hb3.mono HB2.out.size)); clear hb3)
    go_ret
    exact ⟨rfl, HB3.out⟩
  | false =>
    obtain ⟨hp, hs, hqn, hbig⟩ := hv rfl
    clear hv
    have h := HH.out
    have hm := HHM.out
    have hw : ∀ x ∈ ss, x.ws.length ≤ 400 ∧ x.ns.length ≤ 9223372036854775807 := fun x hx => by
      have h1 := hbig x hx
      unfold bigS at h1
      rw [Bool.or_eq_false_iff] at h1
      have h2 := of_decide_eq_false h1.2
      exact ⟨by omega, (HLE.out x hx).2⟩
    have HMO := Lib.hid (fun (W : World) (b : Below w.heap.size w W) => module_any (pc := pc) (sc := sc) (qc := qc) (acp := acp) (e := e) (f := f) (HN.out.kept b) (h.kept b) (hm.kept b) hp hs hqn HNA.out hw)
    have HWR : Hid (∀ W, Below w.heap.size w W → Calls Tryz.prog 8 #[.agg #[.int .u64 e, .int .i64 f, .slice PA np pc, .slice SA ns sc, .slice QA nQ qc, .slice AA na acp]] W fun e w' => e = .returned (.agg #[.int .i64 ((modM f ps ss qs av).1 : Nat), .int .i64 (secOf (modM f ps ss qs av).2), .int .i64 (atOf (modM f ps ss qs av).2)]) ∧ Below W.heap.size W w') := fun W b => wrong_any (h.kept b) (hm.kept b) hp hs hqn HNA.out hw
    have HIN := Lib.hid (fun (W : World) (b : Below w.heap.size w W) => inner_any (pc := pc) (sc := sc) (qc := qc) (acp := acp) (e := e) (f := f) (h.kept b) (hm.kept b) hp hs hqn HNA.out hw)
    have hform := mod_form f ps ss qs av (by rw [h.pl]; omega) (by rw [h.sl]; omega) (by rw [h.ql]; omega) (by rw [h.al]; exact HNA.out) HLE.out
    obtain ⟨q, hq9⟩ : ∃ q, modM f ps ss qs av = q := ⟨_, rfl⟩
    rw [hq9] at HMO HWR HIN hform
    obtain ⟨kz, hkz⟩ : ∃ z : Int, (q.1 : Int) = z := ⟨_, rfl⟩
    obtain ⟨sz, hsz⟩ : ∃ z : Int, secOf q.2 = z := ⟨_, rfl⟩
    obtain ⟨az, haz⟩ : ∃ z : Int, atOf q.2 = z := ⟨_, rfl⟩
    rw [hkz, hsz, haz] at HWR
    clear h hm hw hp hs hqn hbig hq9 HH HHM HLE
    obtain ⟨d0, d1, d2, d3, d4, d5⟩ := HMC.out W2 HB12.out
    go_wp2_with fail
    refine (HWR.out _ HB2.out).mono ?_
    rintro e0 WA ⟨rfl, hba⟩
    have HFA := Lib.hid (heap_alloc_new WA (.cells #[.int .i64 0, .int .i64 0, .int .i64 0] 36))
    have HSF := Lib.hid size_flt
    have hb3 : Below WM.heap.size WM ((WA.alloc (.cells #[.int .i64 0, .int .i64 0, .int .i64 0] 36)).setRow WA.heap.size #[.int .i64 kz, .int .i64 sz, .int .i64 az]) := (HB12.out.trans (hba.mono HB12.out.size)).trans ⟨rfl, rfl, rfl, by simp, fun b hb => by
      have h1 := hba.size
      have h2 := HB12.out.size
      exact (setRow_other _ _ _ _ (by omega)).trans (heap_alloc_old _ _ (by omega))⟩
    have hf3 : ((WA.alloc (.cells #[.int .i64 0, .int .i64 0, .int .i64 0] 36)).setRow WA.heap.size #[.int .i64 kz, .int .i64 sz, .int .i64 az]).heap[WA.heap.size]? = _ := setRow_heap _ _ _ _ _ _ HFA.out
    clear hba HWR d0 d1 d2 d3 d4 d5
    go_upto_region 4 with (first
      | ((with_reducible show wpList _ _ _ _ _ _); refine wpList_store_row rfl 36 (.tmp 3) (.tmp 13) rfl WA.heap.size #[.int .i64 kz, .int .i64 sz, .int .i64 az] rfl rfl 36 #[.int .i64 0, .int .i64 0, .int .i64 0] HFA.out (by rw [HSF.out]; rfl) rfl (one_flt kz sz az) ?_))
    obtain ⟨W3, hW3⟩ : ∃ W, (WA.alloc (.cells #[.int .i64 0, .int .i64 0, .int .i64 0] 36)).setRow WA.heap.size #[.int .i64 kz, .int .i64 sz, .int .i64 az] = W := ⟨_, rfl⟩
    obtain ⟨F, hF⟩ : ∃ F, WA.heap.size = F := ⟨_, rfl⟩
    rw [hW3] at hb3 hf3
    rw [hF] at hf3
    rw [hW3, hF]
    clear hW3 hF HFA
    have HB13 := Lib.hid hb3
    have HB0 := Lib.hid (HB1.out.trans (hb3.mono HB1.out.size))
    have H9 : Hid (∀ wx, Below W3.heap.size W3 wx → wx.cell? ⟨w.heap.size, 0, none⟩ = some (.int .u64 e) ∧ wx.cell? ⟨w.heap.size, 1, none⟩ = some (.int .i64 f) ∧ wx.cell? ⟨w.heap.size, 2, none⟩ = some (.slice PA np pc) ∧ wx.cell? ⟨w.heap.size, 3, none⟩ = some (.slice SA ns sc) ∧ wx.cell? ⟨w.heap.size, 4, none⟩ = some (.slice QA nQ qc) ∧ wx.cell? ⟨w.heap.size, 5, none⟩ = some (.slice AA na acp) ∧ wx.cell? ⟨F, 0, none⟩ = some (.int .i64 kz) ∧ wx.cell? ⟨F, 1, none⟩ = some (.int .i64 sz) ∧ wx.cell? ⟨F, 2, none⟩ = some (.int .i64 az)) := fun wx b => by
      have h1 := HMX.out wx (HB13.out.trans (b.mono HB13.out.size))
      have h2 := (b.block _ (lt_of_block hf3)).trans hf3
      refine ⟨?_, ?_, ?_, ?_, ?_, ?_, ?_, ?_, ?_⟩
      all_goals first | (rw [cell_of_row _ _ _ _ _ _ h1]; rfl) | (rw [cell_of_row _ _ _ _ _ _ h2]; rfl)
    obtain ⟨d0, d1, d2, d3, d4, d5, d6, d7, d8⟩ := H9.out W3 (Below.refl _ _)
    clear hb3 hf3
    go_wp2_with fail
    refine (HMO.out _ HB0.out).mono ?_
    rintro e0 W4 ⟨x, rfl, hx, hb4⟩
    have HB4 := Lib.hid hb4
    clear hb4 HMO d0 d1 d2 d3 d4 d5 d6 d7 d8
    obtain ⟨d0, d1, d2, d3, d4, d5, d6, d7, d8⟩ := H9.out W4 HB4.out
    by_cases h0 : q.1 = 0
    · obtain rfl := wrongK_nil hx h0
      have tz : (kz == 0) = true := by rw [← hkz, h0]; rfl
      have tee : ((⟨#[]⟩ : ByteArray).toList == (⟨#[]⟩ : ByteArray).toList) = true := by simp
      clear hx h0 hkz hsz haz hform HIN
      go_wp2_with (first
        | (go_at_call 16; refine (text_none _).mono ?_; rintro e0 W5 ⟨rfl, hb5⟩; have HB5 := Lib.hid (HB4.out.trans (hb5.mono HB4.out.size)); clear hb5)
        | (go_at_call 6; refine (HAW.out _ (HB0.out.trans (HB5.out.mono HB0.out.size))).mono ?_; rintro e0 W6 ⟨rfl, hb6⟩; have HB6 := Lib.hid (HB5.out.trans (hb6.mono HB5.out.size)); clear hb6))
      go_ret
      exact ⟨rfl, HB0.out.trans (HB6.out.mono HB0.out.size)⟩
    obtain ⟨u, y, rfl⟩ := wrongK_iface hx h0
    have tz : (kz == 0) = false := by simp; omega
    obtain ⟨hfl, h1k, h2k⟩ := wrongK_in hx h0
    replace hform := hform h0
    clear hx h0
    rcases hform with hform | hform | hform
    · obtain ⟨n, hq2, hn1, hn5⟩ := hform
      rw [inn_one hq2] at HIN
      have hsz' : n = sz := by rw [← hsz, hq2]; rfl
      have haz' : (0 : Int) = az := by rw [← haz, hq2]; rfl
      have hxn : IxOk sz := by rw [← hsz']; exact ⟨by omega, by omega⟩
      have hxa : IxOk az := by rw [← haz']; exact ⟨by omega, by omega⟩
      have HDS := Lib.hid (fun (W : World) => dd_digits hxn W)
      have HDA := Lib.hid (fun (W : World) => dd_digits hxa W)
      have HTX : Hid (∀ W, Below W4.heap.size W4 W → Calls Tryz.prog 16 #[.iface u y] W fun e w' => e = .returned (.string (textOf DD q.2 q.1)) ∧ Below W.heap.size W w') := fun W b => by
        have hb := HB0.out.trans ((HB4.out.trans (b.mono HB4.out.size)).mono HB0.out.size)
        refine text_at DD _ q.2 q.1 W (HN.out.kept hb) (fun p hp => dd_at ?_ (tab_kept HT.out hb)) (hfl.kept b) (by rw [hq2]; simp) h1k h2k
        rw [hq2] at hp
        simp only [List.mem_cons, List.not_mem_nil, or_false] at hp
        subst hp; rw [← hsz'] at hxn; exact hxn
      have HNM : Hid (∀ W : World, Calls Tryz.prog 18 #[.int .i64 kz] W fun e w' => e = .returned (.string (nameV kz)) ∧ Below W.heap.size W w') := fun W => rname_any kz ⟨by omega, by omega⟩ W
      have htx : textOf DD q.2 q.1 = textOf DD [(true, sz)] kz := by rw [hq2, hkz, hsz']
      rw [text_one] at htx
      have sds := dd_size hxn
      have sda := dd_size hxa
      have snm : (nameV kz).size ≤ 9 := by unfold nameV; rw [if_pos (by omega)]; exact nm_le (by omega)
      have hne := one_ne (secB ++ DD sz ++ colB) (nameV kz) (DD az)
      obtain ⟨DS, hDS⟩ : ∃ D, DD sz = D := ⟨_, rfl⟩
      obtain ⟨DA, hDA⟩ : ∃ D, DD az = D := ⟨_, rfl⟩
      obtain ⟨NM, hNM⟩ : ∃ D, nameV kz = D := ⟨_, rfl⟩
      rw [hDS] at HDS htx sds hne
      rw [hDA] at HDA sda hne
      rw [hNM] at HNM htx snm hne
      obtain ⟨G, hG⟩ : ∃ D, textOf DD q.2 q.1 = D := ⟨_, rfl⟩
      rw [hG] at HTX htx
      have tg1 : (G.toList == ((⟨#[115, 101, 99, 116, 105, 111, 110, 32]⟩ : ByteArray) ++ DS ++ (⟨#[58, 32]⟩ : ByteArray) ++ (⟨#[97, 116, 32]⟩ : ByteArray) ++ DA ++ (⟨#[58, 32]⟩ : ByteArray) ++ NM).toList) = false := by
        rw [beq_eq_false_iff_ne]
        intro h
        exact hne (htx ▸ ByteArray.ext (Array.ext' (by simpa [toList_data, secB, colB, atB] using h)))
      have tg2 : (G.toList == ((⟨#[115, 101, 99, 116, 105, 111, 110, 32]⟩ : ByteArray) ++ DS ++ (⟨#[58, 32]⟩ : ByteArray) ++ NM).toList) = true := by rw [htx]; simp [secB, colB]
      have ta : (az == 0) = true := by rw [← haz']; rfl
      clear hq2 hsz hsz' haz' haz hxn hxa htx hDS hDA hNM hG hfl h1k h2k hn1 hn5 hne
      go_wp2_with (first
        | (go_at_call 17; refine (HIN.out _ (HB0.out.trans (HB4.out.mono HB0.out.size))).mono ?_; rintro e0 W5 ⟨rfl, hb5⟩; have HB5 := Lib.hid (HB4.out.trans (hb5.mono HB4.out.size)); have HC5 := Lib.hid hb5; obtain ⟨f0, f1, f2, f3, f4, f5, f6, f7, f8⟩ := H9.out _ HB5.out; clear hb5)
        | (go_at_call 18; refine (HNM.out _).mono ?_; rintro e0 W6 ⟨rfl, hb6⟩; have HB6 := Lib.hid (HB5.out.trans (hb6.mono HB5.out.size)); have HC6 := Lib.hid (HC5.out.trans (hb6.mono HC5.out.size)); obtain ⟨g0, g1, g2, g3, g4, g5, g6, g7, g8⟩ := H9.out _ HB6.out; clear hb6)
        | (go_at_call 19; refine (HDS.out _).mono ?_; rintro e0 W8 ⟨rfl, hb8⟩; have HB8 := Lib.hid (HB6.out.trans (hb8.mono HB6.out.size)); have HC8 := Lib.hid (HC6.out.trans (hb8.mono HC6.out.size)); obtain ⟨j0, j1, j2, j3, j4, j5, j6, j7, j8⟩ := H9.out _ HB8.out; clear hb8 HDS)
        | (go_at_call 16; refine (HTX.out _ HC8.out).mono ?_; rintro e0 W9 ⟨rfl, hb9⟩; have HB9 := Lib.hid (HB8.out.trans (hb9.mono HB8.out.size)); obtain ⟨l0, l1, l2, l3, l4, l5, l6, l7, l8⟩ := H9.out _ HB9.out; clear hb9)
        | (go_at_call 19; refine (HDA.out _).mono ?_; rintro e0 W10 ⟨rfl, hb10⟩; have HB10 := Lib.hid (HB9.out.trans (hb10.mono HB9.out.size)); obtain ⟨m0, m1, m2, m3, m4, m5, m6, m7, m8⟩ := H9.out _ HB10.out; clear hb10)
        | (go_at_call 6; refine (HAW.out _ (HB0.out.trans (HB10.out.mono HB0.out.size))).mono ?_; rintro e0 W11 ⟨rfl, hb11⟩; have HB11 := Lib.hid (HB10.out.trans (hb11.mono HB10.out.size)); clear hb11))
      go_ret
      exact ⟨rfl, HB0.out.trans (HB11.out.mono HB0.out.size)⟩
    · obtain ⟨n, i, hq2, hn1, hn5, hi⟩ := hform
      rw [inn_two hq2] at HIN
      have hsz' : n = sz := by rw [← hsz, hq2]; rfl
      have haz' : i = az := by rw [← haz, hq2]; rfl
      have hxn : IxOk sz := by rw [← hsz']; exact ⟨by omega, by omega⟩
      have hxa : IxOk az := by rw [← haz']; exact hi
      have HDS := Lib.hid (fun (W : World) => dd_digits hxn W)
      have HDA := Lib.hid (fun (W : World) => dd_digits hxa W)
      have HTX : Hid (∀ W, Below W4.heap.size W4 W → Calls Tryz.prog 16 #[.iface u y] W fun e w' => e = .returned (.string (textOf DD q.2 q.1)) ∧ Below W.heap.size W w') := fun W b => by
        have hb := HB0.out.trans ((HB4.out.trans (b.mono HB4.out.size)).mono HB0.out.size)
        refine text_at DD _ q.2 q.1 W (HN.out.kept hb) (fun p hp => dd_at ?_ (tab_kept HT.out hb)) (hfl.kept b) (by rw [hq2]; simp) h1k h2k
        rw [hq2] at hp
        simp only [List.mem_cons, List.not_mem_nil, or_false] at hp
        rcases hp with rfl | rfl
        · rw [← hsz'] at hxn; exact hxn
        · exact hi
      have HNM : Hid (∀ W : World, Calls Tryz.prog 18 #[.int .i64 kz] W fun e w' => e = .returned (.string (nameV kz)) ∧ Below W.heap.size W w') := fun W => rname_any kz ⟨by omega, by omega⟩ W
      have htx : textOf DD q.2 q.1 = textOf DD [(true, sz), (false, az)] kz := by rw [hq2, hkz, hsz', haz']
      rw [text_two] at htx
      have sds := dd_size hxn
      have sda := dd_size hxa
      have snm : (nameV kz).size ≤ 9 := by unfold nameV; rw [if_pos (by omega)]; exact nm_le (by omega)
      obtain ⟨DS, hDS⟩ : ∃ D, DD sz = D := ⟨_, rfl⟩
      obtain ⟨DA, hDA⟩ : ∃ D, DD az = D := ⟨_, rfl⟩
      obtain ⟨NM, hNM⟩ : ∃ D, nameV kz = D := ⟨_, rfl⟩
      rw [hDS] at HDS htx sds
      rw [hDA] at HDA sda htx
      rw [hNM] at HNM htx snm
      obtain ⟨G, hG⟩ : ∃ D, textOf DD q.2 q.1 = D := ⟨_, rfl⟩
      rw [hG] at HTX htx
      have tg1 : (G.toList == ((⟨#[115, 101, 99, 116, 105, 111, 110, 32]⟩ : ByteArray) ++ DS ++ (⟨#[58, 32]⟩ : ByteArray) ++ (⟨#[97, 116, 32]⟩ : ByteArray) ++ DA ++ (⟨#[58, 32]⟩ : ByteArray) ++ NM).toList) = true := by rw [htx]; simp [secB, colB, atB]
      clear hq2 hsz hsz' haz' haz hxn hxa htx hDS hDA hNM hG hfl h1k h2k hn1 hn5 hi
      go_wp2_with (first
        | (go_at_call 17; refine (HIN.out _ (HB0.out.trans (HB4.out.mono HB0.out.size))).mono ?_; rintro e0 W5 ⟨rfl, hb5⟩; have HB5 := Lib.hid (HB4.out.trans (hb5.mono HB4.out.size)); have HC5 := Lib.hid hb5; obtain ⟨f0, f1, f2, f3, f4, f5, f6, f7, f8⟩ := H9.out _ HB5.out; clear hb5)
        | (go_at_call 18; refine (HNM.out _).mono ?_; rintro e0 W6 ⟨rfl, hb6⟩; have HB6 := Lib.hid (HB5.out.trans (hb6.mono HB5.out.size)); have HC6 := Lib.hid (HC5.out.trans (hb6.mono HC5.out.size)); obtain ⟨g0, g1, g2, g3, g4, g5, g6, g7, g8⟩ := H9.out _ HB6.out; clear hb6)
        | (go_at_call 19; refine (HDS.out _).mono ?_; rintro e0 W8 ⟨rfl, hb8⟩; have HB8 := Lib.hid (HB6.out.trans (hb8.mono HB6.out.size)); have HC8 := Lib.hid (HC6.out.trans (hb8.mono HC6.out.size)); obtain ⟨j0, j1, j2, j3, j4, j5, j6, j7, j8⟩ := H9.out _ HB8.out; clear hb8 HDS)
        | (go_at_call 16; refine (HTX.out _ HC8.out).mono ?_; rintro e0 W9 ⟨rfl, hb9⟩; have HB9 := Lib.hid (HB8.out.trans (hb9.mono HB8.out.size)); obtain ⟨l0, l1, l2, l3, l4, l5, l6, l7, l8⟩ := H9.out _ HB9.out; clear hb9)
        | (go_at_call 19; refine (HDA.out _).mono ?_; rintro e0 W10 ⟨rfl, hb10⟩; have HB10 := Lib.hid (HB9.out.trans (hb10.mono HB9.out.size)); obtain ⟨m0, m1, m2, m3, m4, m5, m6, m7, m8⟩ := H9.out _ HB10.out; clear hb10)
        | (go_at_call 6; refine (HAW.out _ (HB0.out.trans (HB10.out.mono HB0.out.size))).mono ?_; rintro e0 W11 ⟨rfl, hb11⟩; have HB11 := Lib.hid (HB10.out.trans (hb11.mono HB10.out.size)); clear hb11))
      go_ret
      exact ⟨rfl, HB0.out.trans (HB11.out.mono HB0.out.size)⟩
    · obtain ⟨i, j, hq2, hi, hj⟩ := hform
      rw [inn_three hq2] at HIN
      have hsz' : (3 : Int) = sz := by rw [← hsz, hq2]; rfl
      have haz' : i = az := by rw [← haz, hq2]; rfl
      have hxn : IxOk sz := by rw [← hsz']; exact ⟨by omega, by omega⟩
      have hxa : IxOk az := by rw [← haz']; exact hi
      have HDS := Lib.hid (fun (W : World) => dd_digits hxn W)
      have HDA := Lib.hid (fun (W : World) => dd_digits hxa W)
      have HDJ := Lib.hid (fun (W : World) => dd_digits hj W)
      have HTX : Hid (∀ W, Below W4.heap.size W4 W → Calls Tryz.prog 16 #[.iface u y] W fun e w' => e = .returned (.string (textOf DD q.2 q.1)) ∧ Below W.heap.size W w') := fun W b => by
        have hb := HB0.out.trans ((HB4.out.trans (b.mono HB4.out.size)).mono HB0.out.size)
        refine text_at DD _ q.2 q.1 W (HN.out.kept hb) (fun p hp => dd_at ?_ (tab_kept HT.out hb)) (hfl.kept b) (by rw [hq2]; simp) h1k h2k
        rw [hq2] at hp
        simp only [List.mem_cons, List.not_mem_nil, or_false] at hp
        rcases hp with rfl | rfl | rfl
        · exact ⟨by decide, by decide⟩
        · exact hi
        · exact hj
      have HNM : Hid (∀ W : World, Calls Tryz.prog 18 #[.int .i64 kz] W fun e w' => e = .returned (.string (nameV kz)) ∧ Below W.heap.size W w') := fun W => rname_any kz ⟨by omega, by omega⟩ W
      have htx : textOf DD q.2 q.1 = textOf DD [(true, sz), (false, az), (false, j)] kz := by rw [hq2, hkz, hsz', haz']
      rw [text_three] at htx
      have sds := dd_size hxn
      have sda := dd_size hxa
      have snm : (nameV kz).size ≤ 9 := by unfold nameV; rw [if_pos (by omega)]; exact nm_le (by omega)
      have sdj := dd_size hj
      obtain ⟨DS, hDS⟩ : ∃ D, DD sz = D := ⟨_, rfl⟩
      obtain ⟨DA, hDA⟩ : ∃ D, DD az = D := ⟨_, rfl⟩
      obtain ⟨NM, hNM⟩ : ∃ D, nameV kz = D := ⟨_, rfl⟩
      rw [hDS] at HDS htx sds
      rw [hDA] at HDA sda htx
      rw [hNM] at HNM htx snm
      obtain ⟨DJ, hDJ⟩ : ∃ D, DD j = D := ⟨_, rfl⟩
      rw [hDJ] at HDJ htx sdj
      obtain ⟨G, hG⟩ : ∃ D, textOf DD q.2 q.1 = D := ⟨_, rfl⟩
      rw [hG] at HTX htx
      have tg1 : (G.toList == ((⟨#[115, 101, 99, 116, 105, 111, 110, 32]⟩ : ByteArray) ++ DS ++ (⟨#[58, 32]⟩ : ByteArray) ++ (⟨#[97, 116, 32]⟩ : ByteArray) ++ DA ++ (⟨#[58, 32]⟩ : ByteArray) ++ ((⟨#[97, 116, 32]⟩ : ByteArray) ++ DJ ++ (⟨#[58, 32]⟩ : ByteArray) ++ NM)).toList) = true := by rw [htx]; simp [secB, colB, atB]
      have tj : decide ((0 : Int) ≤ j) = true := decide_eq_true hj.1
      clear hq2 hsz hsz' haz' haz hxn hxa htx hDS hDA hNM hG hfl h1k h2k hi hj hDJ
      go_wp2_with (first
        | (go_at_call 17; refine (HIN.out _ (HB0.out.trans (HB4.out.mono HB0.out.size))).mono ?_; rintro e0 W5 ⟨rfl, hb5⟩; have HB5 := Lib.hid (HB4.out.trans (hb5.mono HB4.out.size)); have HC5 := Lib.hid hb5; obtain ⟨f0, f1, f2, f3, f4, f5, f6, f7, f8⟩ := H9.out _ HB5.out; clear hb5)
        | (go_at_call 18; refine (HNM.out _).mono ?_; rintro e0 W6 ⟨rfl, hb6⟩; have HB6 := Lib.hid (HB5.out.trans (hb6.mono HB5.out.size)); have HC6 := Lib.hid (HC5.out.trans (hb6.mono HC5.out.size)); obtain ⟨g0, g1, g2, g3, g4, g5, g6, g7, g8⟩ := H9.out _ HB6.out; clear hb6)
        | (go_at_call 19; refine (HDJ.out _).mono ?_; rintro e0 W7 ⟨rfl, hb7⟩; have HB7 := Lib.hid (HB6.out.trans (hb7.mono HB6.out.size)); have HC7 := Lib.hid (HC6.out.trans (hb7.mono HC6.out.size)); obtain ⟨h0, h1, h2, h3, h4, h5, h6, h7, h8⟩ := H9.out _ HB7.out; clear hb7 HDJ)
        | (go_at_call 19; refine (HDS.out _).mono ?_; rintro e0 W8 ⟨rfl, hb8⟩; have HB8 := Lib.hid (HB7.out.trans (hb8.mono HB7.out.size)); have HC8 := Lib.hid (HC7.out.trans (hb8.mono HC7.out.size)); obtain ⟨j0, j1, j2, j3, j4, j5, j6, j7, j8⟩ := H9.out _ HB8.out; clear hb8 HDS)
        | (go_at_call 16; refine (HTX.out _ HC8.out).mono ?_; rintro e0 W9 ⟨rfl, hb9⟩; have HB9 := Lib.hid (HB8.out.trans (hb9.mono HB8.out.size)); obtain ⟨l0, l1, l2, l3, l4, l5, l6, l7, l8⟩ := H9.out _ HB9.out; clear hb9)
        | (go_at_call 19; refine (HDA.out _).mono ?_; rintro e0 W10 ⟨rfl, hb10⟩; have HB10 := Lib.hid (HB9.out.trans (hb10.mono HB9.out.size)); obtain ⟨m0, m1, m2, m3, m4, m5, m6, m7, m8⟩ := H9.out _ HB10.out; clear hb10)
        | (go_at_call 6; refine (HAW.out _ (HB0.out.trans (HB10.out.mono HB0.out.size))).mono ?_; rintro e0 W11 ⟨rfl, hb11⟩; have HB11 := Lib.hid (HB10.out.trans (hb11.mono HB10.out.size)); clear hb11))
      go_ret
      exact ⟨rfl, HB0.out.trans (HB11.out.mono HB0.out.size)⟩

end Go.Proofs.YtmcmmbkodllpkaaGreatDoor.Chk
namespace Go.Proofs.YtmcmmbkodllpkaaGreatDoor.Nam

open Go.RowKit

theorem gTab : Tryz.prog.globalNamed "internal/strconv.uint64pow10" = some 2 := by kernel_rfl
theorem tTab : (Tryz.prog.globals[2]?).map (·.type) = some 183 := by kernel_rfl
theorem tab_of {D : DataW Unit} {rest : List (String × DataW Unit)} {W : World} (hD : D = Lib.tabData .u64 Lib.pow10Tab) (h : laidMet Tryz.prog (("internal/strconv.uint64pow10", D) :: rest) W) : Tab W := by
  subst hD
  exact Lib.tabIs_of_head gTab tTab Tryz.underlying183 Tryz.underlying22 (by kernel_rfl) (by kernel_rfl) h
end Go.Proofs.YtmcmmbkodllpkaaGreatDoor.Nam
namespace Go.Proofs.YtmcmmbkodllpkaaGreatDoor.checkTexts

open Go.RowKit Go.PlainAid Go.Proofs.YtmcmmbkodllpkaaGreatDoor.Args

set_option linter.unusedVariables false

open Go.Proofs.YtmcmmbkodllpkaaGreatDoor.Chk

theorem walk (a0 : Array Value) (w : World) (w0 : IsMod w modK a0) (hn : Go.Proofs.YtmcmmbkodllpkaaGreatDoor.Flt.Names w ∧ Go.Proofs.YtmcmmbkodllpkaaGreatDoor.Nam.Tab w) :
    Calls Tryz.prog 4 #[.agg a0] w fun e w' => e = .returned (.bool true) ∧ Below w.heap.size w w' := by
  exact texts_any a0 w w0 hn.1 hn.2

end Go.Proofs.YtmcmmbkodllpkaaGreatDoor.checkTexts
