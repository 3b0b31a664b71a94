
/- The function StatusTexts returns true for every status and every text. Condition: the package-level variables hold what the program and the library lay in them (the card ties that). This text: the walk through the Go text; the row is in the text without the W at its name's end. -/

import Derived.Test.YtkikghmigjkjiaaDoorArgs

import Derived.Test.YtkikghmigjkjiaaDoorStaG

namespace Go.Proofs.YtkikghmigjkjiaaDoor.statusTexts

open Go.RowKit Go.PlainAid Go.Proofs.YtkikghmigjkjiaaDoor.Args

set_option linter.unusedVariables false

open Go.Proofs.YtkikghmigjkjiaaDoor.Sta Go.Proofs.YtkikghmigjkjiaaDoor.Oct Go.Proofs.YtkikghmigjkjiaaDoor.Flt

set_option linter.unusedSimpArgs false

theorem eq_st (a b c : Int) (w : World) : (Op.equalIn 10000 25 (.agg #[.int .u64 a, .int .i64 b, .int .i64 c]) (.agg #[.int .u64 a, .int .i64 b, .int .i64 c])).run Tryd.prog w = .ok true w := by
  have hS : Tryd.prog.underlying 25 = some (.struct (Tryd.prog.fieldsOf 25)) := by kernel_rfl
  rw [show (10000 : Nat) = 9999 + 1 from rfl, run_equalIn_agg w 9999 25 _ _ hS (by kernel_rfl)]
  simp only [Program.fieldsOf, Tryd.underlying25]
  go_simp
theorem status_of {w : World} {a : Array Value} (h : IsAgg w [.one (.int .u64), .one (.int .i64), .one (.int .i64)] a) : ∃ (l : Nat) (c n : Int), a = #[.int .u64 l, .int .i64 c, .int .i64 n] ∧ l ≤ 18446744073709551615 ∧ (-9223372036854775808 ≤ c ∧ c ≤ 9223372036854775807) ∧ (-9223372036854775808 ≤ n ∧ n ≤ 9223372036854775807) := by
  obtain ⟨hz, hf⟩ := h
  obtain ⟨v0, e0, x0, rfl, b0⟩ := hf 0 _ rfl
  obtain ⟨v1, e1, x1, rfl, b1⟩ := hf 1 _ rfl
  obtain ⟨v2, e2, x2, rfl, b2⟩ := hf 2 _ rfl
  have c0 := bounds_u64 b0
  have c1 := bounds_i64 b1
  have c2 := bounds_i64 b2
  refine ⟨x0.toNat, x1, x2, ?_, by omega, c1, c2⟩
  have hx : ((x0.toNat : Nat) : Int) = x0 := by omega
  rw [hx]
  apply Array.ext
  · simpa using hz
  · intro i h1 h2
    have h3 : i < 3 := by simpa using h2
    rcases (show i = 0 ∨ i = 1 ∨ i = 2 by omega) with rfl | rfl | rfl
    · rw [Array.getElem?_eq_getElem h1] at e0; simpa using Option.some.inj e0
    · rw [Array.getElem?_eq_getElem h1] at e1; simpa using Option.some.inj e1
    · rw [Array.getElem?_eq_getElem h1] at e2; simpa using Option.some.inj e2
/-- A status' text is parsed as it was. -/
theorem par_text (l : Nat) (c n : Int) (hl : l ≤ 18446744073709551615) (hc : -9223372036854775808 ≤ c ∧ c ≤ 9223372036854775807) (hn' : -9223372036854775808 ≤ n ∧ n ≤ 9223372036854775807) (w : World) (hn : Names w) (ht : Tab w) (he : Errs w) :
    Calls Tryd.prog 13 #[.string (tB l c n)] w (ParYes l c n w) := by
  have hle := tB_le l c n hl hc hn'
  have hge : 23 ≤ (tB l c n).size := by
    unfold tB
    simp only [ByteArray.size_append]
    have e1 : wLast.size = 5 := rfl
    have e2 : wCur.size = 9 := rfl
    have e3 : wNext.size = 6 := rfl
    have d1 : 1 ≤ (decB l).size := by
      obtain ⟨x, r, e, _⟩ := dec_cons l
      rw [decB_size, e]; simp
    have d2 : ∀ z : Int, 1 ≤ (itB z).size := by
      intro z
      show 1 ≤ (Lib.itoa z).toArray.size
      unfold Lib.itoa
      split
      · simp
      · obtain ⟨x, r, e, _⟩ := dec_cons z.toNat
        rw [e]; simp
    have := d2 c
    have := d2 n
    omega
  have hsp := spl_text l c n
  have hm : min 6 (tB l c n).data.toList.length = 6 := by
    have : (tB l c n).data.toList.length = (tB l c n).size := by rw [Array.length_toList]; rfl
    omega
  have h300 : (tB l c n).data.toList.length ≤ 300 := by
    have : (tB l c n).data.toList.length = (tB l c n).size := by rw [Array.length_toList]; rfl
    omega
  have hb : ((tB (puV (Lib.decDigits l)) (atV (Lib.itoa c)) (atV (Lib.itoa n))).toList == (BA (tB l c n).data.toList).toList) = true := by
    rw [puV_dec l hl, atV_it c hc, atV_it n hn', ba_list]; simp
  have h := par_six (tB l c n).data.toList (Lib.decDigits l) (Lib.itoa c) (Lib.itoa n) h300 (by rw [hm, hsp]; rfl) (by rw [hm, hsp]; rfl) (by rw [hm, hsp]; rfl) (by rw [hm, hsp]; rfl) true hb w hn ht he
  rw [ba_list, puV_dec l hl, atV_it c hc, atV_it n hn'] at h
  exact h
/-- What is told of any text. -/
theorem par_any (s : ByteArray) (hs : s.size ≤ 300) : (∃ (l : Nat) (c n : Int), l ≤ 18446744073709551615 ∧ (-9223372036854775808 ≤ c ∧ c ≤ 9223372036854775807) ∧ (-9223372036854775808 ≤ n ∧ n ≤ 9223372036854775807) ∧ tB l c n = s ∧ ∀ w, Names w → Tab w → Errs w → Calls Tryd.prog 13 #[.string s] w (ParYes l c n w)) ∨ ∀ w, Names w → Tab w → Errs w → Calls Tryd.prog 13 #[.string s] w (ParNo w) := by
  have h300 : s.data.toList.length ≤ 300 := by
    have : s.data.toList.length = s.size := by rw [Array.length_toList]; rfl
    omega
  by_cases h6 : (spl (min 6 s.data.toList.length) s.data.toList).length = 6
  · obtain ⟨p1, h1⟩ : ∃ p, (spl (min 6 s.data.toList.length) s.data.toList)[1]? = some p := ⟨_, List.getElem?_eq_getElem (by omega)⟩
    obtain ⟨p3, h3⟩ : ∃ p, (spl (min 6 s.data.toList.length) s.data.toList)[3]? = some p := ⟨_, List.getElem?_eq_getElem (by omega)⟩
    obtain ⟨p5, h5⟩ : ∃ p, (spl (min 6 s.data.toList.length) s.data.toList)[5]? = some p := ⟨_, List.getElem?_eq_getElem (by omega)⟩
    cases hb : ((tB (puV p1) (atV p3) (atV p5)).toList == (BA s.data.toList).toList) with
    | true =>
      left
      refine ⟨puV p1, atV p3, atV p5, puV_le _, atV_in _, atV_in _, ?_, fun w hn ht he => ?_⟩
      · rw [ba_list] at hb
        have h := eq_of_beq hb
        apply ByteArray.ext
        apply Array.toList_inj.1
        rw [← ByteArray.toList_eq, ← ByteArray.toList_eq]
        exact h
      · have h := par_six s.data.toList p1 p3 p5 h300 h6 h1 h3 h5 true hb w hn ht he
        rw [ba_list] at h
        exact h
    | false =>
      right
      intro w hn ht he
      have h := par_six s.data.toList p1 p3 p5 h300 h6 h1 h3 h5 false hb w hn ht he
      rw [ba_list] at h
      exact h
  · right
    intro w hn ht he
    have h := par_few s.data.toList h300 h6 w hn
    rw [ba_list] at h
    exact h
set_option maxRecDepth 8000 in
set_option maxHeartbeats 6400000 in
theorem walk (a0 : Array Value) (a1 : ByteArray) (w : World) (w0 : IsAgg w [.one (.int .u64), .one (.int .i64), .one (.int .i64)] a0) (w1 : a1.size ≤ maxLen) (hn : Go.Proofs.YtkikghmigjkjiaaDoor.Flt.Names w ∧ Go.Proofs.YtkikghmigjkjiaaDoor.Sta.Tab w ∧ Go.Proofs.YtkikghmigjkjiaaDoor.Sta.Errs w) :
    Calls Tryd.prog 5 #[.agg a0, .string a1] w fun e w' => e = .returned (.bool true) ∧ Below w.heap.size w w' := by
  have HN := Lib.hid hn.1
  have HT := Lib.hid hn.2.1
  have HE := Lib.hid hn.2.2
  clear hn
  obtain ⟨l, c, n, rfl, hl64, hc64, hn64⟩ := status_of w0
  clear w0
  have hb0 : Below w.heap.size w (w.alloc (.cells #[.int .u64 l, .int .i64 c, .int .i64 n] 25)) := (Below.refl _ _).alloc (Nat.le_refl _) _
  have hr0 := heap_alloc_new w (.cells #[.int .u64 l, .int .i64 c, .int .i64 n] 25)
  obtain ⟨W0, hW0⟩ : ∃ W, w.alloc (.cells #[.int .u64 l, .int .i64 c, .int .i64 n] 25) = W := ⟨_, rfl⟩
  obtain ⟨B0, hB0⟩ : ∃ B, w.heap.size = B := ⟨_, rfl⟩
  rw [hW0] at hb0 hr0
  rw [hB0] at hr0
  have HW0 := Lib.hid hW0
  have HBE := Lib.hid hB0
  have HB0 := Lib.hid hb0
  have HR0 := Lib.hid hr0
  clear hW0 hB0 hb0 hr0
  by_cases hl : 200 < (a1.size : Int)
  · have t : decide (200 < (a1.size : Int)) = true := decide_eq_true hl
    have t' : decide (200 < a1.size) = true := decide_eq_true (by omega)
    have HA := Lib.hid (awake_any W0 (tab_kept HT.out HB0.out))
    clear hl hl64 hc64 hn64 w1
    go_enter Tryd.func5, Tryd.ntmps5
    go_upto_region 1 with fail
    rw [HW0.out]
    go_wp2_with (go_at_call 6; refine HA.out.mono ?_; rintro e w' ⟨rfl, hb⟩)
    go_ret
    exact ⟨rfl, HB0.out.trans (hb.mono HB0.out.size)⟩
  have t : decide (200 < (a1.size : Int)) = false := decide_eq_false hl
  have t' : decide (200 < a1.size) = false := decide_eq_false (by omega)
  have HTX := Lib.hid (fun w ht => text_any2 l c n hl64 hc64 hn64 w ht)
  have HRX := Lib.hid (fun w => rtext_any2 l c n hl64 hc64 hn64 w)
  have HPX := Lib.hid (fun w hn ht he => par_text l c n hl64 hc64 hn64 w hn ht he)
  have hpa := par_any a1 (by omega)
  obtain ⟨X, hX⟩ : ∃ X, tB l c n = X := ⟨_, rfl⟩
  rw [hX] at HTX HRX HPX
  unfold ParYes at HPX
  have hxx : (X.toList != X.toList) = false := by simp
  have hss : (a1.toList == a1.toList) = true := by simp
  have hes : ∀ (l' : Nat) (c' n' : Int), ∀ wx : World, (Op.equalIn 10000 25 (.agg #[.int .u64 l', .int .i64 c', .int .i64 n']) (.agg #[.int .u64 l', .int .i64 c', .int .i64 n'])).run Tryd.prog wx = .ok true wx := fun l' c' n' => eq_st l' c' n'
  have hesl := hes l c n
  have hes0 : ∀ wx : World, (Op.equalIn 10000 25 (.agg #[.int .u64 0, .int .i64 0, .int .i64 0]) (.agg #[.int .u64 0, .int .i64 0, .int .i64 0])).run Tryd.prog wx = .ok true wx := eq_st 0 0 0
  have hef : ∀ wx : World, (Op.equalIn 10000 33 (.agg #[.int .i64 6, .int .i64 0, .int .i64 0]) (.agg #[.int .i64 6, .int .i64 0, .int .i64 0])).run Tryd.prog wx = .ok true wx := eq_flt 6 0 0
  clear hl hl64 hc64 hn64 w1 hX hes
  go_enter Tryd.func5, Tryd.ntmps5
  go_upto_region 1 with fail
  rw [HW0.out, HBE.out]
  go_wp2_with ((with_reducible show wpList _ _ _ _ _ _); refine wpList_load_row rfl 25 (.tmp 2) rfl B0 rfl 25 _ (0, 0) _ HR0.out Tryd.underlying25 rfl (by rw [size_st]; rfl) ?_)
  refine (HTX.out _ (tab_kept HT.out HB0.out)).mono ?_
  rintro e w2 ⟨rfl, hb2⟩
  have HB2 := Lib.hid (HB0.out.trans (hb2.mono HB0.out.size))
  have HR2 := Lib.hid ((hb2.block _ (lt_of_block HR0.out)).trans HR0.out)
  clear hb2
  go_wp2_with fail
  refine (HPX.out _ (HN.out.kept HB2.out) (tab_kept HT.out HB2.out) (HE.out.kept HB2.out)).mono ?_
  rintro e w3 ⟨rfl, hb3⟩
  have hb4 : Below w3.heap.size w3 (w3.alloc (.cells #[.int .u64 l, .int .i64 c, .int .i64 n] 25)) := (Below.refl _ _).alloc (Nat.le_refl _) _
  have hb34 := hb3.trans (hb4.mono hb3.size)
  have HB4 := Lib.hid (HB2.out.trans (hb34.mono HB2.out.size))
  have HR4 := Lib.hid ((hb34.block _ (lt_of_block HR2.out)).trans HR2.out)
  have HX4 := Lib.hid (heap_alloc_new w3 (.cells #[.int .u64 l, .int .i64 c, .int .i64 n] 25))
  obtain ⟨T, hT⟩ : ∃ T, w3.heap.size = T := ⟨_, rfl⟩
  obtain ⟨W4, hW4⟩ : ∃ W, w3.alloc (.cells #[.int .u64 l, .int .i64 c, .int .i64 n] 25) = W := ⟨_, rfl⟩
  rw [hW4] at HB4 HR4 HX4
  rw [hT] at HX4
  have HWW := Lib.hid hW4
  have HTT := Lib.hid hT
  clear hb3 hb4 hb34 hW4 hT HR2
  go_upto_region 5 with fail
  rw [HWW.out, HTT.out]
  clear HWW HTT
  have HC : Hid (∀ W, Below W4.heap.size W4 W → (W.cell? ⟨B0, 0, none⟩ = some (.int .u64 l) ∧ W.cell? ⟨B0, 1, none⟩ = some (.int .i64 c) ∧ W.cell? ⟨B0, 2, none⟩ = some (.int .i64 n)) ∧ W.cell? ⟨T, 0, none⟩ = some (.int .u64 l) ∧ W.cell? ⟨T, 1, none⟩ = some (.int .i64 c) ∧ W.cell? ⟨T, 2, none⟩ = some (.int .i64 n)) := fun W b => by
    have h1 := (b.block _ (lt_of_block HR4.out)).trans HR4.out
    have h2 := (b.block _ (lt_of_block HX4.out)).trans HX4.out
    refine ⟨⟨?_, ?_, ?_⟩, ?_, ?_, ?_⟩
    all_goals first
      | (rw [cell_of_row _ _ _ _ _ _ h1]; rfl)
      | (rw [cell_of_row _ _ _ _ _ _ h2]; rfl)
  have HC0 := Lib.hid (HC.out W4 (Below.refl _ _))
  obtain ⟨⟨d0, d1, d2⟩, d3, d4, d5⟩ := HC0.out
  go_wp2_with fail
  refine (HRX.out _).mono ?_
  rintro e w5 ⟨rfl, hb5⟩
  have HB5' := Lib.hid hb5
  clear hb5 d0 d1 d2 d3 d4 d5 HC0
  have HC5 := Lib.hid (HC.out _ HB5'.out)
  obtain ⟨⟨d0, d1, d2⟩, d3, d4, d5⟩ := HC5.out
  have HB5 := Lib.hid (HB4.out.trans (HB5'.out.mono HB4.out.size))
  rcases hpa with ⟨l', c', n', hl', hc', hn', htb, hpc⟩ | hpc
  · have HPC := Lib.hid hpc
    unfold ParYes at HPC
    have HRT := Lib.hid (fun w => rtext_any2 l' c' n' hl' hc' hn' w)
    rw [htb] at HRT
    clear hpc hl' hc' hn' htb
    go_wp2_with fail
    clear d0 d1 d2 d3 d4 d5 HC5 HC hesl HB5' HX4 HR4
    refine (HPC.out _ (HN.out.kept HB5.out) (tab_kept HT.out HB5.out) (HE.out.kept HB5.out)).mono ?_
    rintro e w6 ⟨rfl, hb6⟩
    have hb7 : Below w6.heap.size w6 (w6.alloc (.cells #[.int .u64 l', .int .i64 c', .int .i64 n'] 25)) := (Below.refl _ _).alloc (Nat.le_refl _) _
    have hb67 := hb6.trans (hb7.mono hb6.size)
    have HB7 := Lib.hid (HB5.out.trans (hb67.mono HB5.out.size))
    have HX7 := Lib.hid (heap_alloc_new w6 (.cells #[.int .u64 l', .int .i64 c', .int .i64 n'] 25))
    obtain ⟨U, hU⟩ : ∃ T, w6.heap.size = T := ⟨_, rfl⟩
    obtain ⟨W7, hW7⟩ : ∃ W, w6.alloc (.cells #[.int .u64 l', .int .i64 c', .int .i64 n'] 25) = W := ⟨_, rfl⟩
    rw [hW7] at HB7 HX7
    rw [hU] at HX7
    have HWW := Lib.hid hW7
    have HUU := Lib.hid hU
    clear hb6 hb7 hb67 hW7 hU
    go_upto_region 8 with fail
    rw [HWW.out, HUU.out]
    clear HWW HUU
    go_wp2_with (first
      | ((with_reducible show wpList _ _ _ _ _ _); refine wpList_load_row rfl 25 (.tmp 8) rfl U rfl 25 _ (0, 0) _ HX7.out Tryd.underlying25 rfl (by rw [size_st]; rfl) ?_)
      | (go_at_call 14; refine (HRT.out _).mono ?_; rintro e w8 ⟨rfl, hb8⟩; have HB8 := Lib.hid (HB7.out.trans (hb8.mono HB7.out.size)); clear hb8)
      | (go_at_call 6; refine (awake_any _ (tab_kept HT.out HB8.out)).mono ?_; rintro e w9 ⟨rfl, hb9⟩; have HB9 := Lib.hid (HB8.out.trans (hb9.mono HB8.out.size)); clear hb9))
    go_ret
    exact ⟨rfl, HB9.out⟩
  · have HPC := Lib.hid hpc
    unfold ParNo at HPC
    clear hpc
    go_wp2_with fail
    clear d0 d1 d2 d3 d4 d5 HC5 HC hesl HB5' HX4 HR4
    refine (HPC.out _ (HN.out.kept HB5.out) (tab_kept HT.out HB5.out) (HE.out.kept HB5.out)).mono ?_
    rintro e w6 ⟨rfl, hb6⟩
    have hb7 : Below w6.heap.size w6 (w6.alloc (.cells #[.int .u64 0, .int .i64 0, .int .i64 0] 25)) := (Below.refl _ _).alloc (Nat.le_refl _) _
    have hb67 := hb6.trans (hb7.mono hb6.size)
    have HB7 := Lib.hid (HB5.out.trans (hb67.mono HB5.out.size))
    have HX7 := Lib.hid (heap_alloc_new w6 (.cells #[.int .u64 0, .int .i64 0, .int .i64 0] 25))
    obtain ⟨U, hU⟩ : ∃ T, w6.heap.size = T := ⟨_, rfl⟩
    obtain ⟨W7, hW7⟩ : ∃ W, w6.alloc (.cells #[.int .u64 0, .int .i64 0, .int .i64 0] 25) = W := ⟨_, rfl⟩
    rw [hW7] at HB7 HX7
    rw [hU] at HX7
    have HWW := Lib.hid hW7
    have HUU := Lib.hid hU
    clear hb6 hb7 hb67 hW7 hU
    go_upto_region 8 with fail
    rw [HWW.out, HUU.out]
    clear HWW HUU
    go_wp2_with (first
      | ((with_reducible show wpList _ _ _ _ _ _); refine wpList_load_row rfl 25 (.tmp 8) rfl U rfl 25 _ (0, 0) _ HX7.out Tryd.underlying25 rfl (by rw [size_st]; rfl) ?_)
      | (go_at_call 8; refine (of_any (.iface 70 (.int .i64 6)) [] 6 _ rfl (by simp)).mono ?_; rintro e w8 ⟨rfl, hb8⟩; (try simp only [fltV, secOf, atOf]); have HB8 := Lib.hid (HB7.out.trans (hb8.mono HB7.out.size)); clear hb8)
      | (go_at_call 6; refine (awake_any _ (tab_kept HT.out HB8.out)).mono ?_; rintro e w9 ⟨rfl, hb9⟩; have HB9 := Lib.hid (HB8.out.trans (hb9.mono HB8.out.size)); clear hb9))
    go_ret
    exact ⟨rfl, HB9.out⟩

end Go.Proofs.YtkikghmigjkjiaaDoor.statusTexts
