
/- A status out of a text (status.Parse). Condition: the variables hold what the program and the library lay there; the text has at most 300 bytes. -/

import Derived.Test.YtkikghmigjkjiaaDoorStaF

import Derived.Test.YtkikghmigjkjiaaDoorStaD

namespace Go.Proofs.YtkikghmigjkjiaaDoor.Sta

open Go.RowKit Go.PlainAid Go.Proofs.YtkikghmigjkjiaaDoor.Oct Go.Proofs.YtkikghmigjkjiaaDoor.Flt Go.Lib Go.Sort

set_option linter.unusedVariables false

set_option linter.unusedSimpArgs false

def Errs (w : World) : Prop := ∃ p q, w.var? Tryd.prog "strconv.ErrSyntax" = some #[.iface 139 p] ∧ w.var? Tryd.prog "strconv.ErrRange" = some #[.iface 139 q]
theorem var_kept {w w' : World} {n : String} {cs : Array Value} (h : w.var? Tryd.prog n = some cs) (b : Below w.heap.size w w') : w'.var? Tryd.prog n = some cs := by
  rw [← h]
  have hg : ∀ g, Tryd.prog.globalNamed n = some g → w'.heap[g]? = w.heap[g]? := by
    intro g hg
    unfold World.var? at h
    rw [hg] at h
    refine b.block g ?_
    rcases Nat.lt_or_ge g w.heap.size with hlt | hge
    · exact hlt
    · simp [Array.getElem?_eq_none hge] at h
  unfold World.var?
  cases hh : Tryd.prog.globalNamed n with
  | none => rfl
  | some g =>
    show (match w'.heap[g]? with | some (.cells cs _ _) => some cs | _ => none) = (match w.heap[g]? with | some (.cells cs _ _) => some cs | _ => none)
    rw [hg g hh]
theorem Errs.kept {w w' : World} (h : Errs w) (b : Below w.heap.size w w') : Errs w' := by
  obtain ⟨p, q, h1, h2⟩ := h
  exact ⟨p, q, var_kept h1 b, var_kept h2 b⟩
theorem below_bw (w : World) (n : Nat) (s : ByteArray) : Below w.heap.size w (Lib.bytesWorld w n s) := by
  exact ⟨rfl, rfl, rfl, by rw [Lib.bytesWorld_size]; omega, fun i hi => Lib.bytesWorld_at_old w n s i hi⟩
theorem pu_any (l : List UInt8) (hl : l.length ≤ 300) (w : World) (he : Errs w) : Calls Tryd.prog 27 #[.string (BA l), .int .i64 10, .int .i64 64] w fun e w' => ∃ x, e = .returned (.tuple #[.int .u64 (puV l : Nat), x]) ∧ Below w.heap.size w w' := by
  obtain ⟨p, q, h1, h2⟩ := he
  have hs : (BA l).size ≤ 300 := by rw [ba_size]; exact hl
  unfold puV
  cases h : parseUintB 64 l with
  | ok u =>
    refine (Tryd.strconv_ParseUint_10_at64_ok (BA l) (by omega) u (by rw [ba_data]; exact h) w).mono ?_
    rintro e w' ⟨rfl, rfl | rfl⟩
    · exact ⟨_, rfl, Below.refl _ _⟩
    · exact ⟨_, rfl, below_bw _ _ _⟩
  | «syntax» =>
    refine (Tryd.strconv_ParseUint_10_at64_syntax_var (BA l) (by omega) (by rw [ba_data]; exact h) _ _ w h1).mono ?_
    rintro e w' ⟨N, rfl, _, _, hb⟩
    exact ⟨_, rfl, hb⟩
  | range =>
    refine (Tryd.strconv_ParseUint_10_at64_range_var (BA l) (by omega) (by rw [ba_data]; exact h) _ _ w h2).mono ?_
    rintro e w' ⟨N, rfl, _, _, hb⟩
    exact ⟨_, rfl, hb⟩
theorem at_any (l : List UInt8) (hl : l.length ≤ 300) (w : World) (he : Errs w) : Calls Tryd.prog 28 #[.string (BA l)] w fun e w' => ∃ x, e = .returned (.tuple #[.int .i64 (atV l), x]) ∧ Below w.heap.size w w' := by
  obtain ⟨p, q, h1, h2⟩ := he
  have hs : (BA l).size ≤ 300 := by rw [ba_size]; exact hl
  unfold atV
  cases h : atoiAll l with
  | ok u =>
    refine (Tryd.strconv_Atoi_ok (BA l) (by omega) u (by rw [ba_data]; exact h) w).mono ?_
    rintro e w' ⟨rfl, rfl | ⟨t, rfl⟩⟩
    · exact ⟨_, rfl, Below.refl _ _⟩
    · exact ⟨_, rfl, below_bw _ _ _⟩
  | «syntax» =>
    refine (Tryd.strconv_Atoi_syntax_var (BA l) (by omega) (by rw [ba_data]; exact h) _ _ w h1).mono ?_
    rintro e w' ⟨N, rfl, _, _, hb⟩
    exact ⟨_, rfl, hb⟩
  | range =>
    refine (Tryd.strconv_Atoi_range_var (BA l) (by omega) (by rw [ba_data]; exact h) _ _ w h2).mono ?_
    rintro e w' ⟨N, rfl, _, _, hb⟩
    rw [ba_data]
    exact ⟨_, rfl, hb⟩
theorem splitn_any (s0 : List UInt8) (F : Nat) (hF : F = min 6 s0.length) (hl : s0.length ≤ 300) (w : World) :
    Calls Tryd.prog 26 #[.string (BA s0), .string ⟨#[32]⟩, .int .i64 7] w (SpPost s0 F w) := by
  have H := Lib.hid (split_any s0 F hF hl w)
  clear hF hl
  go_enter Tryd.func26, Tryd.ntmps26
  go_wp2_with fail
  refine H.out.mono ?_
  rintro e w' ⟨g, rfl, hc, hb⟩
  have HC := Lib.hid hc
  clear hc
  go_wp2
  go_ret
  exact ⟨g, rfl, HC.out, hb⟩
theorem spl_sub : ∀ (k : Nat) (l p : List UInt8), p ∈ spl k l → p.length ≤ l.length
  | 0, l, p, h => by simp [spl] at h; subst h; exact Nat.le_refl _
  | k + 1, l, p, h => by
    rw [spl] at h
    split at h
    · simp at h; subst h; exact Nat.le_refl _
    · rcases List.mem_cons.1 h with rfl | h
      · simp; omega
      · have := spl_sub k _ p h
        simp at this
        omega
def bSt : Array Value := #[.int .u64 0, .int .i64 0, .int .i64 0]
/-- What is told of a text that is no status' text. -/
def ParNo (w : World) (e : Ending) (w' : World) : Prop := e = .returned (.tuple #[.agg #[.int .u64 0, .int .i64 0, .int .i64 0], .iface 70 (.int .i64 6)]) ∧ Below w.heap.size w w'
def ParYes (l : Nat) (c n : Int) (w : World) (e : Ending) (w' : World) : Prop := e = .returned (.tuple #[.agg #[.int .u64 l, .int .i64 c, .int .i64 n], .nilIface]) ∧ Below w.heap.size w w'
set_option maxRecDepth 8000 in
set_option maxHeartbeats 1600000 in
theorem par_few (s0 : List UInt8) (hl : s0.length ≤ 300) (h6 : (spl (min 6 s0.length) s0).length ≠ 6) (w : World) (hn : Names w) :
    Calls Tryd.prog 13 #[.string (BA s0)] w (ParNo w) := by
  have hb0 : Below w.heap.size w (w.alloc (.cells #[.int .u64 0, .int .i64 0, .int .i64 0] 25)) := (Below.refl _ _).alloc (Nat.le_refl _) _
  have HB0 := Lib.hid hb0
  have HR0 := Lib.hid (heap_alloc_new w (.cells #[.int .u64 0, .int .i64 0, .int .i64 0] 25))
  have HSP := Lib.hid (splitn_any s0 (min 6 s0.length) rfl hl (w.alloc (.cells #[.int .u64 0, .int .i64 0, .int .i64 0] 25)))
  have HN := Lib.hid (hn.kept hb0)
  unfold SpPost at HSP
  obtain ⟨L, hL⟩ : ∃ L, spl (min 6 s0.length) s0 = L := ⟨_, rfl⟩
  rw [hL] at HSP h6
  obtain ⟨m, hm⟩ : ∃ m, L.length = m := ⟨_, rfl⟩
  rw [hm] at HSP h6
  have t6 : ((m : Int) == 6) = false := by simp; omega
  clear hb0 hl hn hL hm h6
  go_enter Tryd.func13, Tryd.ntmps13
  go_wp2_with fail
  refine HSP.out.mono ?_
  rintro e w1 ⟨g, rfl, hc, hb1⟩
  have HB1 := Lib.hid (HB0.out.trans (hb1.mono HB0.out.size))
  have HN1 := Lib.hid (HN.out.kept hb1)
  have HR1 := Lib.hid ((hb1.block _ (lt_of_block HR0.out)).trans HR0.out)
  clear hc hb1 HSP
  go_wp2_with (first
    | (go_at_call 18; refine (new_yes 6 (by omega) (by omega) _ HN1.out).mono ?_; rintro e w' ⟨rfl, rfl⟩)
    | ((with_reducible show wpList _ _ _ _ _ _); refine wpList_store_row rfl 25 (.tmp 2) (.tmp 47) rfl w.heap.size #[.int .u64 0, .int .i64 0, .int .i64 0] rfl rfl 25 #[.int .u64 0, .int .i64 0, .int .i64 0] HR1.out (by rw [size_st]; rfl) rfl (one_st _ _ _) ?_))
  refine bodyPost_ret (v := .tuple #[.agg #[.int .u64 0, .int .i64 0, .int .i64 0], .iface 70 (.int .i64 6)]) (results_row_tmpS Tryd.results13 _ _ w.heap.size 25 _ (0, 0) _ rfl (setRow_heap _ _ _ _ _ _ HR1.out) Tryd.underlying25 rfl (by rw [size_st]; rfl)) rfl ⟨rfl, below_put HB1.out _⟩
set_option maxRecDepth 8000 in
set_option maxHeartbeats 3200000 in
theorem par_six (s0 p1 p3 p5 : List UInt8) (hl : s0.length ≤ 300) (h6 : (spl (min 6 s0.length) s0).length = 6) (h1 : (spl (min 6 s0.length) s0)[1]? = some p1) (h3 : (spl (min 6 s0.length) s0)[3]? = some p3) (h5 : (spl (min 6 s0.length) s0)[5]? = some p5) (b : Bool) (hb : ((tB (puV p1) (atV p3) (atV p5)).toList == (BA s0).toList) = b) (w : World) (hn : Names w) (ht : Tab w) (he : Errs w) :
    Calls Tryd.prog 13 #[.string (BA s0)] w (if b then ParYes (puV p1) (atV p3) (atV p5) w else ParNo w) := by
  have hb0 : Below w.heap.size w (w.alloc (.cells #[.int .u64 0, .int .i64 0, .int .i64 0] 25)) := (Below.refl _ _).alloc (Nat.le_refl _) _
  have HB0 := Lib.hid hb0
  have HR0 := Lib.hid (heap_alloc_new w (.cells #[.int .u64 0, .int .i64 0, .int .i64 0] 25))
  have HSP := Lib.hid (splitn_any s0 (min 6 s0.length) rfl hl (w.alloc (.cells #[.int .u64 0, .int .i64 0, .int .i64 0] 25)))
  have HN := Lib.hid hn
  have HT := Lib.hid ht
  have HE := Lib.hid he
  have HP1 : Hid (∀ W, Below w.heap.size w W → Calls Tryd.prog 27 #[.string (BA p1), .int .i64 10, .int .i64 64] W fun e w' => ∃ x, e = .returned (.tuple #[.int .u64 (puV p1 : Nat), x]) ∧ Below W.heap.size W w') := fun W b => pu_any p1 (by have := spl_sub _ _ _ (List.mem_of_getElem? h1); omega) W (HE.out.kept b)
  have HP3 : Hid (∀ W, Below w.heap.size w W → Calls Tryd.prog 28 #[.string (BA p3)] W fun e w' => ∃ x, e = .returned (.tuple #[.int .i64 (atV p3), x]) ∧ Below W.heap.size W w') := fun W b => at_any p3 (by have := spl_sub _ _ _ (List.mem_of_getElem? h3); omega) W (HE.out.kept b)
  have HP5 : Hid (∀ W, Below w.heap.size w W → Calls Tryd.prog 28 #[.string (BA p5)] W fun e w' => ∃ x, e = .returned (.tuple #[.int .i64 (atV p5), x]) ∧ Below W.heap.size W w') := fun W b => at_any p5 (by have := spl_sub _ _ _ (List.mem_of_getElem? h5); omega) W (HE.out.kept b)
  have HTX : Hid (∀ W, Below w.heap.size w W → Calls Tryd.prog 12 #[.agg #[.int .u64 (puV p1 : Nat), .int .i64 (atV p3), .int .i64 (atV p5)]] W fun e w' => e = .returned (.string (tB (puV p1) (atV p3) (atV p5))) ∧ Below W.heap.size W w') := fun W b => text_any2 _ _ _ (puV_le p1) (atV_in p3) (atV_in p5) W (tab_kept HT.out b)
  unfold SpPost at HSP
  obtain ⟨L, hL⟩ : ∃ L, spl (min 6 s0.length) s0 = L := ⟨_, rfl⟩
  rw [hL] at HSP h6 h1 h3 h5
  rw [h6] at HSP
  obtain ⟨T, hT⟩ : ∃ T, tB (puV p1) (atV p3) (atV p5) = T := ⟨_, rfl⟩
  obtain ⟨S, hS⟩ : ∃ S, BA s0 = S := ⟨_, rfl⟩
  obtain ⟨v1, hv1⟩ : ∃ v, puV p1 = v := ⟨_, rfl⟩
  obtain ⟨v3, hv3⟩ : ∃ v, atV p3 = v := ⟨_, rfl⟩
  obtain ⟨v5, hv5⟩ : ∃ v, atV p5 = v := ⟨_, rfl⟩
  rw [hT, hS] at hb
  rw [hT] at HTX
  rw [hS] at HSP
  rw [hv1] at HP1 HTX
  rw [hv3] at HP3 HTX
  rw [hv5] at HP5 HTX
  rw [hS, hv1, hv3, hv5]
  have HH := Lib.hid (And.intro h1 (And.intro h3 h5))
  have HL := Lib.hid hL
  clear hb0 hl hn ht he hL hT hS hv1 hv3 hv5 h1 h3 h5 h6
  go_enter Tryd.func13, Tryd.ntmps13
  go_wp2_with fail
  refine HSP.out.mono ?_
  rintro e w1 ⟨g, rfl, hc, hb1⟩
  have HB1 := Lib.hid (HB0.out.trans (hb1.mono HB0.out.size))
  have HR1 := Lib.hid ((hb1.block _ (lt_of_block HR0.out)).trans HR0.out)
  have HC : Hid (∀ W, Below w1.heap.size w1 W → W.cell? ⟨g, 1, none⟩ = some (.string (BA p1)) ∧ W.cell? ⟨g, 3, none⟩ = some (.string (BA p3)) ∧ W.cell? ⟨g, 5, none⟩ = some (.string (BA p5))) := fun W b => by
    have e1 := hc 1 p1 HH.out.1
    have e3 := hc 3 p3 HH.out.2.1
    have e5 := hc 5 p5 HH.out.2.2
    exact ⟨(b.cell (Go.block_lt_of_cell e1)).trans e1, (b.cell (Go.block_lt_of_cell e3)).trans e3, (b.cell (Go.block_lt_of_cell e5)).trans e5⟩
  clear hc hb1 HSP
  obtain ⟨c1, c3, c5⟩ := HC.out w1 (Below.refl _ _)
  go_wp2_with fail
  refine (HP1.out _ HB1.out).mono ?_
  rintro e w2 ⟨x2, rfl, hb2⟩
  have HB2 := Lib.hid hb2
  clear c1 c3 c5 hb2
  obtain ⟨c1, c3, c5⟩ := HC.out w2 HB2.out
  go_wp2_with fail
  refine (HP3.out _ (HB1.out.trans (HB2.out.mono HB1.out.size))).mono ?_
  rintro e w3 ⟨x3, rfl, hb3⟩
  have HB3 := Lib.hid (HB2.out.trans (hb3.mono HB2.out.size))
  clear c1 c3 c5 hb3
  obtain ⟨c1, c3, c5⟩ := HC.out w3 HB3.out
  go_wp2_with fail
  refine (HP5.out _ (HB1.out.trans (HB3.out.mono HB1.out.size))).mono ?_
  rintro e w4 ⟨x4, rfl, hb4⟩
  have HB4 := Lib.hid (HB3.out.trans (hb4.mono HB3.out.size))
  have hb5 : Below w4.heap.size w4 (w4.alloc (.cells #[.int .u64 v1, .int .i64 v3, .int .i64 v5] 25)) := (Below.refl _ _).alloc (Nat.le_refl _) _
  have HB5 := Lib.hid (HB4.out.trans (hb5.mono HB4.out.size))
  have HX5 := Lib.hid (heap_alloc_new w4 (.cells #[.int .u64 v1, .int .i64 v3, .int .i64 v5] 25))
  obtain ⟨X, hX⟩ : ∃ X, w4.heap.size = X := ⟨_, rfl⟩
  obtain ⟨W5, hW5⟩ : ∃ W, w4.alloc (.cells #[.int .u64 v1, .int .i64 v3, .int .i64 v5] 25) = W := ⟨_, rfl⟩
  rw [hW5] at HB5 HX5
  rw [hX] at HX5
  have HWW := Lib.hid hW5
  have HXX := Lib.hid hX
  clear c1 c3 c5 hb4 hb5 hX hW5 HC HP1 HP3 HP5
  go_upto_region 7 with fail
  rw [HWW.out, HXX.out]
  clear HWW HXX
  go_wp2_with ((with_reducible show wpList _ _ _ _ _ _); refine wpList_load_row rfl 25 (.tmp 11) rfl X rfl 25 _ (0, 0) _ HX5.out Tryd.underlying25 rfl (by rw [size_st]; rfl) ?_)
  refine (HTX.out _ (HB1.out.trans (HB5.out.mono HB1.out.size))).mono ?_
  rintro e w6 ⟨rfl, hb6⟩
  have HB6 := Lib.hid (HB5.out.trans (hb6.mono HB5.out.size))
  have HX6 := Lib.hid ((hb6.block _ (lt_of_block HX5.out)).trans HX5.out)
  have HR6 := Lib.hid ((HB6.out.block _ (lt_of_block HR1.out)).trans HR1.out)
  have HBW := Lib.hid (HB1.out.trans (HB6.out.mono HB1.out.size))
  have HN6 := Lib.hid (HN.out.kept HBW.out)
  clear hb6 HTX
  cases b with
  | true =>
    go_wp2_with (first
      | ((with_reducible show wpList _ _ _ _ _ _); refine wpList_load_row rfl 25 (.tmp 11) rfl X rfl 25 _ (0, 0) _ HX6.out Tryd.underlying25 rfl (by rw [size_st]; rfl) ?_)
      | ((with_reducible show wpList _ _ _ _ _ _); refine wpList_store_row rfl 25 (.tmp 2) (.tmp 46) rfl w.heap.size #[.int .u64 v1, .int .i64 v3, .int .i64 v5] rfl rfl 25 #[.int .u64 0, .int .i64 0, .int .i64 0] HR6.out (by rw [size_st]; rfl) rfl (one_st _ _ _) ?_))
    refine bodyPost_ret (v := .tuple #[.agg #[.int .u64 v1, .int .i64 v3, .int .i64 v5], .nilIface]) (results_row_tmpS Tryd.results13 _ _ w.heap.size 25 _ (0, 0) _ rfl (setRow_heap _ _ _ _ _ _ HR6.out) Tryd.underlying25 rfl (by rw [size_st]; rfl)) rfl ⟨rfl, below_put HBW.out _⟩
  | false =>
    go_wp2_with (first
      | (go_at_call 18; refine (new_yes 6 (by omega) (by omega) _ HN6.out).mono ?_; rintro e w' ⟨rfl, rfl⟩)
      | ((with_reducible show wpList _ _ _ _ _ _); refine wpList_store_row rfl 25 (.tmp 2) (.tmp 47) rfl w.heap.size #[.int .u64 0, .int .i64 0, .int .i64 0] rfl rfl 25 #[.int .u64 0, .int .i64 0, .int .i64 0] HR6.out (by rw [size_st]; rfl) rfl (one_st _ _ _) ?_))
    refine bodyPost_ret (v := .tuple #[.agg #[.int .u64 0, .int .i64 0, .int .i64 0], .iface 70 (.int .i64 6)]) (results_row_tmpS Tryd.results13 _ _ w.heap.size 25 _ (0, 0) _ rfl (setRow_heap _ _ _ _ _ _ HR6.out) Tryd.underlying25 rfl (by rw [size_st]; rfl)) rfl ⟨rfl, below_put HBW.out _⟩
end Go.Proofs.YtkikghmigjkjiaaDoor.Sta
