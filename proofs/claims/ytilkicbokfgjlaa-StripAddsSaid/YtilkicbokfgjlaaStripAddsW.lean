
/- The function StripAdds returns true for every slice of rows and every four numbers. Condition: none. This text: the walk through the Go text; the row is in the text without the W at its name's end. -/

import Derived.Test.YtilkicbokfgjlaaArgs

import Derived.Test.YtilkicbokfgjlaaStpL

import Derived.Deep.RegionHeld3

namespace Go.Proofs.Ytilkicbokfgjlaa.stripAdds

open Go.RowKit Go.PlainAid Go.Proofs.Ytilkicbokfgjlaa.Args

set_option linter.unusedVariables false

open Go.Proofs.Ytilkicbokfgjlaa.Stp Go.Proofs.Ytilkicbokfgjlaa.Cel

set_option linter.unusedSimpArgs false

theorem rows_of {w : World} {a : Option Addr} {len cap : Nat} (h : IsRecs w a len cap [.int .i64, .int .i64]) : ∃ l : List RW, l.length = len ∧ RAt w a l ∧ (∀ x ∈ l, -9223372036854775808 ≤ x.c ∧ x.c ≤ 9223372036854775807) ∧ len ≤ maxLen := by
  rcases h with ⟨rfl, rfl, rfl⟩ | ⟨y, rfl, hlc, hcm, hcell⟩
  · exact ⟨[], rfl, fun i x hx => by simp at hx, by simp, by unfold maxLen; omega⟩
  · have H : ∀ n, n ≤ len → ∃ l : List RW, l.length = n ∧ (∀ i x, l[i]? = some x → w.cell? (y.add (i * 2)) = some (.int .i64 x.i) ∧ w.cell? ⟨(y.add (i * 2)).block, (y.add (i * 2)).off + 1, none⟩ = some (.int .i64 x.c) ∧ (-9223372036854775808 ≤ x.c ∧ x.c ≤ 9223372036854775807)) := by
      intro n
      induction n with
      | zero => intro _; exact ⟨[], rfl, fun i x hx => by simp at hx⟩
      | succ n ih =>
        intro hn
        obtain ⟨l, hl, hp⟩ := ih (by omega)
        obtain ⟨v0, e0, s, rfl, hs⟩ := hcell n (by omega) 0 _ rfl
        obtain ⟨v1, e1, t, rfl, ht⟩ := hcell n (by omega) 1 _ rfl
        refine ⟨l ++ [⟨s, t⟩], by simp [hl], fun i x hx => ?_⟩
        rcases Nat.lt_or_ge i l.length with hi | hi
        · rw [List.getElem?_append_left hi] at hx; exact hp i x hx
        · rw [List.getElem?_append_right hi] at hx
          have hi0 : i - l.length = 0 := by
            rcases Nat.eq_zero_or_pos (i - l.length) with h0 | h0
            · exact h0
            · rw [List.getElem?_eq_none (by simp; omega)] at hx; cases hx
          rw [hi0] at hx
          obtain rfl : (⟨s, t⟩ : RW) = x := by simpa using hx
          have hin : i = n := by omega
          subst hin
          exact ⟨e0, e1, bounds_i64 ht⟩
    obtain ⟨l, hl, hp⟩ := H len (Nat.le_refl _)
    refine ⟨l, hl, fun i x hx => ⟨y, rfl, (hp i x hx).1, (hp i x hx).2.1⟩, fun x hx => ?_, by omega⟩
    obtain ⟨i, hi, rfl⟩ := List.mem_iff_getElem.1 hx
    exact (hp i _ (List.getElem?_eq_getElem hi)).2.2
theorem own_nat {w : World} {B e n c : Nat} {A : Option Addr} {l : List Int} (h : w.ownsRow B e 1 (.slice A n c) n (iv l)) : NAt w A l := by
  intro i x hx
  have hil := (List.getElem?_eq_some_iff.1 hx).1
  have hn : n * 1 = l.length := by rw [← iv_len]; exact h.1.symm
  rcases h.2 with ⟨h0, h1⟩ | ⟨g, cap, cur, h0, _⟩
  · omega
  · injection h0 with h1 h2 h3
    subst h1
    refine ⟨_, rfl, ?_⟩
    have e : (Addr.mk g 0 none).add i = ⟨g, i, none⟩ := by cases i <;> simp [Addr.add]
    rw [e, h.cellAt i (by omega)]
    simp [iv, hx]
def addsX (l : List RW) : List RW := l.foldl (fun X r => addX X r.i r.c) []
theorem adds_snoc (l : List RW) (r : RW) : addsX (l ++ [r]) = addX (addsX l) r.i r.c := by simp [addsX]
theorem adds_ok (l : List RW) : OkX (addsX l) := snoc_ind (P := fun l => OkX (addsX l)) ok_nil (fun l x ih => by rw [adds_snoc]; exact ih.add _ _) l
theorem part_ok2 (f t : Int) : ∀ (l : List RW) (s : Int) (Y : List RW), OkX Y → OkX (partF f t s l Y)
  | [], s, Y, h => h
  | x :: l, s, Y, h => by
    rw [partF]
    split
    · exact part_ok2 f t l _ _ (h.add _ _)
    · exact part_ok2 f t l _ _ h
theorem part_ok {X : List RW} (h : OkX X) (f t : Int) : OkX (partF f t 0 X []) := part_ok2 f t X 0 [] ok_nil
def AdRel (l : List RW) (w : World) (i x : Value) (wr : World) : Prop :=
  ∃ (k n : Nat) (A : Option Addr) (c : Nat), k ≤ l.length ∧ i = .int .i64 (k : Int) ∧ x = .slice A n c ∧ (addsX (l.take k)).length = n ∧ RX wr A (addsX (l.take k)) ∧ (A = none → c = 0) ∧ IsSt wr w.heap.size w.heap.size (addsX (l.take k)) ∧ Below w.heap.size w wr
set_option maxRecDepth 8000 in
set_option maxHeartbeats 6400000 in
theorem walk (a0 : Option Addr) (len0 cap0 : Nat) (a1 : Int) (a2 : Int) (a3 : Int) (a4 : Int) (w : World) (w0 : IsRecs w a0 len0 cap0 [.int .i64, .int .i64]) (w1 : (Lit.int .i64 a1).wf = true) (w2 : (Lit.int .i64 a2).wf = true) (w3 : (Lit.int .i64 a3).wf = true) (w4 : (Lit.int .i64 a4).wf = true) :
    Calls Try.prog 3 #[.slice a0 len0 cap0, .int .i64 a1, .int .i64 a2, .int .i64 a3, .int .i64 a4] w fun e w' => e = .returned (.bool true) ∧ Below w.heap.size w w' := by
  obtain ⟨l, hll, hrat, hwide, hm⟩ := rows_of w0
  have hb1 := bounds_i64 w1
  have hb2 := bounds_i64 w2
  have hb3 := bounds_i64 w3
  by_cases hbig : 60 < len0
  · have t1 : decide ((60 : Int) < (len0 : Int)) = true := decide_eq_true (by omega)
    clear w0 w1 w2 w3 w4 hll hrat hwide hm hbig hb1 hb2 hb3
    go_enter Try.func3, Try.ntmps3
    go_wp2_with (go_at_call 4; refine (awake27 _).mono ?_; rintro e w9 ⟨rfl, hb9⟩)
    go_ret
    exact ⟨rfl, hb9⟩
  have t1 : decide ((60 : Int) < (len0 : Int)) = false := decide_eq_false (by omega)
  have HN := Lib.hid (new_any w)
  have HLL := Lib.hid hll
  have HRAT := Lib.hid hrat
  have HWD := Lib.hid hwide
  have HL60 : Hid (len0 ≤ 60) := by show _ ≤ _; omega
  have H1 : Hid (-9223372036854775808 ≤ a1 ∧ a1 ≤ 9223372036854775807) := hb1
  have H2 : Hid (-9223372036854775808 ≤ a2 ∧ a2 ≤ 9223372036854775807) := hb2
  have H3 : Hid (-9223372036854775808 ≤ a3 ∧ a3 ≤ 9223372036854775807) := hb3
  clear w0 w1 w2 w3 w4 hll hrat hwide hm hbig hb1 hb2 hb3
  go_enter Try.func3, Try.ntmps3
  go_wp2_with (go_at_call 5; refine HN.out.mono ?_; rintro e wn ⟨rfl, hs, hz, hb⟩; have HS := Lib.hid hs; have HB := Lib.hid hb; clear hs hz hb)
  go_loopw [40, 12] (fun i x wr => AdRel l w i x wr) (fun i _ _ => len0 - (intOf i).toNat)
  case atStart => exact ⟨0, 0, none, 0, Nat.zero_le _, rfl, rfl, rfl, RX.nil _, fun _ => rfl, HS.out, HB.out⟩
  case round =>
    obtain ⟨k, n, A, c, hk, rfl, rfl, hn, hrx, hnc, hst, hb⟩ := hrel
    rw [HLL.out] at hk
    have HRX := Lib.hid hrx
    have HST := Lib.hid hst
    have HBR := Lib.hid hb
    have HNN := Lib.hid hn
    have HNC : Hid (A = none → c = 0) := hnc
    clear hn hrx hnc hst hb HS HB
    by_cases hlt : k < len0
    · obtain ⟨x, hx⟩ : ∃ x, l[k]? = some x := ⟨_, List.getElem?_eq_getElem (by rw [HLL.out]; exact hlt)⟩
      obtain ⟨ax, rfl, c1, c2⟩ := (HRAT.out.kept HBR.out) k x hx
      have HXW := Lib.hid (HWD.out x (List.mem_of_getElem? hx))
      have HTK : Hid (addsX (l.take (k + 1)) = addX (addsX (l.take k)) x.i x.c) := by show _ = _; rw [take_snoc hx]; exact adds_snoc _ _
      have hbx := below_al wr (.cells #[.int .i64 x.i, .int .i64 x.c] 28)
      have HBX := Lib.hid (HBR.out.trans (hbx.mono HBR.out.size))
      have HXX := Lib.hid (heap_alloc_new wr (.cells #[.int .i64 x.i, .int .i64 x.c] 28))
      have HRA := Lib.hid (radd_any (HRX.out.keep hbx) (adds_ok _) HNC.out x.i x.c n HNN.out)
      have HSX := Lib.hid (HST.out.keep hbx)
      obtain ⟨XX, hXX⟩ : ∃ X, addsX (l.take k) = X := ⟨_, rfl⟩
      have HOX := Lib.hid (adds_ok (l.take k))
      rw [hXX] at HTK HRA HSX HOX
      have h0 : (0 : Int) ≤ k := by omega
      have h1 : (k : Int) < len0 := by omega
      have hk1 : IntKind.i64.wrap ((k : Int) + 1) = (k : Int) + 1 := IntWalk.i64_in _ (by have := HL60.out; omega)
      have HKL : Hid (k < len0) := hlt
      obtain ⟨xi, xc⟩ := x
      dsimp only at c1 c2 HXW HTK HBX HXX HRA HSX
      obtain ⟨bo, hbo⟩ : ∃ b, okX XX xc = b := ⟨_, rfl⟩
      have tb : (bo != bo) = false := by simp
      have HBO := Lib.hid hbo
      clear hx hbx hXX hk hlt hbo HRX HST
      go_wp2_with (first | (go_at_call 6; refine HRA.out.mono ?_; rintro e W2 ⟨A5, n5, c5, rfl, hn5, hx5, hb5, hnc5⟩; rw [HBO.out]; have HN5 := Lib.hid hn5; have HX5 := Lib.hid hx5; have HB5 := Lib.hid (HBX.out.trans (hb5.mono HBX.out.size)); have HC5 : Hid (A5 = none → c5 = 0) := hnc5; have HS5 := Lib.hid (HSX.out.keep hb5); have hbox := (hb5.block _ (lt_of_block HXX.out)).trans HXX.out; have e0 := cell_of_row _ _ 0 _ _ _ hbox; have e1 := cell_of_row _ _ 1 _ _ _ hbox; simp only [List.getElem?_toArray, List.getElem?_cons_zero, List.getElem?_cons_succ] at e0 e1; have HAD := Lib.hid (add_any HS5.out HOX.out xi xc HXW.out); clear hn5 hx5 hb5 hnc5 hbox) | (go_at_call 7; refine HAD.out.mono ?_; rintro e W3 ⟨rfl, hs7, hc7⟩; rw [HBO.out]; have HS7 := Lib.hid hs7; have HX7 := Lib.hid (HX5.out.chg hc7); have HB7 := Lib.hid (hc7.below HB5.out HB5.out.size); clear hs7 hc7))
      go_roundw
      case rel => exact ⟨k + 1, n5, A5, c5, by rw [HLL.out]; exact HKL.out, by go_num, rfl, by rw [HTK.out]; exact HN5.out, by rw [HTK.out]; exact HX7.out, HC5.out, by rw [HTK.out]; exact HS7.out, HB7.out⟩
      case measure => have := HKL.out; simp [intOf]; omega
    · obtain rfl : k = len0 := by omega
      have hf : l.take k = l := List.take_of_length_le (by rw [HLL.out]; exact Nat.le_refl _)
      rw [hf] at HRX HST HNN
      have HOX := Lib.hid (adds_ok l)
      obtain ⟨X, hX⟩ : ∃ X, addsX l = X := ⟨_, rfl⟩
      rw [hX] at HRX HST HNN HOX
      clear hf hX hk hlt HRAT HWD
      obtain ⟨W1, rfl⟩ : ∃ W1, W1 = wr := ⟨_, rfl⟩
      have HRK : Hid (∀ W, Below W1.heap.size W1 W → RX W A X) := fun W b => HRX.out.keep b
      have HSK : Hid (∀ W, Below W1.heap.size W1 W → IsSt W w.heap.size w.heap.size X) := fun W b => HST.out.keep b
      have HNL : Hid (n ≤ 1073741824) := by rw [← HNN.out]; exact HOX.out.len
      go_wp2
      go_loopw [65, 17] (fun i v wr => CtRel X a4 W1 i v wr) (fun i _ _ => n - (intOf i).toNat)
      case atStart => exact ⟨0, Nat.zero_le _, rfl, rfl, Below.refl _ _⟩
      case round =>
        obtain ⟨k, hk, rfl, rfl, hb⟩ := hrel
        rw [HNN.out] at hk
        have HBC := Lib.hid hb
        clear hb
        by_cases hlt : k < n
        · obtain ⟨x, hx⟩ : ∃ x, X[k]? = some x := ⟨_, List.getElem?_eq_getElem (by rw [HNN.out]; exact hlt)⟩
          obtain ⟨ax, rfl, c1, c2⟩ := (HRK.out _ HBC.out).rat k x hx
          have hct := cnt_snoc a4 (X.take k) x
          rw [← take_snoc hx] at hct
          have hle := cnt_le a4 (X.take (k + 1)) fun y hy => HOX.out.pos y (List.mem_of_mem_take hy)
          have hsm := sum_take_le HOX.out.pos (k + 1)
          have hsu := HOX.out.sum
          have HKL : Hid (k < n) := hlt
          have h0 : (0 : Int) ≤ k := by omega
          have h1 : (k : Int) < n := by omega
          have hk1 : IntKind.i64.wrap ((k : Int) + 1) = (k : Int) + 1 := IntWalk.i64_in _ (by have := HNL.out; omega)
          have HB5 := Lib.hid (HBC.out.trans ((below_al wr (.cells #[.int .i64 x.i, .int .i64 x.c] 32)).mono HBC.out.size))
          obtain ⟨cv, hcv⟩ : ∃ v, cntX a4 (X.take k) = v := ⟨_, rfl⟩
          rw [hcv] at hct ⊢
          by_cases hq : x.i = a4
          · rw [if_pos hq] at hct
            have tb : (x.i == a4) = true := by simp [hq]
            have hwc : IntKind.i64.wrap (cv + x.c) = cntX a4 (X.take (k + 1)) := by rw [hct]; exact IntWalk.i64_in _ (by omega)
            clear hx hct hle hsm hsu hlt hk hq hcv
            go_wp2
            go_roundw
            case rel => exact ⟨k + 1, by rw [HNN.out]; exact HKL.out, by go_num, by first | rfl | (rw [hwc]), HB5.out⟩
            case measure => have := HKL.out; simp [intOf]; omega
          · rw [if_neg hq] at hct
            have tb : (x.i == a4) = false := by simp [hq]
            have hwc : cv = cntX a4 (X.take (k + 1)) := by omega
            have HWC := Lib.hid hwc
            clear hx hct hle hsm hsu hlt hk hq hcv hwc
            go_wp2
            go_roundw
            case rel => exact ⟨k + 1, by rw [HNN.out]; exact HKL.out, by go_num, by rw [HWC.out], HB5.out⟩
            case measure => have := HKL.out; simp [intOf]; omega
        · obtain rfl : k = n := by omega
          have hf : X.take k = X := List.take_of_length_le (by rw [HNN.out]; exact Nat.le_refl _)
          rw [hf]
          clear hf hk hlt HRX HST
          have HCN : Hid (∀ W, Below W1.heap.size W1 W → Calls Try.prog 14 #[.pointer (some ⟨w.heap.size, 0, none⟩), .int .i64 a4] W fun e w' => e = .returned (.int .i64 (cntX a4 X)) ∧ Below W.heap.size W w') := fun W b => count_any (HSK.out W b) HOX.out a4
          have HAT : Hid (∀ W, Below W1.heap.size W1 W → Calls Try.prog 8 #[.pointer (some ⟨w.heap.size, 0, none⟩), .int .i64 a1] W fun e w' => e = .returned (.tuple #[.int .i64 ((atX X a1).getD (-1)), .bool (atX X a1).isSome]) ∧ Below W.heap.size W w') := fun W b => at_any (HSK.out W b) HOX.out a1
          have HRT : Hid (∀ W, Below W1.heap.size W1 W → Calls Try.prog 9 #[.slice A k c, .int .i64 a1] W fun e w' => e = .returned (.tuple #[.int .i64 ((atX X a1).getD (-1)), .bool (atX X a1).isSome]) ∧ w' = W) := fun W b => rat_any (HRK.out W b) HOX.out k HNN.out a1 H1.out
          have HPA : Hid (∀ W, Below W1.heap.size W1 W → Calls Try.prog 10 #[.pointer (some ⟨w.heap.size, 0, none⟩), .int .i64 a2, .int .i64 a3] W (OfPost W (partF a2 a3 0 X []))) := fun W b => part_any (HSK.out W b) HOX.out a2 a3 H2.out H3.out
          have HRP : Hid (∀ W, Below W1.heap.size W1 W → Calls Try.prog 13 #[.slice A k c, .int .i64 a2, .int .i64 a3] W (RPartPost W (partF a2 a3 0 X []))) := fun W b => rpart_any (HRK.out W b) HOX.out k HNN.out a2 a3 H2.out H3.out
          have HLN : Hid (∀ W, Below W1.heap.size W1 W → Calls Try.prog 15 #[.pointer (some ⟨w.heap.size, 0, none⟩)] W fun e w' => e = .returned (.int .i64 (sumR X)) ∧ ∃ n, w' = W.drewN n) := fun W b => by
            obtain ⟨A', c', h⟩ := HSK.out W b
            exact len_any W _ _ A' c' X h HOX.out
          have HRL : Hid (∀ W, Below W1.heap.size W1 W → Calls Try.prog 16 #[.slice A k c] W fun e w' => e = .returned (.int .i64 (sumR X)) ∧ w' = W) := fun W b => rlen_any (HRK.out W b) HOX.out k HNN.out
          have HRO : Hid (∀ W, Below W1.heap.size W1 W → Calls Try.prog 12 #[.pointer (some ⟨w.heap.size, 0, none⟩)] W (RowsPost W X)) := fun W b => rows_any (HSK.out W b) HOX.out
          have HPO := Lib.hid (part_ok HOX.out a2 a3)
          obtain ⟨av, hav⟩ : ∃ v, (atX X a1).getD (-1) = v := ⟨_, rfl⟩
          obtain ⟨ab, hab⟩ : ∃ v, (atX X a1).isSome = v := ⟨_, rfl⟩
          rw [hav, hab] at HAT HRT
          obtain ⟨cv, hcv⟩ : ∃ v, cntX a4 X = v := ⟨_, rfl⟩
          rw [hcv] at HCN ⊢
          obtain ⟨PX, hPX⟩ : ∃ P, partF a2 a3 0 X [] = P := ⟨_, rfl⟩
          rw [hPX] at HPA HRP HPO
          obtain ⟨sv, hsv⟩ : ∃ v, sumR X = v := ⟨_, rfl⟩
          rw [hsv] at HLN HRL
          have HSV := Lib.hid hsv
          obtain ⟨PN, hPN⟩ : ∃ N, PX.length = N := ⟨_, rfl⟩
          have HPN := Lib.hid hPN
          have HPL : Hid (PN ≤ 1073741824) := by rw [← hPN]; exact HPO.out.len
          clear hPN
          have e1 : (av != av) = false := by simp
          have e2 : (ab != ab) = false := by simp
          have e3 : (cv != cv) = false := by simp
          have e4 : (sv != sv) = false := by simp
          obtain ⟨w2, rfl⟩ : ∃ w2, w2 = wr := ⟨_, rfl⟩
          clear hav hab hcv hPX hsv
          go_upto_region 27 with (first
            | (go_at_call 8; refine (HAT.out _ HBC.out).mono ?_; rintro e w3 ⟨rfl, hb3⟩; have HB3 := Lib.hid (HBC.out.trans (hb3.mono HBC.out.size)); clear hb3 HAT)
            | (go_at_call 9; refine (HRT.out _ HB3.out).mono ?_; rintro e w4 ⟨rfl, hw4⟩; have hw5 := hw4.symm; clear hw4; subst hw5; clear HRT)
            | (go_at_call 10; refine (HPA.out _ HB3.out).mono ?_; rintro e w5 ⟨rfl, hs5, hz5, hb5⟩; have HS5 := Lib.hid hs5; have HB5 := Lib.hid (HB3.out.trans (hb5.mono HB3.out.size)); clear hs5 hz5 hb5 HPA)
            | (go_at_call 12; refine (rows_any HS5.out HPO.out).mono ?_; rintro e w6 ⟨A6, c6, rfl, how6, hb6⟩; rw [HPN.out]; have HA6 := Lib.hid (own_rat how6); have HB6 := Lib.hid (HB5.out.trans (hb6.mono HB5.out.size)); clear how6 hb6 HS5)
            | (go_at_call 13; refine (HRP.out _ HB6.out).mono ?_; rintro e w7 ⟨A7, N7, c7, rfl, hn7, hx7, hb7⟩; obtain rfl : PN = N7 := HPN.out.symm.trans hn7; have HX7 := Lib.hid hx7.rat; have HA7 := Lib.hid (HA6.out.kept hb7); have HB7 := Lib.hid (HB6.out.trans (hb7.mono HB6.out.size)); clear hn7 hx7 hb7 HRP HA6)
            | (go_at_call 11; refine (lsame_any A6 A7 c6 c7 PN PX _ HA7.out HX7.out HPN.out HPL.out).mono ?_; rintro e w8 ⟨rfl, hb8⟩; have HB8 := Lib.hid (HB7.out.trans (hb8.mono HB7.out.size)); clear hb8 HX7 HA7)
            | (go_at_call 14; refine (HCN.out _ HB8.out).mono ?_; rintro e w9 ⟨rfl, hb9⟩; have HB9 := Lib.hid (HB8.out.trans (hb9.mono HB8.out.size)); clear hb9 HCN)
            | (go_at_call 15; refine (HLN.out _ HB9.out).mono ?_; rintro e w10 ⟨rfl, q, rfl⟩; have HB10 := Lib.hid (HB9.out.trans ((below_n w9 q).mono HB9.out.size)); obtain ⟨w11, hw11⟩ : ∃ W, w9.drewN q = W := ⟨_, rfl⟩; rw [hw11] at HB10; rw [hw11]; clear hw11 HLN)
            | (go_at_call 16; refine (HRL.out _ HB10.out).mono ?_; rintro e w4 ⟨rfl, hw4⟩; have hw5 := hw4.symm; clear hw4; subst hw5)
            | (go_at_call 12; refine (HRO.out _ HB10.out).mono ?_; rintro e w12 ⟨A12, c12, rfl, how12, hb12⟩; rw [HNN.out]; have HA12 := Lib.hid (own_rat how12); have HB12 := Lib.hid (HB10.out.trans (hb12.mono HB10.out.size)); clear how12 hb12 HRO)
            | (go_at_call 11; refine (lsame_any A12 A c12 c k X _ HA12.out (HRK.out _ HB12.out).rat HNN.out HNL.out).mono ?_; rintro e w13 ⟨rfl, hb13⟩; have HB13 := Lib.hid (HB12.out.trans (hb13.mono HB12.out.size)); clear hb13 HA12))
          have HBE := Lib.hid (HBR.out.trans (HB13.out.mono HBR.out.size))
          by_cases hbig : 3000 < sv
          · have t3 : decide ((3000 : Int) < sv) = true := decide_eq_true hbig
            clear hbig HRK HSK
            go_wp2_with (first
              | (go_at_call 16; refine (HRL.out _ HB13.out).mono ?_; rintro e w4 ⟨rfl, hw4⟩; have hw5 := hw4.symm; clear hw4; subst hw5)
              | (go_at_call 4; refine (awake27 _).mono ?_; rintro e w9 ⟨rfl, hb9⟩; have HBZ := Lib.hid (HBE.out.trans (hb9.mono HBE.out.size)); clear hb9))
            go_ret
            exact ⟨rfl, HBZ.out⟩
          · have t3 : decide ((3000 : Int) < sv) = false := decide_eq_false hbig
            have hs0 := HOX.out.sum0
            rw [HSV.out] at hs0
            obtain ⟨sn, rfl⟩ : ∃ m : Nat, sv = (m : Int) := ⟨sv.toNat, by omega⟩
            have HSN : Hid (sn ≤ 3000) := by show _ ≤ _; omega
            have HWO := Lib.hid (word_any (HSK.out _ HB13.out) HOX.out sn HSV.out (by omega))
            have e6 : ((sn : Int) != (sn : Int)) = false := by simp
            have HXK := Lib.hid (HRK.out _ HB13.out)
            have HWL : Hid ((wordX X).length = sn) := by
              have h := word_len HOX.out.pos
              rw [HSV.out] at h
              show _ = _
              omega
            clear hbig hs0
            go_wp2_with (first
              | (go_at_call 16; refine (HRL.out _ HB13.out).mono ?_; rintro e w4 ⟨rfl, hw4⟩; have hw5 := hw4.symm; clear hw4; subst hw5)
              | (go_at_call 17; refine HWO.out.mono ?_; rintro e w14 ⟨A14, c14, rfl, how14, hb14⟩; have HW14 := Lib.hid how14; have HB14 := Lib.hid (HB13.out.trans (hb14.mono HB13.out.size)); have HRL2 := Lib.hid (HRL.out _ HB14.out); clear how14 hb14 HWO HB13)
              | (go_at_call 16; refine HRL2.out.mono ?_; rintro e w4 ⟨rfl, hw4⟩; have hw5 := hw4.symm; clear hw4; subst hw5))
            have HNA := Lib.hid (own_nat HW14.out)
            have HX14 := Lib.hid (HRK.out _ HB14.out)
            have HOF := Lib.hid (of_any A14 c14 sn (wordX X) w14 HNA.out HWL.out (by have := HSN.out; omega))
            rw [word_of X HOX.out] at HOF
            go_loop [150] (fun i => ∃ j : Nat, j ≤ sn ∧ i = .int .i64 (j : Int)) (fun i => sn - (intOf i).toNat)
            case atStart => exact ⟨0, Nat.zero_le _, rfl⟩
            case round =>
              obtain ⟨j, hj, rfl⟩ := hrel
              by_cases hlt : j < sn
              · obtain ⟨x, hx⟩ : ∃ x, (wordX X)[j]? = some x := ⟨_, List.getElem?_eq_getElem (by rw [HWL.out]; exact hlt)⟩
                obtain ⟨ay, rfl, c1⟩ := HNA.out j x hx
                have hat : atX X (j : Int) = some x := by unfold atX; rw [if_pos (by omega), ← word_get HOX.out.pos]; exact hx
                have hra := rat_any (c := c) HX14.out HOX.out k HNN.out (j : Int) (by have := HSN.out; omega)
                rw [hat] at hra
                have HRA : Hid (Calls Try.prog 9 #[.slice A k c, .int .i64 (j : Int)] w14 fun e w' => e = .returned (.tuple #[.int .i64 x, .bool true]) ∧ w' = w14) := hra
                have h0 : (0 : Int) ≤ j := by omega
                have h1 : (j : Int) < sn := by omega
                have hk1 : IntKind.i64.wrap ((j : Int) + 1) = (j : Int) + 1 := IntWalk.i64_in _ (by have := HSN.out; omega)
                have e7 : (x != x) = false := by simp
                have HJL : Hid (j < sn) := hlt
                clear hx hat hra hlt hj
                go_wp2_with (go_at_call 9; refine HRA.out.mono ?_; rintro e w4 ⟨rfl, hw4⟩; have hw5 := hw4.symm; clear hw4; subst hw5)
                go_round
                case rel => exact ⟨j + 1, HJL.out, by go_num⟩
                case measure => have := HJL.out; simp [intOf]; omega
              · obtain rfl : j = sn := by omega
                have HSM := Lib.hid (fun (w15 : World) (g : Nat) (B : Nat) (h : IsSt w15 B g X) (b : Below W1.heap.size W1 w15) => same_any h (HSK.out w15 b) HOX.out HOX.out)
                have hdx : decide (X = X) = true := decide_eq_true rfl
                rw [hdx] at HSM
                clear hdx hj hlt HRK
                go_wp2_with (first
                  | (go_at_call 18; refine HOF.out.mono ?_; rintro e w15 ⟨rfl, hs15, hz15, hb15⟩; have HB15 := Lib.hid (HB14.out.trans (hb15.mono HB14.out.size)); have HS15 := Lib.hid (HSM.out _ _ _ hs15 HB15.out); clear hs15 hz15 hb15)
                  | (go_at_call 19; refine HS15.out.mono ?_; rintro e w16 ⟨rfl, q, rfl⟩; have HB16 := Lib.hid (HBR.out.trans ((HB15.out.trans ((below_n w15 q).mono HB15.out.size)).mono HBR.out.size)); obtain ⟨w17, hw17⟩ : ∃ W, w15.drewN q = W := ⟨_, rfl⟩; rw [hw17] at HB16; rw [hw17]; clear hw17)
                  | (go_at_call 4; refine (awake27 _).mono ?_; rintro e w9 ⟨rfl, hb9⟩; have HBZ := Lib.hid (HB16.out.trans (hb9.mono HB16.out.size)); clear hb9))
                go_ret
                exact ⟨rfl, HBZ.out⟩

end Go.Proofs.Ytilkicbokfgjlaa.stripAdds
