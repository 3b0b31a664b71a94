
/- Needs: the word of a schedule whose numbers may be; whether a schedule may be asked about; the least of all periods (need.Least). Conditions: 1 to 1,048,576 ticks, at most 400 windows. -/

import Derived.Test.YteefmdelacihfaaNeeB

import Derived.Test.YteefmdelacihfaaNeeF

import Derived.Test.YteefmdelacihfaaWinO

import Derived.Test.YteefmdelacihfaaWinX

import Derived.Test.YteefmdelacihfaaWinAC

namespace Go.Proofs.Yteefmdelacihfaa.Nee

open Go.RowKit Go.PlainAid Go.Proofs.Yteefmdelacihfaa.Oct Go.Proofs.Yteefmdelacihfaa.Flt Go.Proofs.Yteefmdelacihfaa.Rdr Go.Proofs.Yteefmdelacihfaa.Args Go.Proofs.Yteefmdelacihfaa.Win

open Go.Proofs.Yteefmdelacihfaa.Act (A3 ActsAt I64 Wide)

open Go.Proofs.Yteefmdelacihfaa.Scd (SC scC rgS rgS_in rowB sright09_any)

set_option linter.unusedVariables false

set_option linter.unusedSimpArgs false

theorem rowsL_small2 {cs : List Int} {fr : Int} {l L : List A3} {m : Nat} (h : Cuts cs fr) (hm : cs.length = m + 1) (hL : rowsL fr l cs m = L) : ∀ x ∈ L, x.a ≤ fr := by
  intro x hx
  rw [← hL] at hx
  unfold rowsL at hx
  obtain ⟨q, hq, rfl⟩ := List.mem_map.1 hx
  have hqm : q < m := List.mem_range.1 hq
  have h1 := cut_in h hm (show q ≤ m by omega)
  have h2 := cut_in h hm (show q + 1 ≤ m by omega)
  show cut cs (q + 1) - cut cs q ≤ fr
  omega
theorem word_take_len2 (L : List A3) (k : Nat) : (wordL (L.take k)).length ≤ (wordL L).length := by
  have e : wordL L = wordL (L.take k) ++ wordL (L.drop k) := by
    unfold wordL
    rw [← List.flatMap_append, List.take_append_drop]
  rw [e, List.length_append]
  omega
/-- window.Word of a schedule: whose each tick is. -/
theorem word_at (id : Int) (fn : Nat) (P C : Option Addr) (l : List A3) (pc nn cc : Nat) (w : World) (hacts : ActsAt w P l) (hnum : ∀ x ∈ l, Num x) (hf : 1 ≤ fn ∧ fn ≤ 1048576) (hl : l.length ≤ 400) :
    WordAt #[.int .i64 id, .int .i64 (fn : Int), .slice P l.length pc, .slice C nn cc] (ticksL (ownT (fn : Int) l) 0 fn) fn w := fun W b => by
  have hcs := cutsOf_cuts (fn : Int) l (by omega) hnum
  have hc2 := cutsOf_two (fn : Int) l (by omega) hnum
  obtain ⟨m, hm⟩ : ∃ m, (cutsOf (fn : Int) l).length = m + 1 := ⟨(cutsOf (fn : Int) l).length - 1, by omega⟩
  have hmm : m ≤ 1000 := by have := cutsOf_le (fn : Int) l; omega
  have hmf : ∀ x ∈ l, fW (fn : Int) x ∈ cutsOf fn l := fun x hx => (cutsOf_mem _ _ _).2 (.inr (.inr ⟨x, hx, .inl rfl⟩))
  have hmt : ∀ x ∈ l, tW (fn : Int) x ∈ cutsOf fn l := fun x hx => (cutsOf_mem _ _ _).2 (.inr (.inr ⟨x, hx, .inr rfl⟩))
  obtain ⟨L, hL⟩ : ∃ L, rowsL (fn : Int) l (cutsOf fn l) m = L := ⟨_, rfl⟩
  have hwl : (ticksL (ownT (fn : Int) l) 0 fn).length = fn := ticks_len _ _ _
  have hw : wordL L = ticksL (ownT (fn : Int) l) 0 fn := by
    have h := rows_word hcs hm hmf hmt
    rw [show ((fn : Int)).toNat = fn from rfl, hL] at h
    exact h
  have hpos : ∀ x ∈ L, 0 < x.a := by rw [← hL]; exact rows_pos hcs hm
  have hLn := rowsL_small2 hcs hm hL
  have hLw := word_take_len2 L
  have h := word_any id fn P pc l C nn cc W (hacts.kept b) hnum hf hl m hm L hL (fun x hx => ⟨by have := hpos x hx; omega, by have := hLn x hx; omega⟩) (fun k => by have := hLw k; rw [hw, hwl] at this; omega) (by omega) hmm
  rw [hw, hwl] at h
  exact h
theorem num_of {x : A3} (h : rowB x = true) : Num x ∧ 0 ≤ x.s := by
  unfold rowB Go.Proofs.Yteefmdelacihfaa.Scd.tkB Go.Proofs.Yteefmdelacihfaa.Act.idB at h
  simp at h
  unfold Num
  omega
/-- May a schedule not be asked about? -/
def lgB (x : SC) : Bool := decide (rgS x ≠ 0) || decide (200 < x.fr) || decide (30 < x.ws.length)
set_option maxRecDepth 4000 in
set_option maxHeartbeats 1600000 in
theorem large_any (x : SC) (P : Option Addr) (pc : Nat) (C : Option Addr) (cc : Nat) (w : World) (hacts : ActsAt w P x.ws) (hns : ActsAt w C x.ns) (hl1 : x.ws.length ≤ maxLen) (hl2 : x.ns.length ≤ maxLen) :
    Calls Try.prog 5 #[.agg (scC x P pc C cc)] w fun e w' => e = .returned (.bool (lgB x)) ∧ Below w.heap.size w w' := by
  have hb0 : Below w.heap.size w (w.alloc (.cells (scC x P pc C cc) 25)) := (Below.refl _ _).alloc (Nat.le_refl _) _
  have hx0 := heap_alloc_new w (.cells (scC x P pc C cc) 25)
  have HRT := Lib.hid (sright09_any x P pc C cc _ (hacts.kept hb0) (hns.kept hb0) hl1 hl2)
  unfold lgB
  obtain ⟨rg, hrg⟩ : ∃ r, rgS x = r := ⟨_, rfl⟩
  rw [hrg] at HRT ⊢
  obtain ⟨id, fr, l, ns⟩ := x
  unfold scC at HRT hb0 hx0 ⊢
  dsimp only at HRT hb0 hx0 ⊢
  obtain ⟨nl, hnl⟩ : ∃ n, l.length = n := ⟨_, rfl⟩
  obtain ⟨nn, hnn⟩ : ∃ n, ns.length = n := ⟨_, rfl⟩
  rw [hnl] at HRT hb0 hx0 ⊢
  rw [hnn] at HRT hb0 hx0 ⊢
  have HB0 := Lib.hid hb0
  have HX0 := Lib.hid hx0
  clear hacts hns hl1 hl2 hrg hnl hnn hb0 hx0
  go_enter Try.func5, Try.ntmps5
  go_wp2_with fail
  refine HRT.out.mono ?_
  rintro e w2 ⟨rfl, hb2⟩
  have HB2 := Lib.hid (HB0.out.trans (hb2.mono HB0.out.size))
  have HX2 := (hb2.block _ (lt_of_block HX0.out)).trans HX0.out
  have c1 : w2.cell? ⟨w.heap.size, 1, none⟩ = some (.int .i64 fr) := by rw [cell_of_row _ _ _ _ _ _ HX2]; rfl
  have c2 : w2.cell? ⟨w.heap.size, 2, none⟩ = some (.slice P nl pc) := by rw [cell_of_row _ _ _ _ _ _ HX2]; rfl
  clear hb2 HRT HB0 HX0 HX2
  by_cases hrg : rg = 0
  · subst hrg
    by_cases h200 : 200 < fr
    · have t1 : decide ((200 : Int) < fr) = true := decide_eq_true h200
      clear h200
      go_wp2
      go_ret
      exact ⟨by have := of_decide_eq_true t1; simp [this], HB2.out⟩
    · have t1 : decide ((200 : Int) < fr) = false := decide_eq_false h200
      clear h200
      go_wp2
      go_ret
      exact ⟨by have := of_decide_eq_false t1; have e : decide ((30 : Int) < (nl : Int)) = decide (30 < nl) := decide_eq_decide.2 (by omega); simp [this, e], HB2.out⟩
  · have t0 : ((rg : Int) != 0) = true := by simp; omega
    have HD : Hid (decide (rg ≠ 0) = true) := decide_eq_true hrg
    clear hrg
    go_wp2
    go_ret
    exact ⟨by rw [HD.out]; simp, HB2.out⟩
theorem divB_true {q : Int} {n : Nat} (h : divB q n = true) : 1 ≤ q ∧ n / q.toNat * q.toNat = n := by
  unfold divB at h
  simp only [Bool.and_eq_true, decide_eq_true_eq, beq_iff_eq] at h
  obtain ⟨h1, h2⟩ := h
  refine ⟨h1, ?_⟩
  obtain ⟨p, rfl⟩ : ∃ p : Nat, q = (p : Int) := ⟨q.toNat, by omega⟩
  rw [Int.toNat_natCast]
  have h3 : n % p = 0 := by
    rw [← Int.natCast_emod] at h2
    exact_mod_cast h2
  exact Nat.div_mul_cancel (Nat.dvd_of_mod_eq_zero h3)
/-- What need.Least tells. -/
def lsV (z q : Int) (ws : List Int) (n : Nat) : Nat := if divB q n then minC z ws q.toNat q.toNat (n / q.toNat) else 0
set_option maxRecDepth 4000 in
set_option maxHeartbeats 1600000 in
theorem nleast_any (id z q : Int) (P C : Option Addr) (nl pc nn cc : Nat) (ws : List Int) (n : Nat) (w : World) (hw : WordAt #[.int .i64 id, .int .i64 (n : Int), .slice P nl pc, .slice C nn cc] ws n w) (hwl : ws.length = n) (hq : I64 q) (h1 : 1 ≤ n) (h2 : n ≤ 1048576) :
    Calls Try.prog 8 #[.agg #[.int .i64 id, .int .i64 (n : Int), .slice P nl pc, .slice C nn cc], .int .i64 z, .int .i64 q] w fun e w' => e = .returned (.tuple #[.int .i64 (lsV z q ws n : Nat), .int .i64 (if divB q n then 0 else 13)]) ∧ Below w.heap.size w w' := by
  have hb0 : Below w.heap.size w (w.alloc (.cells #[.int .i64 id, .int .i64 (n : Int), .slice P nl pc, .slice C nn cc] 25)) := (Below.refl _ _).alloc (Nat.le_refl _) _
  have HW := Lib.hid (hw _ hb0)
  have HB0 := Lib.hid hb0
  have HDV := Lib.hid (fun W => divides_any q n hq h2 W)
  have HN : Hid (1 ≤ n ∧ n ≤ 1048576) := ⟨h1, h2⟩
  unfold lsV
  obtain ⟨b, hb⟩ : ∃ b, divB q n = b := ⟨_, rfl⟩
  rw [hb] at HDV ⊢
  cases b with
  | false =>
    clear hw hb0 hwl hq h1 h2 hb HW
    go_enter Try.func8, Try.ntmps8
    go_wp2_with fail
    refine (HDV.out _).mono ?_
    rintro e w2 ⟨rfl, rfl⟩
    go_wp2
    go_ret2
    exact ⟨by first | rfl | simp, HB0.out⟩
  | true =>
    obtain ⟨hq1, hqn⟩ := divB_true hb
    obtain ⟨p, rfl⟩ : ∃ p : Nat, q = (p : Int) := ⟨q.toNat, by omega⟩
    rw [Int.toNat_natCast] at hqn ⊢
    obtain ⟨K, hK⟩ : ∃ K, n / p = K := ⟨_, rfl⟩
    rw [hK] at hqn ⊢
    have hK1 : 1 ≤ K := by
      rcases Nat.eq_zero_or_pos K with h | h
      · rw [h] at hqn; omega
      · exact h
    have HLS : Hid (∀ W VB c, ZAt W ⟨VB, 0, none⟩ ws → VB < W.heap.size → n ≤ c → Calls Try.prog 21 #[.slice (some ⟨VB, 0, none⟩) n c, .int .i64 z, .int .i64 (p : Int)] W fun e w' => e = .returned (.int .i64 (minC z ws p p K : Nat)) ∧ Below W.heap.size W w') := fun W VB c h hl hc => by
      have hh := least_any z ws ⟨VB, 0, none⟩ p K c W h hl (by rw [hwl, hqn]) (by omega) hK1 (by omega) (by omega)
      rw [hqn] at hh
      exact hh
    obtain ⟨r, hr⟩ : ∃ r, minC z ws p p K = r := ⟨_, rfl⟩
    rw [hr] at HLS ⊢
    have HWL := Lib.hid hwl
    clear hw hb0 hwl hq h1 h2 hb hq1 hqn hK hK1 hr
    go_enter Try.func8, Try.ntmps8
    go_wp2_with fail
    refine (HDV.out _).mono ?_
    rintro e w2 ⟨rfl, rfl⟩
    go_wp2_with fail
    refine HW.out.mono ?_
    rintro e w3 ⟨VB, c, rfl, ho3, hb3⟩
    have HL3 := Lib.hid (HLS.out w3 VB c (own_zat ho3 HWL.out) (ho3.lt VB rfl).2 (own_cap ho3).1)
    have HB3 := Lib.hid (HB0.out.trans (hb3.mono HB0.out.size))
    clear ho3 hb3 HLS HW
    go_wp2_with fail
    refine HL3.out.mono ?_
    rintro e w4 ⟨rfl, hb4⟩
    have HB4 := Lib.hid (HB3.out.trans (hb4.mono HB3.out.size))
    clear hb4 HL3 HB3
    go_wp2
    go_ret2
    exact ⟨by first | rfl | simp, HB4.out⟩
/-- The chapter's example. -/
def exL : List A3 := [⟨1, 0, 4⟩]
theorem ex_word : ticksL (ownT (10 : Int) exL) 0 10 = [1, 1, 1, 1, -1, -1, -1, -1, -1, -1] := by rfl
theorem ex_least : lsV 1 5 [1, 1, 1, 1, -1, -1, -1, -1, -1, -1] 10 = 0 ∧ divB 5 10 = true := ⟨by rfl, by rfl⟩
theorem ex_black : bestD 1 [1, 1, 1, 1, -1, -1, -1, -1, -1, -1] 10 = 6 := by rfl
set_option maxRecDepth 4000 in
set_option maxHeartbeats 3200000 in
theorem awake14 (w : World) : Calls Try.prog 6 #[] w fun e w' => e = .returned (.bool true) ∧ Below w.heap.size w w' := by
  have HNUM : Hid (∀ x ∈ exL, Num x) := fun x hx => by
    obtain rfl : x = ⟨1, 0, 4⟩ := by simpa [exL] using hx
    unfold Num; simp
  have HLS : Hid (∀ (g : Nat) (W : World), W.heap[g]? = some (.cells #[.int .i64 1, .int .i64 0, .int .i64 4] 47 (0, 0)) → Calls Try.prog 8 #[.agg #[.int .i64 0, .int .i64 10, .slice (some ⟨g, 0, none⟩) 1 1, .slice none 0 0], .int .i64 1, .int .i64 5] W fun e w' => e = .returned (.tuple #[.int .i64 0, .int .i64 0]) ∧ Below W.heap.size W w') := fun g W hg => by
    have hat : ActsAt W (some ⟨g, 0, none⟩) exL := fun i x hx => by
      obtain rfl : i = 0 := by
        have := (List.getElem?_eq_some_iff.1 hx).1
        simp [exL] at this; omega
      obtain rfl : x = ⟨1, 0, 4⟩ := by simpa [exL] using hx.symm
      refine ⟨_, rfl, ?_, ?_, ?_⟩
      all_goals (first | exact cell_of_row _ _ 0 _ _ _ hg | exact cell_of_row _ _ 1 _ _ _ hg | exact cell_of_row _ _ 2 _ _ _ hg)
    have hw := word_at 0 10 (some ⟨g, 0, none⟩) none exL 1 0 0 W hat HNUM.out ⟨by omega, by omega⟩ (by simp [exL])
    rw [show (((10 : Nat)) : Int) = (10 : Int) from rfl, ex_word] at hw
    have h := nleast_any 0 1 5 (some ⟨g, 0, none⟩) none 1 1 0 0 _ 10 W hw rfl ⟨by omega, by omega⟩ (by omega) (by omega)
    rw [ex_least.1, ex_least.2] at h
    exact h
  have HBL : Hid (∀ (g : Nat) (W : World), W.heap[g]? = some (.cells #[.int .i64 1, .int .i64 0, .int .i64 4] 47 (0, 0)) → Calls Try.prog 11 #[.agg #[.int .i64 0, .int .i64 10, .slice (some ⟨g, 0, none⟩) 1 1, .slice none 0 0], .int .i64 1] W fun e w' => e = .returned (.int .i64 6) ∧ Below W.heap.size W w') := fun g W hg => by
    have hat : ActsAt W (some ⟨g, 0, none⟩) exL := fun i x hx => by
      obtain rfl : i = 0 := by
        have := (List.getElem?_eq_some_iff.1 hx).1
        simp [exL] at this; omega
      obtain rfl : x = ⟨1, 0, 4⟩ := by simpa [exL] using hx.symm
      refine ⟨_, rfl, ?_, ?_, ?_⟩
      all_goals (first | exact cell_of_row _ _ 0 _ _ _ hg | exact cell_of_row _ _ 1 _ _ _ hg | exact cell_of_row _ _ 2 _ _ _ hg)
    have hw := word_at 0 10 (some ⟨g, 0, none⟩) none exL 1 0 0 W hat HNUM.out ⟨by omega, by omega⟩ (by simp [exL])
    rw [show (((10 : Nat)) : Int) = (10 : Int) from rfl, ex_word] at hw
    have h := black_any 0 1 (some ⟨g, 0, none⟩) none 1 1 0 0 _ 10 W hw rfl (by omega) (by omega)
    rw [ex_black] at h
    exact h
  go_enter Try.func6, Try.ntmps6
  go_wp2_with fail
  have hb2 : Below w.heap.size w ((w.alloc (.cells #[.int .i64 1, .int .i64 0, .int .i64 4] 47)).alloc (.cells #[.int .i64 0, .int .i64 10, .slice (some ⟨w.heap.size, 0, none⟩) 1 1, .slice none 0 0] 25)) := ((Below.refl _ _).alloc (Nat.le_refl _) _).alloc (by simp) _
  have hg : ((w.alloc (.cells #[.int .i64 1, .int .i64 0, .int .i64 4] 47)).alloc (.cells #[.int .i64 0, .int .i64 10, .slice (some ⟨w.heap.size, 0, none⟩) 1 1, .slice none 0 0] 25)).heap[w.heap.size]? = some (.cells #[.int .i64 1, .int .i64 0, .int .i64 4] 47 (0, 0)) := (heap_alloc_old (w.alloc _) _ (i := w.heap.size) (by rw [World.size_alloc]; exact Nat.lt_succ_self _)).trans (heap_alloc_new w _)
  have hx : ((w.alloc (.cells #[.int .i64 1, .int .i64 0, .int .i64 4] 47)).alloc (.cells #[.int .i64 0, .int .i64 10, .slice (some ⟨w.heap.size, 0, none⟩) 1 1, .slice none 0 0] 25)).heap[w.heap.size + 1]? = some (.cells #[.int .i64 0, .int .i64 10, .slice (some ⟨w.heap.size, 0, none⟩) 1 1, .slice none 0 0] 25 (0, 0)) := by
    have h := heap_alloc_new (w.alloc (.cells #[.int .i64 1, .int .i64 0, .int .i64 4] 47)) (.cells #[.int .i64 0, .int .i64 10, .slice (some ⟨w.heap.size, 0, none⟩) 1 1, .slice none 0 0] 25)
    rw [World.size_alloc] at h
    exact h
  have HB2 := Lib.hid hb2
  have HG := Lib.hid hg
  have HX := Lib.hid hx
  clear hb2 hg hx
  refine (HLS.out _ _ HG.out).mono ?_
  rintro e w3 ⟨rfl, hb3⟩
  have HB3 := Lib.hid (HB2.out.trans (hb3.mono HB2.out.size))
  have HG3 := Lib.hid ((hb3.block _ (lt_of_block HG.out)).trans HG.out)
  have hx3 := (hb3.block _ (lt_of_block HX.out)).trans HX.out
  have y0 : w3.cell? ⟨w.heap.size + 1, 0, none⟩ = some (.int .i64 0) := by rw [cell_of_row _ _ _ _ _ _ hx3]; rfl
  have y1 : w3.cell? ⟨w.heap.size + 1, 1, none⟩ = some (.int .i64 10) := by rw [cell_of_row _ _ _ _ _ _ hx3]; rfl
  have y2 : w3.cell? ⟨w.heap.size + 1, 2, none⟩ = some (.slice (some ⟨w.heap.size, 0, none⟩) 1 1) := by rw [cell_of_row _ _ _ _ _ _ hx3]; rfl
  have y3 : w3.cell? ⟨w.heap.size + 1, 3, none⟩ = some (.slice none 0 0) := by rw [cell_of_row _ _ _ _ _ _ hx3]; rfl
  clear hb3 hx3 HB2 HG HX HLS
  go_wp2_with fail
  refine (HBL.out _ _ HG3.out).mono ?_
  rintro e w4 ⟨rfl, hb4⟩
  have HB4 := Lib.hid (HB3.out.trans (hb4.mono HB3.out.size))
  clear hb4 HB3 HG3
  go_wp2
  go_ret
  exact ⟨rfl, HB4.out⟩
end Go.Proofs.Yteefmdelacihfaa.Nee
