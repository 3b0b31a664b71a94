
/- The function CellsWarm returns true for every slice of cells and every slice of numbers. Condition: none. This text: the walk through the Go text; the row is in the text without the W at its name's end. -/

import Derived.Test.YtnmcmeifbnpdaaaArgs

import Derived.Test.YtnmcmeifbnpdaaaCelG

namespace Go.Proofs.Ytnmcmeifbnpdaaa.cellsWarm

open Go.RowKit Go.PlainAid Go.Proofs.Ytnmcmeifbnpdaaa.Args

set_option linter.unusedVariables false

open Go.Proofs.Ytnmcmeifbnpdaaa.Cel

set_option linter.unusedSimpArgs false

def WaRel (w : World) (g : Nat) (FA : Option Addr) (fc : Nat) (fs : List C2) (A : Option Addr) (c n m : Nat) (i : Value) (wr : World) : Prop :=
  ∃ (k : Nat) (ns : List Nat) (wn : Int), k ≤ m ∧ i = .int .i64 (k : Int) ∧ 0 ≤ wn ∧ wn ≤ k ∧ CW w g FA fc fs A c ns n wn wr
set_option maxRecDepth 4000 in
set_option maxHeartbeats 6400000 in
theorem walk (a0 : Option Addr) (len0 cap0 : Nat) (a1 : Option Addr) (len1 cap1 : Nat) (z1 : List Int) (w : World) (w0 : IsRecs w a0 len0 cap0 [.int .u32, .bool]) (w1 : IsRow .u32 w a1 len1 cap1 z1) :
    Calls Try.prog 6 #[.slice a0 len0 cap0, .slice a1 len1 cap1] w fun e w' => e = .returned (.bool true) ∧ Below w.heap.size w w' := by
  obtain ⟨l, hl, hcells, hlv, hnil, hcap, hcm⟩ := cells_of w0
  obtain ⟨vl, hvl, hnums, hvv⟩ := nums_of w1
  have HCE := Lib.hid hcells
  have HVL := Lib.hid hvl
  have HNU := Lib.hid hnums
  have HLL := Lib.hid hl
  clear w0 w1 hlv hvv hcells hvl hnums
  by_cases hb : 40 < len0 ∨ 40 < len1
  · have hcase : decide (40 < (len0 : Int)) = true ∨ (decide (40 < (len0 : Int)) = false ∧ decide (40 < (len1 : Int)) = true) := by
      rcases Nat.lt_or_ge 40 len0 with h | h
      · exact .inl (decide_eq_true (by omega))
      · exact .inr ⟨decide_eq_false (by omega), decide_eq_true (by omega)⟩
    clear hb hnil hcap hcm hl
    rcases hcase with t0 | ⟨t0, t1⟩
    all_goals
      go_enter Try.func6, Try.ntmps6
      go_wp2_with (go_at_call 14; refine (awake_any _).mono ?_; rintro e w' ⟨rfl, hbel⟩)
      go_ret
      exact ⟨rfl, hbel⟩
  · have t0 : decide (40 < (len0 : Int)) = false := decide_eq_false (by omega)
    have t1 : decide (40 < (len1 : Int)) = false := decide_eq_false (by omega)
    have HN0 : Hid (len0 ≤ 40) := by show _ ≤ _; omega
    have HN1 : Hid (len1 ≤ 40) := by show _ ≤ _; omega
    have HNEW := Lib.hid (new_any a0 cap0 l len0 w HCE.out hnil hcap hl (by omega))
    clear hb hnil hcap hcm hl
    go_enter Try.func6, Try.ntmps6
    go_wp2_with fail
    refine HNEW.out.mono ?_
    rintro e w2 ⟨g, FA, fc, A, c, rfl, hic, hb2⟩
    have HC2 : Hid (CW w g FA fc l A c (l.map C2.v) len0 0 w2) := ⟨hic, hb2⟩
    clear hic hb2 HNEW
    go_wp2_with fail
    refine (fresh_any g _ HC2.out.ic (by have := HN0.out; omega)).mono ?_
    rintro e w3 ⟨rfl, hb3⟩
    rw [fresh_new]
    have HC3 := Lib.hid (HC2.out.keep hb3)
    clear hb3 HC2
    go_wp2_with fail
    go_loopw [32] (fun i wr => WaRel w g FA fc l A c len0 len1 i wr) (fun i _ => len1 - (intOf i).toNat)
    case atStart => exact ⟨0, _, 0, Nat.zero_le _, rfl, by omega, by omega, HC3.out⟩
    case round =>
      obtain ⟨k, ns, wn, hk, rfl, hw0, hwk, hcw⟩ := hrel
      have HC4 := Lib.hid hcw
      have HW0 : Hid (0 ≤ wn ∧ wn ≤ (k : Int)) := ⟨hw0, hwk⟩
      clear hcw hw0 hwk HC3
      by_cases hlt : k < len1
      · obtain ⟨v, hv⟩ : ∃ v, vl[k]? = some v := ⟨_, List.getElem?_eq_getElem (by rw [HVL.out]; exact hlt)⟩
        obtain ⟨y, rfl, e1⟩ := (HNU.out.kept HC4.out.below) k v hv
        have HLT := Lib.hid hlt
        have hkb : (k : Int) < len1 := by omega
        have hki : (0 : Int) ≤ k := by omega
        have hk1 : IntKind.i64.wrap ((k : Int) + 1) = (k : Int) + 1 := IntWalk.i64_in _ (by have := HN1.out; omega)
        clear hlt hk hv
        by_cases hin : k < len0
        · have HS := Lib.hid (set_in g k v _ HC4.out.ic hin (by have := HW0.out; have := HLT.out; have := HN1.out; omega))
          clear hin
          go_wp2_with fail
          refine HS.out.mono ?_
          rintro e w5 ⟨rfl, hic, htw⟩
          have HC5 := Lib.hid (HC4.out.two hic htw)
          clear hic htw HS
          go_wp2
          go_roundw
          case rel => exact ⟨k + 1, _, wn + 1, HLT.out, by go_num, by have := HW0.out; omega, by have := HW0.out; omega, HC5.out⟩
          case measure => have := HLT.out; simp [intOf]; omega
        · have HS := Lib.hid (set_out g (k : Int) v _ HC4.out.ic (.inr (by omega)))
          clear hin
          go_wp2_with fail
          refine HS.out.mono ?_
          rintro e w5 ⟨rfl, rfl⟩
          go_wp2
          go_roundw
          case rel => exact ⟨k + 1, _, wn, HLT.out, by go_num, HW0.out.1, by have := HW0.out; omega, HC4.out⟩
          case measure => have := HLT.out; simp [intOf]; omega
      · obtain rfl : k = len1 := by omega
        clear hlt hk
        go_wp2_with fail
        refine (all_any g _ HC4.out.ic (by have := HN0.out; omega)).mono ?_
        rintro e w5 ⟨V, rfl, ho, hb5⟩
        obtain ⟨D, d, rfl⟩ := own_slice ho
        have HO5 := Lib.hid ho
        have HC5 := Lib.hid (HC4.out.keep hb5)
        have HGL : Hid (g < wr.heap.size ∧ ∀ a, A = some a → a.block < wr.heap.size) := ⟨lt_of_block HC4.out.ic.box, fun a ha => (own_at HC4.out.ic.own a ha).2.2⟩
        clear ho hb5
        go_wp2_with fail
        refine (warm_any g _ HC5.out.ic (by have := HN0.out; omega)).mono ?_
        rintro e w6 ⟨rfl, hic, htw⟩
        have HC6 := Lib.hid (HC5.out.two hic htw)
        have hno := (own_nums HO5.out HC4.out.ic.nlen).1
        have HD6 := Lib.hid (Two.nums htw hno (fun q hq => by have h1 := (own_at HO5.out q hq).2.1; have := HGL.out.1; omega) (fun q a hq ha => by have h1 := (own_at HO5.out q hq).2.1; have := HGL.out.2 a ha; omega))
        have HNL := Lib.hid HC4.out.ic.nlen
        clear hic htw hno HC5 HO5 HGL HC4
        go_wp2_with fail
        refine (all_any g _ HC6.out.ic (by have := HN0.out; omega)).mono ?_
        rintro e w7 ⟨V, rfl, ho, hb7⟩
        obtain ⟨E, d', rfl⟩ := own_slice ho
        have HE7 := Lib.hid (own_nums ho HC6.out.ic.nlen).1
        have HC7 := Lib.hid (HC6.out.keep hb7)
        have HD7 := Lib.hid (HD6.out.kept hb7)
        clear ho hb7 HC6 HD6
        go_wp2_with fail
        go_loopw [62] (fun i wr => ∃ j : Nat, j ≤ len0 ∧ i = .int .i64 (j : Int) ∧ Below w7.heap.size w7 wr) (fun i _ => len0 - (intOf i).toNat)
        case atStart => exact ⟨0, Nat.zero_le _, rfl, Below.refl _ _⟩
        case round =>
          obtain ⟨j, hj, rfl, hbw⟩ := hrel
          have HBW := Lib.hid hbw
          clear hbw
          by_cases hlt : j < len0
          · obtain ⟨x, hx⟩ : ∃ x, l[j]? = some x := ⟨_, List.getElem?_eq_getElem (by rw [HLL.out]; exact hlt)⟩
            obtain ⟨v, hv⟩ : ∃ v, ns[j]? = some v := ⟨_, List.getElem?_eq_getElem (by rw [HNL.out]; exact hlt)⟩
            have hst := startL_get (fun x => !x.kept) l ns j x v hx hv
            obtain ⟨y, rfl, e1, e2⟩ := (HCE.out.kept (HC7.out.below.trans (HBW.out.mono HC7.out.below.size))) j x hx
            have hb8 : Below wr.heap.size wr (wr.alloc (.cells #[.int .u32 (x.v : Int), .bool x.kept] 51)) := (Below.refl _ _).alloc (Nat.le_refl _) _
            have hb9 := HBW.out.trans (hb8.mono HBW.out.size)
            obtain ⟨yd, rfl, e3⟩ := (HD7.out.kept hb9) j v hv
            obtain ⟨ye, rfl, e4⟩ := (HE7.out.kept hb9) j _ hst
            have hx8 := heap_alloc_new wr (.cells #[.int .u32 (x.v : Int), .bool x.kept] 51)
            have HLT := Lib.hid hlt
            have hkb : (j : Int) < len0 := by omega
            have hki : (0 : Int) ≤ j := by omega
            have hk1 : IntKind.i64.wrap ((j : Int) + 1) = (j : Int) + 1 := IntWalk.i64_in _ (by have := HN0.out; omega)
            obtain ⟨xv, xk⟩ := x
            dsimp only at e1 e2 e3 e4 hx8 hb9
            clear hlt hj hv hx hst hb8
            go_upto_region 19 with fail
            obtain ⟨W, hW⟩ : ∃ W, wr.alloc (.cells #[.int .u32 (xv : Int), .bool xk] 51) = W := ⟨_, rfl⟩
            obtain ⟨X, hX⟩ : ∃ X, wr.heap.size = X := ⟨_, rfl⟩
            rw [hW] at hx8 hb9 e3 e4
            rw [hX] at hx8
            rw [hW, hX]
            have x0 := cell_of_row _ _ 0 _ _ _ hx8
            have x1 := cell_of_row _ _ 1 _ _ _ hx8
            simp only [List.getElem?_toArray, List.getElem?_cons_zero, List.getElem?_cons_succ] at x0 x1
            have HB9 := Lib.hid hb9
            clear hx8 hW hX e1 e2 hb9 HBW
            cases xk with
            | true =>
              simp only [Bool.not_true, Bool.false_eq_true, if_false] at e4
              go_quiet (fail)
              have HBQ : Hid (Below w7.heap.size w7 (W.drewN nq)) := HB9.out.trans ⟨rfl, rfl, rfl, Nat.le_refl _, fun _ _ => rfl⟩
              obtain ⟨W2, hW2⟩ : ∃ W2, W.drewN nq = W2 := ⟨_, rfl⟩
              rw [hW2] at HBQ
              rw [hW2]
              clear hW2 x0 x1 e3 e4 HB9
              go_wp2
              go_roundw
              case rel => exact ⟨j + 1, HLT.out, by go_num, HBQ.out⟩
              case measure => have := HLT.out; simp [intOf]; omega
            | false =>
              simp only [Bool.not_false, if_true] at e4
              go_quiet (fail)
              have HBQ : Hid (Below w7.heap.size w7 (W.drewN nq)) := HB9.out.trans ⟨rfl, rfl, rfl, Nat.le_refl _, fun _ _ => rfl⟩
              obtain ⟨W2, hW2⟩ : ∃ W2, W.drewN nq = W2 := ⟨_, rfl⟩
              rw [hW2] at HBQ
              rw [hW2]
              clear hW2 x0 x1 e3 e4 HB9
              go_wp2
              go_roundw
              case rel => exact ⟨j + 1, HLT.out, by go_num, HBQ.out⟩
              case measure => have := HLT.out; simp [intOf]; omega
          · obtain rfl : j = len0 := by omega
            have HC8 := Lib.hid (HC7.out.keep HBW.out)
            clear hlt hj HBW HC7 HD7 HE7
            go_wp2_with fail
            refine (cold_any g _ HC8.out.ic (by have := HN0.out; omega)).mono ?_
            rintro e w9 ⟨rfl, hic, htw⟩
            rw [start_all2 HLL.out (by rw [startL_len _ _ _ (by rw [HLL.out, HNL.out])]; exact HNL.out)] at hic
            have HC9 := Lib.hid (HC8.out.two hic htw)
            clear hic htw HC8
            go_wp2_with fail
            refine (fresh_any g _ HC9.out.ic (by have := HN0.out; omega)).mono ?_
            rintro e w10 ⟨rfl, hb10⟩
            rw [fresh_new]
            have HC10 := Lib.hid (HC9.out.keep hb10)
            clear hb10 HC9
            go_wp2_with fail
            refine (writes_any g _ HC10.out.ic).mono ?_
            rintro e w' ⟨rfl, rfl⟩
            go_wp2_with (go_at_call 14; refine (awake_any _).mono ?_; rintro e w' ⟨rfl, hbel⟩; have HBL := Lib.hid (HC10.out.below.trans (hbel.mono HC10.out.below.size)); clear hbel)
            go_ret
            exact ⟨rfl, HBL.out⟩

end Go.Proofs.Ytnmcmeifbnpdaaa.cellsWarm
