
/- The function CellsAgain returns true for every slice of cells and every two slices of calls. Condition: none. This text: the walk through the Go text; the row is in the text without the W at its name's end. -/

import Derived.Test.YtnmcmeifbnpdaaaArgs

import Derived.Test.YtnmcmeifbnpdaaaCelH

namespace Go.Proofs.Ytnmcmeifbnpdaaa.cellsAgain

open Go.RowKit Go.PlainAid Go.Proofs.Ytnmcmeifbnpdaaa.Args

set_option linter.unusedVariables false

open Go.Proofs.Ytnmcmeifbnpdaaa.Cel

set_option linter.unusedSimpArgs false

def AgRel (w : World) (N : Nat) (p q : CD) (l : List C2) (n m : Nat) (i : Value) (wr : World) : Prop :=
  ∃ (k : Nat) (ns : List Nat) (wn : Int), k ≤ m ∧ i = .int .i64 (k : Int) ∧ 0 ≤ wn ∧ wn ≤ k ∧ P2 w N p q l ns (l.map C2.v) n wn 0 wr
def AhRel (w : World) (N : Nat) (p q : CD) (l : List C2) (n m : Nat) (i : Value) (wr : World) : Prop :=
  ∃ (k : Nat) (ns : List Nat) (wn : Int), k ≤ m ∧ i = .int .i64 (k : Int) ∧ 0 ≤ wn ∧ wn ≤ k ∧ P2 w N p q l ns ns n wn wn wr
set_option maxRecDepth 4000 in
set_option maxHeartbeats 6400000 in
theorem walk (a0 : Option Addr) (len0 cap0 : Nat) (a1 : Option Addr) (len1 cap1 : Nat) (a2 : Option Addr) (len2 cap2 : Nat) (w : World) (w0 : IsRecs w a0 len0 cap0 [.int .u32, .bool]) (w1 : IsRecs w a1 len1 cap1 [.int .i64, .int .i64, .int .u32]) (w2 : IsRecs w a2 len2 cap2 [.int .i64, .int .i64, .int .u32]) :
    Calls Try.prog 7 #[.slice a0 len0 cap0, .slice a1 len1 cap1, .slice a2 len2 cap2] w fun e w' => e = .returned (.bool true) ∧ Below w.heap.size w w' := by
  obtain ⟨l, hl, hcells, hlv, hnil, hcap, hcm⟩ := cells_of w0
  obtain ⟨al, hal, hahead⟩ := ops_of w1
  obtain ⟨ol, hol, hops⟩ := ops_of w2
  have HCE := Lib.hid hcells
  have HAL := Lib.hid hal
  have HOL := Lib.hid hol
  have HAH := Lib.hid hahead
  have HOP := Lib.hid hops
  have HLL := Lib.hid hl
  clear w0 w1 w2 hlv hcells hal hol hahead hops
  by_cases hb : 40 < len0 ∨ 60 < len1 ∨ 60 < len2
  · have hcase : decide (40 < (len0 : Int)) = true ∨ (decide (40 < (len0 : Int)) = false ∧ decide (60 < (len1 : Int)) = true) ∨ (decide (40 < (len0 : Int)) = false ∧ decide (60 < (len1 : Int)) = false ∧ decide (60 < (len2 : Int)) = true) := by
      rcases Nat.lt_or_ge 40 len0 with h | h
      · exact .inl (decide_eq_true (by omega))
      · rcases Nat.lt_or_ge 60 len1 with h2 | h2
        · exact .inr (.inl ⟨decide_eq_false (by omega), decide_eq_true (by omega)⟩)
        · exact .inr (.inr ⟨decide_eq_false (by omega), decide_eq_false (by omega), decide_eq_true (by omega)⟩)
    clear hb hnil hcap hcm hl
    rcases hcase with t0 | ⟨t0, t1⟩ | ⟨t0, t1, t2⟩
    all_goals
      go_enter Try.func7, Try.ntmps7
      go_wp2_with (go_at_call 14; refine (awake_any _).mono ?_; rintro e w' ⟨rfl, hbel⟩)
      go_ret
      exact ⟨rfl, hbel⟩
  · have t0 : decide (40 < (len0 : Int)) = false := decide_eq_false (by omega)
    have t1 : decide (60 < (len1 : Int)) = false := decide_eq_false (by omega)
    have t2 : decide (60 < (len2 : Int)) = false := decide_eq_false (by omega)
    have HN0 : Hid (len0 ≤ 40) := by show _ ≤ _; omega
    have HN1 : Hid (len1 ≤ 60) := by show _ ≤ _; omega
    have HN2 : Hid (len2 ≤ 60) := by show _ ≤ _; omega
    have HNEW := Lib.hid (fun (W : World) (b : Below w.heap.size w W) => new_any a0 cap0 l len0 W (HCE.out.kept b) hnil hcap hl (by omega))
    clear hb hnil hcap hcm hl
    go_enter Try.func7, Try.ntmps7
    go_wp2_with fail
    refine (HNEW.out _ (Below.refl _ _)).mono ?_
    rintro e w2 ⟨g, FA, fc, A, c, rfl, hic, hb2⟩
    have HI2 := Lib.hid hic
    have HB2 := Lib.hid hb2
    clear hic hb2
    go_wp2_with fail
    refine (HNEW.out _ HB2.out).mono ?_
    rintro e w3 ⟨g', FA', fc', A', c', rfl, hic, hb3⟩
    have HP3 : Hid (P2 w w2.heap.size ⟨g, FA, fc, A, c⟩ ⟨g', FA', fc', A', c'⟩ l (l.map C2.v) (l.map C2.v) len0 0 0 w3) :=
      ⟨HI2.out.keep hb3, hic, HB2.out.trans (hb3.mono HB2.out.size), HB2.out.size, lt_of_block HI2.out.box, fun x hx => (own_at HI2.out.own x hx).2.2, fun x hx => (own_at HI2.out.fst x hx).2.2⟩
    obtain ⟨N, hN⟩ : ∃ N, w2.heap.size = N := ⟨_, rfl⟩
    rw [hN] at HP3
    clear hic hb3 HNEW HI2 HB2 hN
    go_wp2_with fail
    go_loopw [39] (fun i wr => AgRel w N ⟨g, FA, fc, A, c⟩ ⟨g', FA', fc', A', c'⟩ l len0 len1 i wr) (fun i _ => len1 - (intOf i).toNat)
    case atStart => exact ⟨0, _, 0, Nat.zero_le _, rfl, by omega, by omega, HP3.out⟩
    case round =>
      obtain ⟨k, ns, wn, hk, rfl, hw0, hwk, hp⟩ := hrel
      have HP4 := Lib.hid hp
      have HW0 : Hid (0 ≤ wn ∧ wn ≤ (k : Int)) := ⟨hw0, hwk⟩
      clear hp hw0 hwk HP3
      by_cases hlt : k < len1
      · obtain ⟨x, hx⟩ : ∃ x, al[k]? = some x := ⟨_, List.getElem?_eq_getElem (by rw [HAL.out]; exact hlt)⟩
        obtain ⟨y, rfl, e1, e2, e3⟩ := (HAH.out.kept HP4.out.below) k x hx
        have HLT := Lib.hid hlt
        have hkb : (k : Int) < len1 := by omega
        have hki : (0 : Int) ≤ k := by omega
        have hk1 : IntKind.i64.wrap ((k : Int) + 1) = (k : Int) + 1 := IntWalk.i64_in _ (by have := HN1.out; omega)
        obtain ⟨xk, xi, xv⟩ := x
        dsimp only at e1 e2 e3
        have hb5 : Below wr.heap.size wr (wr.alloc (.cells #[.int .i64 xk, .int .i64 xi, .int .u32 (xv : Int)] 45)) := (Below.refl _ _).alloc (Nat.le_refl _) _
        have hp5 := HP4.out.keep hb5
        have hx5 := heap_alloc_new wr (.cells #[.int .i64 xk, .int .i64 xi, .int .u32 (xv : Int)] 45)
        have hgl : g < wr.heap.size ∧ ∀ a, A = some a → a.block < wr.heap.size := ⟨lt_of_block HP4.out.one.box, fun a ha => (own_at HP4.out.one.own a ha).2.2⟩
        clear hlt hk hx hb5
        go_upto_region 9 with fail
        obtain ⟨W, hW⟩ : ∃ W, wr.alloc (.cells #[.int .i64 xk, .int .i64 xi, .int .u32 (xv : Int)] 45) = W := ⟨_, rfl⟩
        obtain ⟨X, hX⟩ : ∃ X, wr.heap.size = X := ⟨_, rfl⟩
        rw [hW] at hx5 hp5
        rw [hX] at hx5 hgl
        rw [hW, hX]
        have HX5 := Lib.hid hx5
        have HP5 := Lib.hid hp5
        have HGL : Hid (g < X ∧ ∀ a, A = some a → a.block < X) := hgl
        have x0 := cell_of_row _ _ 0 _ _ _ hx5
        have x1 := cell_of_row _ _ 1 _ _ _ hx5
        have x2 := cell_of_row _ _ 2 _ _ _ hx5
        simp only [List.getElem?_toArray, List.getElem?_cons_zero, List.getElem?_cons_succ] at x0 x1 x2
        clear hx5 hp5 hW hX e1 e2 e3 hgl HP4
        by_cases h3 : xk = 3
        · subst h3
          go_wp2_with fail
          refine (warm_any g _ HP5.out.one (by have := HN0.out; omega)).mono ?_
          rintro e w6 ⟨rfl, hic, htw⟩
          have HP6 := Lib.hid (HP5.out.first hic htw)
          have hx6 := (htw.block X (lt_of_block HX5.out) (by have := HGL.out.1; omega) (fun a ha => by have := HGL.out.2 a ha; omega)).trans HX5.out
          have y1 := cell_of_row _ _ 1 _ _ _ hx6
          have y2 := cell_of_row _ _ 2 _ _ _ hx6
          simp only [List.getElem?_toArray, List.getElem?_cons_zero, List.getElem?_cons_succ] at y1 y2
          clear hic htw hx6 x0 x1 x2 HP5 HX5
          go_wp2_with fail
          refine (set_any g xi xv _ HP6.out.one (by have := HW0.out; have := HLT.out; have := HN1.out; omega)).mono ?_
          rintro e w7 ⟨rfl, hic, htw⟩
          have HP7 := Lib.hid (HP6.out.first hic htw)
          clear hic htw HP6 y1 y2
          go_wp2
          go_roundw
          case rel => exact ⟨k + 1, _, _, HLT.out, by go_num, by have := HW0.out; have := setW_in len0 xi wn; omega, by have := HW0.out; have := setW_in len0 xi wn; omega, HP7.out⟩
          case measure => have := HLT.out; simp [intOf]; omega
        · have t3 : (xk == 3) = false := by simp [h3]
          clear h3
          go_wp2_with fail
          refine (set_any g xi xv _ HP5.out.one (by have := HW0.out; have := HLT.out; have := HN1.out; omega)).mono ?_
          rintro e w7 ⟨rfl, hic, htw⟩
          have HP7 := Lib.hid (HP5.out.first hic htw)
          clear hic htw HP5 x0 x1 x2 HX5
          go_wp2
          go_roundw
          case rel => exact ⟨k + 1, _, _, HLT.out, by go_num, by have := HW0.out; have := setW_in len0 xi wn; omega, by have := HW0.out; have := setW_in len0 xi wn; omega, HP7.out⟩
          case measure => have := HLT.out; simp [intOf]; omega
      · obtain rfl : k = len1 := by omega
        clear hlt hk
        go_wp2_with fail
        refine (cold_any g _ HP4.out.one (by have := HN0.out; omega)).mono ?_
        rintro e w5 ⟨rfl, hic, htw⟩
        rw [start_all2 HLL.out HP4.out.one.nlen] at hic
        have HP5 := Lib.hid (HP4.out.first hic htw)
        clear hic htw HP4 HW0
        go_wp2_with fail
        go_loopw [59] (fun i wr => AhRel w N ⟨g, FA, fc, A, c⟩ ⟨g', FA', fc', A', c'⟩ l len0 len2 i wr) (fun i _ => len2 - (intOf i).toNat)
        case atStart => exact ⟨0, _, 0, Nat.zero_le _, rfl, by omega, by omega, HP5.out⟩
        case round =>
          obtain ⟨j, ms, wm, hj, rfl, hw0, hwk, hp⟩ := hrel
          have HP6 := Lib.hid hp
          have HW0 : Hid (0 ≤ wm ∧ wm ≤ (j : Int)) := ⟨hw0, hwk⟩
          clear hp hw0 hwk HP5
          by_cases hlt : j < len2
          · obtain ⟨x, hx⟩ : ∃ x, ol[j]? = some x := ⟨_, List.getElem?_eq_getElem (by rw [HOL.out]; exact hlt)⟩
            obtain ⟨y, rfl, e1, e2, e3⟩ := (HOP.out.kept HP6.out.below) j x hx
            have HLT := Lib.hid hlt
            have hkb : (j : Int) < len2 := by omega
            have hki : (0 : Int) ≤ j := by omega
            have hk1 : IntKind.i64.wrap ((j : Int) + 1) = (j : Int) + 1 := IntWalk.i64_in _ (by have := HN2.out; omega)
            obtain ⟨xk, xi, xv⟩ := x
            dsimp only at e1 e2 e3
            have hb5 : Below wr.heap.size wr (wr.alloc (.cells #[.int .i64 xk, .int .i64 xi, .int .u32 (xv : Int)] 45)) := (Below.refl _ _).alloc (Nat.le_refl _) _
            have hp5 := HP6.out.keep hb5
            have hx5 := heap_alloc_new wr (.cells #[.int .i64 xk, .int .i64 xi, .int .u32 (xv : Int)] 45)
            have hgl : (g < wr.heap.size ∧ ∀ a, A = some a → a.block < wr.heap.size) ∧ (g' < wr.heap.size ∧ ∀ a, A' = some a → a.block < wr.heap.size) := ⟨⟨lt_of_block HP6.out.one.box, fun a ha => (own_at HP6.out.one.own a ha).2.2⟩, ⟨lt_of_block HP6.out.two.box, fun a ha => (own_at HP6.out.two.own a ha).2.2⟩⟩
            clear hlt hj hx hb5
            go_upto_region 17 with fail
            obtain ⟨W, hW⟩ : ∃ W, wr.alloc (.cells #[.int .i64 xk, .int .i64 xi, .int .u32 (xv : Int)] 45) = W := ⟨_, rfl⟩
            obtain ⟨X, hX⟩ : ∃ X, wr.heap.size = X := ⟨_, rfl⟩
            rw [hW] at hx5 hp5
            rw [hX] at hx5 hgl
            rw [hW, hX]
            have HX5 := Lib.hid hx5
            have HP7 := Lib.hid hp5
            have HGL : Hid ((g < X ∧ ∀ a, A = some a → a.block < X) ∧ (g' < X ∧ ∀ a, A' = some a → a.block < X)) := hgl
            have x0 := cell_of_row _ _ 0 _ _ _ hx5
            have x1 := cell_of_row _ _ 1 _ _ _ hx5
            have x2 := cell_of_row _ _ 2 _ _ _ hx5
            simp only [List.getElem?_toArray, List.getElem?_cons_zero, List.getElem?_cons_succ] at x0 x1 x2
            clear hx5 hp5 hW hX e1 e2 e3 hgl HP6
            by_cases h3 : xk = 3
            · subst h3
              go_wp2_with fail
              refine (warm_any g _ HP7.out.one (by have := HN0.out; omega)).mono ?_
              rintro e w6 ⟨rfl, hic, htw⟩
              have HP8 := Lib.hid (HP7.out.first hic htw)
              clear hic htw HP7 x0 x1 x2 HX5
              go_wp2_with fail
              refine (warm_any g' _ HP8.out.two (by have := HN0.out; omega)).mono ?_
              rintro e w7 ⟨rfl, hic, htw⟩
              have HP9 := Lib.hid (HP8.out.second hic htw)
              clear hic htw HP8
              have HWM : Hid (0 ≤ wm ∧ wm ≤ ((j + 1 : Nat) : Int)) := ⟨HW0.out.1, by have := HW0.out.2; omega⟩
              go_wp2_with fail
              refine (same_any g g' _ HP9.out.one HP9.out.two (by have := HN0.out; omega)).mono ?_
              rintro e wA ⟨rfl, qs, hqs⟩
              rw [show decide (startL (fun x => !x.kept) l ms = startL (fun x => !x.kept) l ms) = true from decide_eq_true rfl]
              have HP10 : Hid (P2 w N ⟨g, FA, fc, A, c⟩ ⟨g', FA', fc', A', c'⟩ l (startL (fun x => !x.kept) l ms) (startL (fun x => !x.kept) l ms) len0 (wm) (wm) wA) := by rw [hqs]; exact HP9.out.drewN qs
              clear hqs HP9
              go_wp2_with fail
              refine (writes_any g _ HP10.out.one).mono ?_
              rintro e w' ⟨rfl, rfl⟩
              go_wp2_with fail
              refine (writes_any g' _ HP10.out.two).mono ?_
              rintro e w' ⟨rfl, rfl⟩
              go_wp2_with fail
              refine (fresh_any g _ HP10.out.one (by have := HN0.out; omega)).mono ?_
              rintro e wB ⟨rfl, hbB⟩
              have HP11 := Lib.hid (HP10.out.keep hbB)
              clear hbB HP10
              go_wp2_with fail
              refine (fresh_any g' _ HP11.out.two (by have := HN0.out; omega)).mono ?_
              rintro e wC ⟨rfl, hbC⟩
              have HP12 := Lib.hid (HP11.out.keep hbC)
              clear hbC HP11
              obtain ⟨bf, hbf⟩ : ∃ b, decide (startL (fun x => !x.kept) l ms = l.map C2.v) = b := ⟨_, rfl⟩
              rw [hbf]
              have tbf := fresh_eq bf
              clear hbf
              go_wp2
              go_roundw
              case rel => exact ⟨j + 1, _, _, HLT.out, by go_num, HWM.out.1, HWM.out.2, HP12.out⟩
              case measure => have := HLT.out; simp [intOf]; omega
            · have t3 : (xk == 3) = false := by simp [h3]
              clear h3
              have HP8 := Lib.hid (HP7.out.drewN 1)
              have HX8 : Hid (W.drew.heap[X]? = some (.cells #[.int .i64 xk, .int .i64 xi, .int .u32 (xv : Int)] 45 (0, 0))) := HX5.out
              obtain ⟨bs, hbs⟩ : ∃ b, inB len0 xi = b := ⟨_, rfl⟩
              have HS1 := Lib.hid (fun (W : World) (ns : List Nat) (h : P2 w N ⟨g, FA, fc, A, c⟩ ⟨g', FA', fc', A', c'⟩ l ms ms len0 wm wm W) => set_any g xi xv W h.one (by have := HW0.out; have := HLT.out; have := HN2.out; omega))
              have HS2 := Lib.hid (fun (W : World) (ns : List Nat) (u : Int) (h : P2 w N ⟨g, FA, fc, A, c⟩ ⟨g', FA', fc', A', c'⟩ l ns ms len0 u wm W) => set_any g' xi xv W h.two (by have := HW0.out; have := HLT.out; have := HN2.out; omega))
              rw [hbs] at HS1 HS2
              have tbs := fresh_eq bs
              clear hbs HP7
              go_wp2_with fail
              go_region_held3 (fun wx => wx.cell? ⟨X, 1, none⟩ = some (.int .i64 xi) ∧ wx.cell? ⟨X, 2, none⟩ = some (.int .u32 (xv : Int)))
                (first | (refine ⟨?_, ?_⟩ <;> assumption) | (go_keep; done))
                (first
                  | (go_at_call_of 18 (Value.pointer (some ⟨g, 0, none⟩)); refine (HS1.out _ ms HP8.out).mono ?_; rintro e w6 ⟨rfl, hic, htw⟩; have HPa := Lib.hid (HP8.out.first hic htw); have HXa := Lib.hid ((htw.block X (lt_of_block HX8.out) (by have := HGL.out.1.1; omega) (fun a ha => by have := HGL.out.1.2 a ha; omega)).trans HX8.out); have y1 := cell_of_row _ _ 1 _ _ _ HXa.out; have y2 := cell_of_row _ _ 2 _ _ _ HXa.out; simp only [List.getElem?_toArray, List.getElem?_cons_zero, List.getElem?_cons_succ] at y1 y2; clear hic htw)
                  | (go_at_call_of 18 (Value.pointer (some ⟨g', 0, none⟩)); refine (HS2.out _ _ _ HPa.out).mono ?_; rintro e w7 ⟨rfl, hic, htw⟩; have HP9 := Lib.hid (HPa.out.second hic htw); have HXb := Lib.hid ((htw.block X (lt_of_block HXa.out) (by have := HGL.out.2.1; omega) (fun a ha => by have := HGL.out.2.2 a ha; omega)).trans HXa.out); have z1 := cell_of_row _ _ 1 _ _ _ HXb.out; have z2 := cell_of_row _ _ 2 _ _ _ HXb.out; simp only [List.getElem?_toArray, List.getElem?_cons_zero, List.getElem?_cons_succ] at z1 z2; clear hic htw))
              all_goals
                clear x0 x1 x2 y1 y2 z1 z2
                have HWM : Hid (0 ≤ setW len0 xi wm ∧ setW len0 xi wm ≤ ((j + 1 : Nat) : Int)) := ⟨by have := HW0.out; have := setW_in len0 xi wm; omega, by have := HW0.out; have := setW_in len0 xi wm; omega⟩
                go_wp2_with fail
                refine (same_any g g' _ HP9.out.one HP9.out.two (by have := HN0.out; omega)).mono ?_
                rintro e wA ⟨rfl, qs, hqs⟩
                rw [show decide (setN len0 xi xv ms = setN len0 xi xv ms) = true from decide_eq_true rfl]
                have HP10 : Hid (P2 w N ⟨g, FA, fc, A, c⟩ ⟨g', FA', fc', A', c'⟩ l (setN len0 xi xv ms) (setN len0 xi xv ms) len0 (setW len0 xi wm) (setW len0 xi wm) wA) := by rw [hqs]; exact HP9.out.drewN qs
                clear hqs HP9
                go_wp2_with fail
                refine (writes_any g _ HP10.out.one).mono ?_
                rintro e w' ⟨rfl, rfl⟩
                go_wp2_with fail
                refine (writes_any g' _ HP10.out.two).mono ?_
                rintro e w' ⟨rfl, rfl⟩
                go_wp2_with fail
                refine (fresh_any g _ HP10.out.one (by have := HN0.out; omega)).mono ?_
                rintro e wB ⟨rfl, hbB⟩
                have HP11 := Lib.hid (HP10.out.keep hbB)
                clear hbB HP10
                go_wp2_with fail
                refine (fresh_any g' _ HP11.out.two (by have := HN0.out; omega)).mono ?_
                rintro e wC ⟨rfl, hbC⟩
                have HP12 := Lib.hid (HP11.out.keep hbC)
                clear hbC HP11
                obtain ⟨bf, hbf⟩ : ∃ b, decide (setN len0 xi xv ms = l.map C2.v) = b := ⟨_, rfl⟩
                rw [hbf]
                have tbf := fresh_eq bf
                clear hbf
                go_wp2
                go_roundw
                case rel => exact ⟨j + 1, _, _, HLT.out, by go_num, HWM.out.1, HWM.out.2, HP12.out⟩
                case measure => have := HLT.out; simp [intOf]; omega
          · obtain rfl : j = len2 := by omega
            clear hlt hj
            go_wp2_with fail
            refine (len_any g _ HP6.out.one).mono ?_
            rintro e w' ⟨rfl, rfl⟩
            go_wp2_with (go_at_call 14; refine (awake_any _).mono ?_; rintro e w' ⟨rfl, hbel⟩; have HBL := Lib.hid (HP6.out.below.trans (hbel.mono HP6.out.below.size)); clear hbel)
            go_ret
            exact ⟨rfl, HBL.out⟩

end Go.Proofs.Ytnmcmeifbnpdaaa.cellsAgain
