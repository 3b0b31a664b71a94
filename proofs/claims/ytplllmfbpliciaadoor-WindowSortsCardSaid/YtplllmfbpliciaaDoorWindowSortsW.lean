
/- The function WindowSorts returns true for every slice of windows and every two windows. Condition: the package-level variables hold what the program lays in them (the card ties that). This text: the walk through the Go text; the row is in the text without the W at its name's end. -/

import Derived.Test.YtplllmfbpliciaaDoorArgs

import Derived.Test.YtplllmfbpliciaaDoorWinF

import Derived.Test.YtplllmfbpliciaaDoorWinT

import Derived.Test.YtplllmfbpliciaaDoorWinU

import Derived.LoopN

namespace Go.Proofs.YtplllmfbpliciaaDoor.windowSorts

open Go.RowKit Go.PlainAid Go.Proofs.YtplllmfbpliciaaDoor.Args

set_option linter.unusedVariables false

open Go.Proofs.YtplllmfbpliciaaDoor.Flt Go.Proofs.YtplllmfbpliciaaDoor.Rdr Go.Proofs.YtplllmfbpliciaaDoor.Oct Go.Proofs.YtplllmfbpliciaaDoor.Win

open Go.Proofs.YtplllmfbpliciaaDoor.Act (A3 ActsAt I64 Wide acts_of)

set_option linter.unusedSimpArgs false

/-- A window that came in by value. -/
theorem win_in {w : World} {a : Array Value} (h : IsAgg w [.one (.int .i64), .one (.int .i64), .one (.int .i64)] a) : ∃ x : A3, a = #[.int .i64 x.s, .int .i64 x.p, .int .i64 x.a] := by
  obtain ⟨hs, hf⟩ := h
  obtain ⟨v0, e0, s, rfl, w0⟩ := hf 0 _ rfl
  obtain ⟨v1, e1, p, rfl, w1⟩ := hf 1 _ rfl
  obtain ⟨v2, e2, n, rfl, w2⟩ := hf 2 _ rfl
  refine ⟨⟨s, p, n⟩, ?_⟩
  have hs4 : a.size = 3 := hs
  apply Array.ext_getElem?
  intro i
  rcases (show i = 0 ∨ i = 1 ∨ i = 2 ∨ 3 ≤ i by omega) with rfl | rfl | rfl | h
  · exact e0
  · exact e1
  · exact e2
  · rw [Array.getElem?_eq_none (by omega), Array.getElem?_eq_none (by simp; omega)]
/-- The two windows' boxes. -/
structure SB (A B : Nat) (x y : A3) (w W : World) : Prop where
  bx : W.heap[A]? = some (.cells #[.int .i64 x.s, .int .i64 x.p, .int .i64 x.a] 39 (0, 0))
  by' : W.heap[B]? = some (.cells #[.int .i64 y.s, .int .i64 y.p, .int .i64 y.a] 39 (0, 0))
  names : Names W
  below : Below w.heap.size w W
theorem SB.keep {A B : Nat} {x y : A3} {w W W' : World} (f : SB A B x y w W) (b : Below W.heap.size W W') : SB A B x y w W' :=
  ⟨(b.block _ (lt_of_block f.bx)).trans f.bx, (b.block _ (lt_of_block f.by')).trans f.by', f.names.kept b, f.below.trans (b.mono f.below.size)⟩
theorem SB.cells {A B : Nat} {x y : A3} {w W : World} (f : SB A B x y w W) : W.cell? ⟨A, 0, none⟩ = some (.int .i64 x.s) ∧ W.cell? ⟨A, 1, none⟩ = some (.int .i64 x.p) ∧ W.cell? ⟨A, 2, none⟩ = some (.int .i64 x.a) ∧ W.cell? ⟨B, 0, none⟩ = some (.int .i64 y.s) ∧ W.cell? ⟨B, 1, none⟩ = some (.int .i64 y.p) ∧ W.cell? ⟨B, 2, none⟩ = some (.int .i64 y.a) := by
  refine ⟨?_, ?_, ?_, ?_, ?_, ?_⟩
  all_goals first
    | (rw [cell_of_row W _ _ _ _ _ f.bx]; rfl)
    | (rw [cell_of_row W _ _ _ _ _ f.by']; rfl)
set_option maxRecDepth 8000 in
set_option maxHeartbeats 6400000 in
theorem walk (a0 : Option Addr) (len0 cap0 : Nat) (a1 : Array Value) (a2 : Array Value) (w : World) (w0 : IsRecs w a0 len0 cap0 [.int .i64, .int .i64, .int .i64]) (w1 : IsAgg w [.one (.int .i64), .one (.int .i64), .one (.int .i64)] a1) (w2 : IsAgg w [.one (.int .i64), .one (.int .i64), .one (.int .i64)] a2) (hn : Go.Proofs.YtplllmfbpliciaaDoor.Flt.Names w) :
    Calls Tryd.prog 4 #[.slice a0 len0 cap0, .agg a1, .agg a2] w fun e w' => e = .returned (.bool true) ∧ Below w.heap.size w w' := by
  obtain ⟨l, hll, hacts, hwide, hlc, hcm⟩ := acts_of w0
  have hnil : a0 = none → cap0 = 0 := by
    rcases w0 with ⟨_, _, h⟩ | ⟨y, h, _⟩
    · exact fun _ => h
    · exact fun e => by rw [h] at e; cases e
  obtain ⟨x, rfl⟩ := win_in w1
  obtain ⟨y, rfl⟩ := win_in w2
  have hs0 : SB w.heap.size (w.heap.size + 1) x y w ((w.alloc (.cells #[.int .i64 x.s, .int .i64 x.p, .int .i64 x.a] 39)).alloc (.cells #[.int .i64 y.s, .int .i64 y.p, .int .i64 y.a] 39)) := by
    have hb := two_below w (.cells #[.int .i64 x.s, .int .i64 x.p, .int .i64 x.a] 39) (.cells #[.int .i64 y.s, .int .i64 y.p, .int .i64 y.a] 39)
    refine ⟨(heap_alloc_old _ _ (by simp)).trans (heap_alloc_new _ _), ?_, hn.kept hb, hb⟩
    have h := heap_alloc_new (w.alloc (.cells #[.int .i64 x.s, .int .i64 x.p, .int .i64 x.a] 39)) (.cells #[.int .i64 y.s, .int .i64 y.p, .int .i64 y.a] 39)
    rwa [World.size_alloc] at h
  have HS0 := Lib.hid hs0
  by_cases hbig : 40 < len0
  · have t1 : decide ((40 : Int) < (len0 : Int)) = true := decide_eq_true (by omega)
    clear w0 w1 w2 hn hs0 hll hacts hwide hlc hcm hnil hbig
    go_enter Tryd.func4, Tryd.ntmps4
    go_wp2_with (go_at_call 5; refine (awake13 _ HS0.out.names).mono ?_; rintro e w9 ⟨rfl, hb9⟩; have HB9 := Lib.hid (HS0.out.below.trans (hb9.mono HS0.out.below.size)); clear hb9)
    go_ret
    exact ⟨rfl, HB9.out⟩
  · have t1 : decide ((40 : Int) < (len0 : Int)) = false := decide_eq_false (by omega)
    have HSA : Hid (∀ W, Below w.heap.size w W → Calls Tryd.prog 10 #[.slice a0 len0 cap0] W (WPost (sortW l) W)) := fun W b => by
      rw [← hll]; exact wsort_any a0 cap0 l W (hacts.kept b) hnil (by omega) (by omega)
    have HSB : Hid (∀ W, Below w.heap.size w W → Calls Tryd.prog 11 #[.slice a0 len0 cap0] W (WPost (sortW l) W)) := fun W b => by
      rw [← hll]; exact sort13_any a0 cap0 l W (hacts.kept b) (by omega)
    have hsl : (sortW l).length ≤ 1099511627776 := by rw [sort_len]; omega
    obtain ⟨L, hL⟩ : ∃ L, sortW l = L := ⟨_, rfl⟩
    rw [hL] at HSA HSB hsl
    have HLL : Hid (L.length ≤ 1099511627776) := hsl
    obtain ⟨s1, p1, n1⟩ := x
    obtain ⟨s2, p2, n2⟩ := y
    dsimp only at HS0 ⊢
    clear w0 w1 w2 hn hs0 hll hacts hwide hlc hcm hnil hbig hL hsl
    go_enter Tryd.func4, Tryd.ntmps4
    go_wp2_with fail
    refine (HSA.out _ HS0.out.below).mono ?_
    rintro e w3 ⟨V3, rfl, ho3, hb3⟩
    obtain ⟨A3', c3, hV3, hat3⟩ := own_atW ho3 rfl
    have HS3 := Lib.hid (HS0.out.keep hb3)
    have HA3 := Lib.hid hat3
    subst hV3
    clear ho3 hb3 hat3
    go_wp2_with fail
    refine (HSB.out _ HS3.out.below).mono ?_
    rintro e w4 ⟨V4, rfl, ho4, hb4⟩
    obtain ⟨A4', c4, hV4, hat4⟩ := own_atW ho4 rfl
    have HSM := Lib.hid (same13_any A3' A4' c3 c4 L w4 (HA3.out.kept hb4) hat4 HLL.out)
    have HS4 := Lib.hid (HS3.out.keep hb4)
    subst hV4
    clear ho4 hb4 hat4 HA3
    go_wp2_with fail
    refine HSM.out.mono ?_
    rintro e w5 ⟨rfl, nd, rfl⟩
    have HS5 := Lib.hid (HS4.out.keep (W' := w4.drewN nd) ⟨rfl, rfl, rfl, Nat.le_refl _, fun _ _ => rfl⟩)
    obtain ⟨W5, hW5⟩ : ∃ W, w4.drewN nd = W := ⟨_, rfl⟩
    obtain ⟨A, hA⟩ : ∃ A, w.heap.size = A := ⟨_, rfl⟩
    rw [hW5] at HS5
    rw [hW5]
    have hc5 := HS5.out.cells
    dsimp only at hc5
    obtain ⟨q0, q1, q2, q3, q4, q5⟩ := hc5
    clear hW5 HSM hA HS4 HS3 HSA HSB HLL
    go_wp2_with fail
    have HR6 := Lib.hid (heap_alloc_new W5 (.cells #[.int .i64 s1, .int .i64 p1, .int .i64 n1, .int .i64 s2, .int .i64 p2, .int .i64 n2] 39))
    have HS6 := Lib.hid (HS5.out.keep ((Below.refl _ _).alloc (Nat.le_refl _) (.cells #[.int .i64 s1, .int .i64 p1, .int .i64 n1, .int .i64 s2, .int .i64 p2, .int .i64 n2] 39)))
    obtain ⟨W6, hW6⟩ : ∃ W, W5.alloc (.cells #[.int .i64 s1, .int .i64 p1, .int .i64 n1, .int .i64 s2, .int .i64 p2, .int .i64 n2] 39) = W := ⟨_, rfl⟩
    obtain ⟨R, hR⟩ : ∃ R, W5.heap.size = R := ⟨_, rfl⟩
    rw [hW6, hR] at HR6
    rw [hW6] at HS6
    rw [hW6, hR]
    have r0 := cell_of_row _ _ 0 _ _ _ HR6.out
    have r1 := cell_of_row _ _ 1 _ _ _ HR6.out
    have r2 := cell_of_row _ _ 2 _ _ _ HR6.out
    simp only [List.getElem?_toArray, List.getElem?_cons_zero, List.getElem?_cons_succ] at r0 r1 r2
    have HS7 := Lib.hid (HS6.out.keep ((Below.refl _ _).alloc (Nat.le_refl _) (.cells #[.int .i64 s1, .int .i64 p1, .int .i64 n1] 39)))
    have HU : Hid True := trivial
    clear q0 q1 q2 q3 q4 q5 hW6 hR HS5
    refine wp_loop_rounds 3 ?_
    rw [rounds_succ]
    by_cases u1 : p1 < 0
    · clear HU
      go_wp2_with (go_at_call 5; refine (awake13 _ HS7.out.names).mono ?_; rintro e w9 ⟨rfl, hb9⟩; have HB9 := Lib.hid (HS7.out.below.trans (hb9.mono HS7.out.below.size)); clear hb9)
      go_ret
      exact ⟨rfl, HB9.out⟩
    · by_cases u2 : 300 < p1
      · clear HU
        go_wp2_with (go_at_call 5; refine (awake13 _ HS7.out.names).mono ?_; rintro e w9 ⟨rfl, hb9⟩; have HB9 := Lib.hid (HS7.out.below.trans (hb9.mono HS7.out.below.size)); clear hb9)
        go_ret
        exact ⟨rfl, HB9.out⟩
      · by_cases u3 : n1 < 0
        · clear HU
          go_wp2_with (go_at_call 5; refine (awake13 _ HS7.out.names).mono ?_; rintro e w9 ⟨rfl, hb9⟩; have HB9 := Lib.hid (HS7.out.below.trans (hb9.mono HS7.out.below.size)); clear hb9)
          go_ret
          exact ⟨rfl, HB9.out⟩
        · by_cases u4 : 300 < n1
          · clear HU
            go_wp2_with (go_at_call 5; refine (awake13 _ HS7.out.names).mono ?_; rintro e w9 ⟨rfl, hb9⟩; have HB9 := Lib.hid (HS7.out.below.trans (hb9.mono HS7.out.below.size)); clear hb9)
            go_ret
            exact ⟨rfl, HB9.out⟩
          · have HV0 := Lib.hid (And.intro u1 (And.intro u2 (And.intro u3 u4)))
            go_wp2_with fail
            clear u1 u2 u3 u4
            rw [rounds_succ]
            obtain ⟨W7, hW7⟩ : ∃ W, W6.alloc (.cells #[.int .i64 s1, .int .i64 p1, .int .i64 n1] 39) = W := ⟨_, rfl⟩
            have hr7 := (((Below.refl W6.heap.size W6).alloc (Nat.le_refl _) (.cells #[.int .i64 s1, .int .i64 p1, .int .i64 n1] 39)).block _ (lt_of_block HR6.out)).trans HR6.out
            rw [hW7] at HS7 hr7
            rw [hW7]
            have r3 := cell_of_row _ _ 3 _ _ _ hr7
            have r4 := cell_of_row _ _ 4 _ _ _ hr7
            have r5 := cell_of_row _ _ 5 _ _ _ hr7
            simp only [List.getElem?_toArray, List.getElem?_cons_zero, List.getElem?_cons_succ] at r3 r4 r5
            have HS8 := Lib.hid (HS7.out.keep ((Below.refl _ _).alloc (Nat.le_refl _) (.cells #[.int .i64 s2, .int .i64 p2, .int .i64 n2] 39)))
            have HU : Hid True := trivial
            clear r0 r1 r2 hW7 hr7
            by_cases u1 : p2 < 0
            · clear HU
              go_wp2_with (go_at_call 5; refine (awake13 _ HS8.out.names).mono ?_; rintro e w9 ⟨rfl, hb9⟩; have HB9 := Lib.hid (HS8.out.below.trans (hb9.mono HS8.out.below.size)); clear hb9)
              go_ret
              exact ⟨rfl, HB9.out⟩
            · by_cases u2 : 300 < p2
              · clear HU
                go_wp2_with (go_at_call 5; refine (awake13 _ HS8.out.names).mono ?_; rintro e w9 ⟨rfl, hb9⟩; have HB9 := Lib.hid (HS8.out.below.trans (hb9.mono HS8.out.below.size)); clear hb9)
                go_ret
                exact ⟨rfl, HB9.out⟩
              · by_cases u3 : n2 < 0
                · clear HU
                  go_wp2_with (go_at_call 5; refine (awake13 _ HS8.out.names).mono ?_; rintro e w9 ⟨rfl, hb9⟩; have HB9 := Lib.hid (HS8.out.below.trans (hb9.mono HS8.out.below.size)); clear hb9)
                  go_ret
                  exact ⟨rfl, HB9.out⟩
                · by_cases u4 : 300 < n2
                  · clear HU
                    go_wp2_with (go_at_call 5; refine (awake13 _ HS8.out.names).mono ?_; rintro e w9 ⟨rfl, hb9⟩; have HB9 := Lib.hid (HS8.out.below.trans (hb9.mono HS8.out.below.size)); clear hb9)
                    go_ret
                    exact ⟨rfl, HB9.out⟩
                  · have HV1 := Lib.hid (And.intro u1 (And.intro u2 (And.intro u3 u4)))
                    go_wp2_with fail
                    clear u1 u2 u3 u4 r3 r4 r5
                    rw [rounds_succ]
                    obtain ⟨W8, hW8⟩ : ∃ W, W7.alloc (.cells #[.int .i64 s2, .int .i64 p2, .int .i64 n2] 39) = W := ⟨_, rfl⟩
                    rw [hW8] at HS8
                    rw [hW8]
                    have hsx : smallB ⟨s1, p1, n1⟩ = true := by have := HV0.out; unfold smallB; simp; omega
                    have hsy : smallB ⟨s2, p2, n2⟩ = true := by have := HV1.out; unfold smallB; simp; omega
                    have HT1 := Lib.hid (fun W => touch_any ⟨s1, p1, n1⟩ ⟨s2, p2, n2⟩ W hsx hsy)
                    have HT2 := Lib.hid (fun W => touch_any ⟨s2, p2, n2⟩ ⟨s1, p1, n1⟩ W hsy hsx)
                    rw [touch_comm ⟨s2, p2, n2⟩ ⟨s1, p1, n1⟩] at HT2
                    unfold winC at HT1 HT2
                    dsimp only at HT1 HT2
                    have hc8 := HS8.out.cells
                    dsimp only at hc8
                    obtain ⟨q0, q1, q2, q3, q4, q5⟩ := hc8
                    have hwa : IntKind.i64.wrap (p1 + n1) = p1 + n1 := IntWalk.i64_in _ (by have := HV0.out; omega)
                    have hwb : IntKind.i64.wrap (p2 + n2) = p2 + n2 := IntWalk.i64_in _ (by have := HV1.out; omega)
                    have HV2 : Hid (0 ≤ n1 ∧ n1 ≤ 300 ∧ 0 ≤ p1 ∧ p1 ≤ 300) := by have := HV0.out; show _ ∧ _; omega
                    have HEND : Hid (bothB ⟨s1, p1, n1⟩ ⟨s2, p2, n2⟩ n1.toNat = touchB ⟨s1, p1, n1⟩ ⟨s2, p2, n2⟩) := touch_both ⟨s1, p1, n1⟩ ⟨s2, p2, n2⟩ HV2.out.1
                    clear hW8 hsx hsy HV0 HV1 HS7 HS6 HR6 HU
                    go_wp2_with fail
                    go_loop [9, 10] (fun v i => ∃ j : Nat, (j : Int) ≤ n1 ∧ v = .bool (bothB ⟨s1, p1, n1⟩ ⟨s2, p2, n2⟩ j) ∧ i = .int .i64 (p1 + (j : Int))) (fun _ i => (p1 + n1 - intOf i).toNat)
                    case atStart => exact ⟨0, HV2.out.1, rfl, by simp⟩
                    case round =>
                      obtain ⟨j, hj, rfl, rfl⟩ := hrel
                      by_cases hlt : (j : Int) < n1
                      · have hbs := both_succ ⟨s1, p1, n1⟩ ⟨s2, p2, n2⟩ j
                        dsimp only at hbs
                        obtain ⟨bo, hbo⟩ : ∃ b, bothB ⟨s1, p1, n1⟩ ⟨s2, p2, n2⟩ j = b := ⟨_, rfl⟩
                        rw [hbo] at hbs
                        rw [hbo]
                        have HBS := Lib.hid hbs
                        have hwj : IntKind.i64.wrap (p1 + (j : Int) + 1) = p1 + (j : Int) + 1 := IntWalk.i64_in _ (by have := HV2.out; omega)
                        have hl1 : p1 + (j : Int) < p1 + n1 := by omega
                        clear hbs hbo
                        cases bo with
                        | true =>
                          go_wp2
                          go_round
                          case rel => exact ⟨j + 1, by omega, by rw [HBS.out]; simp, by congr 1; omega⟩
                          case measure => simp [intOf]; omega
                        | false =>
                          by_cases v1 : p2 ≤ p1 + (j : Int)
                          · by_cases v2 : p1 + (j : Int) < p2 + n2
                            · go_wp2
                              go_round
                              case rel => exact ⟨j + 1, by omega, by rw [HBS.out]; simp [v1, v2], by congr 1; omega⟩
                              case measure => simp [intOf]; omega
                            · go_wp2
                              go_round
                              case rel => exact ⟨j + 1, by omega, by rw [HBS.out]; simp [v1, v2], by congr 1; omega⟩
                              case measure => simp [intOf]; omega
                          · go_wp2
                            go_round
                            case rel => exact ⟨j + 1, by omega, by rw [HBS.out]; simp [v1], by congr 1; omega⟩
                            case measure => simp [intOf]; omega
                      · have hjn : j = n1.toNat := by omega
                        subst hjn
                        rw [HEND.out]
                        have hl2 : ¬ p1 + ((n1.toNat : Nat) : Int) < p1 + n1 := by omega
                        obtain ⟨tb, htb⟩ : ∃ b, touchB ⟨s1, p1, n1⟩ ⟨s2, p2, n2⟩ = b := ⟨_, rfl⟩
                        rw [htb] at HT1 HT2
                        rw [htb]
                        have htt : (tb == tb) = true := by cases tb <;> rfl
                        clear htb hj
                        go_wp2_with fail
                        refine (HT1.out _).mono ?_
                        rintro e w9 ⟨rfl, hb9⟩
                        have HS9 := Lib.hid (HS8.out.keep hb9)
                        have hc9 := HS9.out.cells
                        dsimp only at hc9
                        obtain ⟨q0, q1, q2, q3, q4, q5⟩ := hc9
                        clear hb9
                        go_wp2_with fail
                        refine (HT2.out _).mono ?_
                        rintro e w10 ⟨rfl, hb10⟩
                        have HS10 := Lib.hid (HS9.out.keep hb10)
                        clear hb10
                        go_wp2_with fail
                        refine (awake13 _ HS10.out.names).mono ?_
                        rintro e w11 ⟨rfl, hb11⟩
                        have HB11 := Lib.hid (HS10.out.below.trans (hb11.mono HS10.out.below.size))
                        clear hb11
                        go_wp2
                        go_ret
                        exact ⟨rfl, HB11.out⟩

end Go.Proofs.YtplllmfbpliciaaDoor.windowSorts
