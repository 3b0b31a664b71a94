
/- The function CellsPlays returns true for every slice of cells, every slice of calls and every number. Condition: none. This text: the walk through the Go text; the row is in the text without the W at its name's end. -/

import Derived.Test.YtnmcmeifbnpdaaaArgs

import Derived.Test.YtnmcmeifbnpdaaaCelU

namespace Go.Proofs.Ytnmcmeifbnpdaaa.cellsPlays

open Go.RowKit Go.PlainAid Go.Proofs.Ytnmcmeifbnpdaaa.Args

set_option linter.unusedVariables false

open Go.Proofs.Ytnmcmeifbnpdaaa.Cel

set_option linter.unusedSimpArgs false

def PlRel (w : World) (M : Nat) (p : CD) (F : Value) (X : Nat) (l : List C2) (n m : Nat) (i : Value) (wr : World) : Prop :=
  ∃ (k : Nat) (N : Option Addr) (nc : Nat) (ns : List Nat) (wn : Int), k ≤ m ∧ i = .int .i64 (k : Int) ∧ 0 ≤ wn ∧ wn ≤ k ∧ PW w M p F X N nc l ns ns n wn wn wr
def FrRel (l : List C2) (ns : List Nat) (n : Nat) (w5 : World) (f i : Value) (wr : World) : Prop :=
  ∃ (k : Nat) (b : Bool), k ≤ n ∧ i = .int .i64 (k : Int) ∧ f = .bool b ∧ (b = true ↔ FreshTo l ns k) ∧ ∃ q, wr = w5.drewN q
set_option maxRecDepth 8000 in
set_option maxHeartbeats 12800000 in
theorem walk (a0 : Option Addr) (len0 cap0 : Nat) (a1 : Option Addr) (len1 cap1 : Nat) (a2 : Int) (w : World) (w0 : IsRecs w a0 len0 cap0 [.int .u32, .bool]) (w1 : IsRecs w a1 len1 cap1 [.int .i64, .int .i64, .int .u32]) (w2 : (Lit.int .i64 a2).wf = true) :
    Calls Try.prog 5 #[.slice a0 len0 cap0, .slice a1 len1 cap1, .int .i64 a2] w fun e w' => e = .returned (.bool true) ∧ Below w.heap.size w w' := by
  obtain ⟨l, hl, hcells, hlv, hnil, hcap, hcm⟩ := cells_of w0
  obtain ⟨ol, hol, hops⟩ := ops_of w1
  have HCE := Lib.hid hcells
  have HOL := Lib.hid hol
  have HOP := Lib.hid hops
  have HLL := Lib.hid hl
  clear w0 w1 w2 hlv hcells hol hops
  by_cases hb : 40 < len0 ∨ 60 < len1
  · have hcase : decide (40 < (len0 : Int)) = true ∨ (decide (40 < (len0 : Int)) = false ∧ decide (60 < (len1 : Int)) = true) := by
      rcases Nat.lt_or_ge 40 len0 with h | h
      · exact .inl (decide_eq_true (by omega))
      · exact .inr ⟨decide_eq_false (by omega), decide_eq_true (by omega)⟩
    clear hb hnil hcap hcm hl
    rcases hcase with t0 | ⟨t0, t1⟩
    all_goals
      go_enter Try.func5, Try.ntmps5
      go_wp2_with (go_at_call 14; refine (awake_any _).mono ?_; rintro e w' ⟨rfl, hbel⟩)
      go_ret
      exact ⟨rfl, hbel⟩
  · have t0 : decide (40 < (len0 : Int)) = false := decide_eq_false (by omega)
    have t1 : decide (60 < (len1 : Int)) = false := decide_eq_false (by omega)
    have HN0 : Hid (len0 ≤ 40) := by show _ ≤ _; omega
    have HN1 : Hid (len1 ≤ 60) := by show _ ≤ _; omega
    have HNEW := Lib.hid (new_any a0 cap0 l len0 w HCE.out hnil hcap hl (by omega))
    have HRNW := Lib.hid (fun (W : World) (b : Below w.heap.size w W) => rnew_any a0 cap0 l len0 W (HCE.out.kept b) hl (by omega))
    clear hb hnil hcap hcm hl
    go_enter Try.func5, Try.ntmps5
    go_wp2_with fail
    refine HNEW.out.mono ?_
    rintro e w2 ⟨g, FA, fc, A, c, rfl, hic, hb2⟩
    have HI2 := Lib.hid hic
    have HB2 := Lib.hid hb2
    clear hic hb2 HNEW
    go_wp2_with fail
    refine (HRNW.out _ HB2.out).mono ?_
    rintro e w3 ⟨N, nc, rfl, ho3, hb3⟩
    have hbx : Below w3.heap.size w3 (w3.alloc (.cells #[.slice a0 len0 cap0, .slice N len0 nc, .int .i64 0] 41)) := (Below.refl _ _).alloc (Nat.le_refl _) _
    have HP4 : Hid (PW w w2.heap.size ⟨g, FA, fc, A, c⟩ (.slice a0 len0 cap0) w3.heap.size N nc l (l.map C2.v) (l.map C2.v) len0 0 0 (w3.alloc (.cells #[.slice a0 len0 cap0, .slice N len0 nc, .int .i64 0] 41))) := by
      have hnn : (l.map C2.v).length = len0 := by rw [List.length_map]; exact HLL.out
      exact ⟨(HI2.out.keep hb3).keep hbx, heap_alloc_new _ _, ((own_nums ho3 hnn).1).kept hbx, hnn, (HB2.out.trans (hb3.mono HB2.out.size)).trans (hbx.mono (Nat.le_trans HB2.out.size hb3.size)), HB2.out.size, lt_of_block HI2.out.box, fun x hx => (own_at HI2.out.own x hx).2.2, fun x hx => (own_at HI2.out.fst x hx).2.2, hb3.size, fun y hy => ⟨(own_at ho3 y hy).2.1, by have := (own_at ho3 y hy).2.2; omega⟩⟩
    clear ho3 hb3 hbx HI2 HB2 HRNW
    go_upto_region 7 with fail
    obtain ⟨W4, hW4⟩ : ∃ W, w3.alloc (.cells #[.slice a0 len0 cap0, .slice N len0 nc, .int .i64 0] 41) = W := ⟨_, rfl⟩
    obtain ⟨X, hX⟩ : ∃ X, w3.heap.size = X := ⟨_, rfl⟩
    obtain ⟨M, hM⟩ : ∃ M, w2.heap.size = M := ⟨_, rfl⟩
    rw [hW4, hX, hM] at HP4
    rw [hW4, hX]
    clear hW4 hX hM
    go_wp2_with fail
    go_loopw [39] (fun i wr => PlRel w M ⟨g, FA, fc, A, c⟩ (.slice a0 len0 cap0) X l len0 len1 i wr) (fun i _ => len1 - (intOf i).toNat)
    case atStart => exact ⟨0, N, nc, _, 0, Nat.zero_le _, rfl, by omega, by omega, HP4.out⟩
    case round =>
      obtain ⟨k, N, nc, ns, wn, hk, rfl, hw0, hwk, hp⟩ := hrel
      have HP5 := Lib.hid hp
      have HW0 : Hid (0 ≤ wn ∧ wn ≤ (k : Int)) := ⟨hw0, hwk⟩
      clear hp hw0 hwk HP4
      by_cases hlt : k < len1
      · obtain ⟨x, hx⟩ : ∃ x, ol[k]? = some x := ⟨_, List.getElem?_eq_getElem (by rw [HOL.out]; exact hlt)⟩
        obtain ⟨y, rfl, e1, e2, e3⟩ := (HOP.out.kept HP5.out.below) k x hx
        have HLT := Lib.hid hlt
        have hkb : (k : Int) < len1 := by omega
        have hki : (0 : Int) ≤ k := by omega
        have HK1 : Hid (IntKind.i64.wrap ((k : Int) + 1) = (k : Int) + 1) := IntWalk.i64_in _ (by have := HN1.out; omega)
        obtain ⟨xk, xi, xv⟩ := x
        dsimp only at e1 e2 e3
        have hb5 : Below wr.heap.size wr (wr.alloc (.cells #[.int .i64 xk, .int .i64 xi, .int .u32 (xv : Int)] 45)) := (Below.refl _ _).alloc (Nat.le_refl _) _
        have hp6 := HP5.out.keep hb5
        have hx6 := heap_alloc_new wr (.cells #[.int .i64 xk, .int .i64 xi, .int .u32 (xv : Int)] 45)
        have hgl : g < wr.heap.size ∧ (∀ a, A = some a → a.block < wr.heap.size) ∧ X < wr.heap.size := ⟨lt_of_block HP5.out.one.box, fun a ha => (own_at HP5.out.one.own a ha).2.2, lt_of_block HP5.out.box⟩
        clear hlt hk hx hb5
        go_upto_block 2 with fail
        obtain ⟨W6, hW6⟩ : ∃ W, wr.alloc (.cells #[.int .i64 xk, .int .i64 xi, .int .u32 (xv : Int)] 45) = W := ⟨_, rfl⟩
        obtain ⟨Q, hQ⟩ : ∃ Q, wr.heap.size = Q := ⟨_, rfl⟩
        rw [hW6] at hx6 hp6
        rw [hQ] at hx6 hgl
        rw [hW6, hQ]
        have HX6 := Lib.hid hx6
        have HP6 := Lib.hid hp6
        have HGL : Hid (g < Q ∧ (∀ a, A = some a → a.block < Q) ∧ X < Q) := hgl
        have x0 := cell_of_row _ _ 0 _ _ _ hx6
        have x1 := cell_of_row _ _ 1 _ _ _ hx6
        have x2 := cell_of_row _ _ 2 _ _ _ hx6
        simp only [List.getElem?_toArray, List.getElem?_cons_zero, List.getElem?_cons_succ] at x0 x1 x2
        clear hx6 hp6 hW6 hQ e1 e2 e3 hgl HP5
        go_cut [11, 12] from 43 to 76 (fun s11 s12 wx => ∃ (N : Option Addr) (nc : Nat) (ns : List Nat) (wn : Int), 0 ≤ wn ∧ wn ≤ ((k + 1 : Nat) : Int) ∧ PW w M ⟨g, FA, fc, A, c⟩ (.slice a0 len0 cap0) X N nc l ns ns len0 wn wn wx)
        case first =>
          by_cases hk1 : xk = 1
          · subst hk1
            have HBX := Lib.hid HP6.out.box
            have HRS := Lib.hid (rset_any a0 N cap0 nc xi xv ns len0 wn W6 HP6.out.num HP6.out.mlen (by have := HN0.out; omega) (by have := HW0.out; have := HLT.out; have := HN1.out; omega))
            go_wp2_with (first
              | ((with_reducible show wpList _ _ _ _ _ _); refine wpList_load_row rfl 41 (.tmp 8) rfl X rfl 41 _ (0, 0) _ HBX.out Try.underlying41 rfl (by rw [size_rc]; rfl) ?_))
            refine HRS.out.mono ?_
            rintro e w7 ⟨N7, nc7, rfl, hn7, hN7, hb7⟩
            have HP7 := Lib.hid (HP6.out.keep hb7)
            have hx7 := (hb7.block Q (lt_of_block HX6.out)).trans HX6.out
            have hb8 : Below w7.heap.size w7 (w7.alloc (.cells #[.slice a0 len0 cap0, .slice N7 len0 nc7, .int .i64 (setW len0 xi wn)] 41)) := (Below.refl _ _).alloc (Nat.le_refl _) _
            have HP8 := Lib.hid (HP7.out.keep hb8)
            have HN8 := Lib.hid (hn7.kept hb8)
            have HNN : Hid (∀ y, N7 = some y → M ≤ y.block ∧ y.block ≠ X) := fun y hy => by
              rcases hN7 y hy with h | h
              · have h1 := HP6.out.xM
                have h2 := lt_of_block HP6.out.box
                exact ⟨by omega, by omega⟩
              · exact HP6.out.nM y h
            have HX8 := Lib.hid ((hb8.block Q (lt_of_block hx7)).trans hx7)
            have HY8 := Lib.hid (heap_alloc_new w7 (.cells #[.slice a0 len0 cap0, .slice N7 len0 nc7, .int .i64 (setW len0 xi wn)] 41))
            clear hn7 hN7 hb7 hx7 hb8 HBX HRS HP7 x0 x1 x2
            go_upto_region 13 with fail
            obtain ⟨W8, hW8⟩ : ∃ W, w7.alloc (.cells #[.slice a0 len0 cap0, .slice N7 len0 nc7, .int .i64 (setW len0 xi wn)] 41) = W := ⟨_, rfl⟩
            obtain ⟨Y, hY⟩ : ∃ Y, w7.heap.size = Y := ⟨_, rfl⟩
            rw [hW8] at HP8 HN8 HX8 HY8
            rw [hY] at HY8
            rw [hW8, hY]
            have HBX8 := Lib.hid HP8.out.box
            have HP9 := Lib.hid (HP8.out.setx (nc' := nc7) (x := setW len0 xi wn) HN8.out (by unfold setN; split <;> simp [HP6.out.mlen]) HNN.out)
            have hq9 : (W8.setRow X #[.slice a0 len0 cap0, .slice N7 len0 nc7, .int .i64 (setW len0 xi wn)]).heap[Q]? = some (.cells #[.int .i64 1, .int .i64 xi, .int .u32 (xv : Int)] 45 (0, 0)) := (setRow_other W8 X Q _ (by have := HGL.out.2.2; omega)).trans HX8.out
            have z1 := cell_of_row _ _ 1 _ _ _ hq9
            have z2 := cell_of_row _ _ 2 _ _ _ hq9
            simp only [List.getElem?_toArray, List.getElem?_cons_zero, List.getElem?_cons_succ] at z1 z2
            clear hq9 hW8 hY
            go_upto_region 14 with (first
              | ((with_reducible show wpList _ _ _ _ _ _); refine wpList_load_row rfl 41 (.tmp 11) rfl Y rfl 41 _ (0, 0) _ HY8.out Try.underlying41 rfl (by rw [size_rc]; rfl) ?_)
              | ((with_reducible show wpList _ _ _ _ _ _); (refine wpList_store_row rfl 41 (.tmp 8) (.tmp 56) rfl X #[.slice a0 len0 cap0, .slice N7 len0 nc7, .int .i64 (setW len0 xi wn)] rfl rfl 41 #[.slice a0 len0 cap0, .slice N len0 nc, .int .i64 wn] HBX8.out (by rw [size_rc]; rfl) rfl (by simp [Value.oneCell']) ?_)))
            obtain ⟨W9, hW9⟩ : ∃ W, W8.setRow X #[.slice a0 len0 cap0, .slice N7 len0 nc7, .int .i64 (setW len0 xi wn)] = W := ⟨_, rfl⟩
            rw [hW9] at HP9 z1 z2
            rw [hW9]
            clear hW9
            have HSC := Lib.hid (set_any g xi xv W9 HP9.out.one (by have := HW0.out; have := HLT.out; have := HN1.out; omega))
            obtain ⟨bs, hbs⟩ : ∃ b, inB len0 xi = b := ⟨_, rfl⟩
            rw [hbs] at HSC
            rw [hbs]
            have tbs := fresh_eq bs
            clear hbs
            go_wp2_with fail
            refine HSC.out.mono ?_
            rintro e wA ⟨rfl, hic, htw⟩
            have HPA := Lib.hid (HP9.out.first hic htw)
            clear hic htw HSC z1 z2
            go_wp2
            go_meet
            case rel => exact ⟨_, _, _, _, by have := HW0.out; have := setW_in len0 xi wn; omega, by have := HW0.out; have := setW_in len0 xi wn; omega, HPA.out⟩
          · have t1k : (xk == 1) = false := by simp [hk1]
            by_cases hk2 : xk = 2
            · subst hk2
              clear hk1
              go_wp2_with fail
              refine (cold_any g _ HP6.out.one (by have := HN0.out; omega)).mono ?_
              rintro e w7 ⟨rfl, hic, htw⟩
              have HP7 := Lib.hid (HP6.out.first hic htw)
              clear hic htw x0 x1 x2
              have HBX := Lib.hid HP7.out.box
              have HRS := Lib.hid (rstart_cold a0 N cap0 nc l ns len0 wn w7 (HCE.out.kept HP7.out.below) HP7.out.num HLL.out HP7.out.mlen (by have := HN0.out; omega))
              go_wp2_with (first
                | ((with_reducible show wpList _ _ _ _ _ _); refine wpList_load_row rfl 41 (.tmp 8) rfl X rfl 41 _ (0, 0) _ HBX.out Try.underlying41 rfl (by rw [size_rc]; rfl) ?_))
              refine HRS.out.mono ?_
              rintro e w8 ⟨N8, nc8, rfl, hn8, hN8, hb8⟩
              have HP8 := Lib.hid (HP7.out.keep hb8)
              have HBX8 := Lib.hid HP8.out.box
              have HNN : Hid (∀ y, N8 = some y → M ≤ y.block ∧ y.block ≠ X) := fun y hy => by
                have h := hN8 y hy
                have h1 := HP7.out.xM
                have h2 := lt_of_block HP7.out.box
                exact ⟨by omega, by omega⟩
              have HP9 := Lib.hid (HP8.out.setx (nc' := nc8) (x := 0) hn8 (by rw [startL_len _ _ _ (by rw [HLL.out, HP6.out.one.nlen])]; exact HP6.out.one.nlen) HNN.out)
              clear hn8 hN8 hb8 HBX HRS HNN HP7
              go_wp2_with ((with_reducible show wpList _ _ _ _ _ _); (refine wpList_store_row rfl 41 (.tmp 8) (.tmp 70) rfl X #[.slice a0 len0 cap0, .slice N8 len0 nc8, .int .i64 0] rfl rfl 41 #[.slice a0 len0 cap0, .slice N len0 nc, .int .i64 wn] HBX8.out (by rw [size_rc]; rfl) rfl (by simp [Value.oneCell']) ?_))
              go_meet
              case rel => exact ⟨_, _, _, _, Int.le_refl _, by omega, HP9.out⟩
            · have t2k : (xk == 2) = false := by simp [hk2]
              by_cases hk3 : xk = 3
              · subst hk3
                clear hk1 hk2
                go_wp2_with fail
                refine (warm_any g _ HP6.out.one (by have := HN0.out; omega)).mono ?_
                rintro e w7 ⟨rfl, hic, htw⟩
                have HP7 := Lib.hid (HP6.out.first hic htw)
                clear hic htw x0 x1 x2
                have HBX := Lib.hid HP7.out.box
                have HRS := Lib.hid (rstart_warm a0 N cap0 nc l ns len0 wn w7 (HCE.out.kept HP7.out.below) HP7.out.num HLL.out HP7.out.mlen (by have := HN0.out; omega))
                go_wp2_with (first
                  | ((with_reducible show wpList _ _ _ _ _ _); refine wpList_load_row rfl 41 (.tmp 8) rfl X rfl 41 _ (0, 0) _ HBX.out Try.underlying41 rfl (by rw [size_rc]; rfl) ?_))
                refine HRS.out.mono ?_
                rintro e w8 ⟨N8, nc8, rfl, hn8, hN8, hb8⟩
                have HP8 := Lib.hid (HP7.out.keep hb8)
                have HBX8 := Lib.hid HP8.out.box
                have HNN : Hid (∀ y, N8 = some y → M ≤ y.block ∧ y.block ≠ X) := fun y hy => by
                  have h := hN8 y hy
                  have h1 := HP7.out.xM
                  have h2 := lt_of_block HP7.out.box
                  exact ⟨by omega, by omega⟩
                have HP9 := Lib.hid (HP8.out.setx (nc' := nc8) (x := wn) hn8 (by rw [startL_len _ _ _ (by rw [HLL.out, HP6.out.one.nlen])]; exact HP6.out.one.nlen) HNN.out)
                clear hn8 hN8 hb8 HBX HRS HNN HP7
                go_wp2_with ((with_reducible show wpList _ _ _ _ _ _); (refine wpList_store_row rfl 41 (.tmp 8) (.tmp 76) rfl X #[.slice a0 len0 cap0, .slice N8 len0 nc8, .int .i64 wn] rfl rfl 41 #[.slice a0 len0 cap0, .slice N len0 nc, .int .i64 wn] HBX8.out (by rw [size_rc]; rfl) rfl (by simp [Value.oneCell']) ?_))
                go_meet
                case rel => exact ⟨_, _, _, _, HW0.out.1, by have := HW0.out.2; omega, HP9.out⟩
              · have t3k : (xk == 3) = false := by simp [hk3]
                clear hk1 hk2 hk3
                go_wp2
                go_meet
                case rel => exact ⟨_, _, _, _, HW0.out.1, by have := HW0.out.2; omega, HP6.out⟩
        case rest =>
        obtain ⟨N, nc, ns, wn, hw0, hwk, hp⟩ := hcut
        have HP7 := Lib.hid hp
        have HW7 : Hid (0 ≤ wn ∧ wn ≤ ((k + 1 : Nat) : Int)) := ⟨hw0, hwk⟩
        have HNL := Lib.hid hp.mlen
        clear hp hw0 hwk HP6 HX6 HGL HW0 x0 x1 x2
        go_wp2_with fail
        go_loopw [13, 79] (fun f i wr => FrRel l ns len0 wc f i wr) (fun _ i _ => len0 - (intOf i).toNat)
        case atStart => exact ⟨0, true, Nat.zero_le _, rfl, rfl, ⟨fun _ j x v hj => by omega, fun _ => rfl⟩, 0, rfl⟩
        case round =>
          obtain ⟨j, b, hj, rfl, rfl, hfr, q, rfl⟩ := hrel
          have HFR := Lib.hid hfr
          clear hfr
          by_cases hlt : j < len0
          · obtain ⟨x, hx⟩ : ∃ x, l[j]? = some x := ⟨_, List.getElem?_eq_getElem (by rw [HLL.out]; exact hlt)⟩
            obtain ⟨v, hv⟩ : ∃ v, ns[j]? = some v := ⟨_, List.getElem?_eq_getElem (by rw [HNL.out]; exact hlt)⟩
            obtain ⟨y, rfl, e1, -⟩ := (HCE.out.kept (HP7.out.drewN q).below) j x hx
            obtain ⟨z, rfl, e2⟩ := (HP7.out.drewN q).num j v hv
            have d1 := (HP7.out.drewN q).cells.2.1
            have HX := Lib.hid hx
            have HV := Lib.hid hv
            have HJL := Lib.hid hlt
            have hjb : (j : Int) < len0 := by omega
            have hji : (0 : Int) ≤ j := by omega
            have hj1 : IntKind.i64.wrap ((j : Int) + 1) = (j : Int) + 1 := IntWalk.i64_in _ (by have := HN0.out; omega)
            obtain ⟨xv, xk⟩ := x
            dsimp only at e1
            obtain ⟨W, hW⟩ : ∃ W, wc.drewN q = W := ⟨_, rfl⟩
            have HW := Lib.hid hW
            rw [hW] at e1 e2 d1
            rw [hW]
            clear hx hv hlt hj hW
            cases b with
            | false =>
              go_wp2
              go_quiet (fail)
              go_wp2
              go_roundw
              case rel => exact ⟨j + 1, false, HJL.out, by go_num, rfl, ⟨fun h => (by cases h), fun h => absurd h (fr_less (fun h2 => by have := HFR.out.2 h2; cases this))⟩, q + nq, by rw [← HW.out]; exact World.drewN_drewN _ _ _⟩
              case measure => have := HJL.out; simp [intOf]; omega
            | true =>
              by_cases hq : xv = v
              · have tb : ((v : Int) == (xv : Int)) = true := by simp [hq]
                have HQ := Lib.hid hq
                clear hq
                go_wp2
                go_quiet (fail)
                go_wp2
                go_roundw
                case rel => exact ⟨j + 1, true, HJL.out, by go_num, rfl, ⟨fun _ => fr_yes (by first | exact HFR.out.1 rfl | exact HFR.out.1 trivial) HX.out HV.out HQ.out, fun _ => rfl⟩, q + nq, by rw [← HW.out]; exact World.drewN_drewN _ _ _⟩
                case measure => have := HJL.out; simp [intOf]; omega
              · have tb : ((v : Int) == (xv : Int)) = false := by simp; omega
                have HQ : Hid (xv ≠ v) := hq
                clear hq
                go_wp2
                go_quiet (fail)
                go_wp2
                go_roundw
                case rel => exact ⟨j + 1, false, HJL.out, by go_num, rfl, ⟨fun h => (by cases h), fun h => absurd h (fr_no HX.out HV.out HQ.out)⟩, q + nq, by rw [← HW.out]; exact World.drewN_drewN _ _ _⟩
                case measure => have := HJL.out; simp [intOf]; omega
          · obtain rfl : j = len0 := by omega
            have hbf := fresh_iff HLL.out HNL.out HFR.out
            have HPD := Lib.hid (HP7.out.drewN q)
            have HGET := Lib.hid (get_any g a2 _ HPD.out.one)
            have HALL := Lib.hid (fun (W : World) (h : PW w M ⟨g, FA, fc, A, c⟩ (.slice a0 j cap0) X N nc l ns ns j wn wn W) => all_any g W h.one (by have := HN0.out; omega))
            have HSAM : Hid (∀ (D : Option Addr) (dc : Nat) (W : World), NumsAt W D ns → PW w M ⟨g, FA, fc, A, c⟩ (.slice a0 j cap0) X N nc l ns ns j wn wn W → Calls Try.prog 23 #[.slice D j dc, .slice N j nc] W fun e w' => e = .returned (.bool true) ∧ ∃ q, w' = W.drewN q) := fun D dc W h1 h2 => by
              have h := rsame_any D N dc nc j ns ns W h1 h2.num h2.mlen h2.mlen (by have := HN0.out; omega)
              rw [show decide (ns = ns) = true from decide_eq_true rfl] at h
              exact h
            have HFRS := Lib.hid (fun (W : World) (h : PW w M ⟨g, FA, fc, A, c⟩ (.slice a0 j cap0) X N nc l ns ns j wn wn W) => fresh_any g W h.one (by have := HN0.out; omega))
            rw [← hbf] at HFRS
            have tbf := fresh_eq b
            obtain ⟨W8, hW8⟩ : ∃ W, wc.drewN q = W := ⟨_, rfl⟩
            rw [hW8] at HPD HGET
            rw [hW8]
            clear hW8 hbf hlt hj HFR HP7
            have HAT : Hid ((a2 < 0 ∧ inB j a2 = false) ∨ ((j : Int) ≤ a2 ∧ inB j a2 = false) ∨ (∃ t v : Nat, a2 = t ∧ t < j ∧ ns[t]? = some v ∧ gvN j a2 ns = v ∧ inB j a2 = true)) := by
              by_cases h0 : a2 < 0
              · exact .inl ⟨h0, decide_eq_false (by omega)⟩
              · by_cases h1 : (j : Int) ≤ a2
                · exact .inr (.inl ⟨h1, decide_eq_false (by omega)⟩)
                · obtain ⟨t, rfl⟩ : ∃ t : Nat, a2 = t := ⟨a2.toNat, by omega⟩
                  have htl : t < ns.length := by rw [HNL.out]; omega
                  have hv : ns[t]? = some ns[t] := List.getElem?_eq_getElem htl
                  have e : inB j (t : Int) = true := decide_eq_true (by omega)
                  exact .inr (.inr ⟨t, ns[t], rfl, by omega, hv, by unfold gvN; rw [e, Int.toNat_natCast]; simp [List.getD, hv], e⟩)
            go_wp2_with fail
            refine HGET.out.mono ?_
            rintro e w' ⟨rfl, rfl⟩
            have HP8 := Lib.hid (HPD.out.drewN 1)
            obtain ⟨d0, d1, d2⟩ := HPD.out.cells
            rcases HAT.out with ⟨ha, hin⟩ | ⟨ha, hin⟩ | ⟨t, v, rfl, htl, hv, hgv, hin⟩
            · have hg0 : gvN j a2 ns = 0 := by unfold gvN; rw [hin]; rfl
              rw [hg0, hin]
              have ta : decide ((0 : Int) ≤ a2) = false := decide_eq_false (by omega)
              clear ha hin hg0 HAT
              go_upto_region 33 with fail
              go_region_held3 (fun wx => wx.cell? ⟨X, 1, none⟩ = some (.slice N j nc) ∧ wx.cell? ⟨X, 2, none⟩ = some (.int .i64 wn))
                (first | exact HKP.out | (refine ⟨?_, ?_⟩ <;> assumption) | (go_keep; done))
                (first
                  | (go_at_call 24; refine (HALL.out _ HP8.out).mono ?_; rintro e wA ⟨V, rfl, ho, hb⟩; obtain ⟨D, dc, rfl⟩ := own_slice ho; have HPA := Lib.hid (HP8.out.keep hb); have HVA := Lib.hid (own_nums ho HPA.out.one.nlen).1; have HKP := Lib.hid HPA.out.cells.2; clear ho hb)
                  | (go_at_call 23; refine (HSAM.out _ _ _ HVA.out HPA.out).mono ?_; rintro e wB ⟨rfl, hq⟩; have HPB : Hid (PW w M ⟨g, FA, fc, A, c⟩ (.slice a0 j cap0) X N nc l ns ns j wn wn wB) := (by obtain ⟨q, rfl⟩ := hq; exact HPA.out.drewN q); clear HKP; have HKP := Lib.hid HPB.out.cells.2; clear hq)
                  | (go_at_call 25; refine (len_any g _ HPB.out.one).mono ?_; rintro e w' ⟨rfl, rfl⟩)
                  | (go_at_call 26; refine (writes_any g _ HPB.out.one).mono ?_; rintro e w' ⟨rfl, rfl⟩)
                  | (go_at_call 27; refine (HFRS.out _ HPB.out).mono ?_; rintro e wC ⟨rfl, hb⟩; have HPC := Lib.hid (HPB.out.keep hb); clear HKP; have HKP := Lib.hid HPC.out.cells.2; clear hb))
              all_goals
                have hk1 := HK1.out
                clear HKP
                go_wp2
                go_roundw
                case rel => exact ⟨k + 1, N, nc, ns, wn, HLT.out, by go_num, HW7.out.1, HW7.out.2, HPC.out⟩
                case measure => have := HLT.out; simp [intOf]; omega
            · have hg0 : gvN j a2 ns = 0 := by unfold gvN; rw [hin]; rfl
              rw [hg0, hin]
              have ta : decide ((0 : Int) ≤ a2) = true := decide_eq_true (by omega)
              have tb : decide (a2 < (j : Int)) = false := decide_eq_false (by omega)
              clear ha hin hg0 HAT
              go_upto_region 33 with fail
              go_region_held3 (fun wx => wx.cell? ⟨X, 1, none⟩ = some (.slice N j nc) ∧ wx.cell? ⟨X, 2, none⟩ = some (.int .i64 wn))
                (first | exact HKP.out | (refine ⟨?_, ?_⟩ <;> assumption) | (go_keep; done))
                (first
                  | (go_at_call 24; refine (HALL.out _ HP8.out).mono ?_; rintro e wA ⟨V, rfl, ho, hb⟩; obtain ⟨D, dc, rfl⟩ := own_slice ho; have HPA := Lib.hid (HP8.out.keep hb); have HVA := Lib.hid (own_nums ho HPA.out.one.nlen).1; have HKP := Lib.hid HPA.out.cells.2; clear ho hb)
                  | (go_at_call 23; refine (HSAM.out _ _ _ HVA.out HPA.out).mono ?_; rintro e wB ⟨rfl, hq⟩; have HPB : Hid (PW w M ⟨g, FA, fc, A, c⟩ (.slice a0 j cap0) X N nc l ns ns j wn wn wB) := (by obtain ⟨q, rfl⟩ := hq; exact HPA.out.drewN q); clear HKP; have HKP := Lib.hid HPB.out.cells.2; clear hq)
                  | (go_at_call 25; refine (len_any g _ HPB.out.one).mono ?_; rintro e w' ⟨rfl, rfl⟩)
                  | (go_at_call 26; refine (writes_any g _ HPB.out.one).mono ?_; rintro e w' ⟨rfl, rfl⟩)
                  | (go_at_call 27; refine (HFRS.out _ HPB.out).mono ?_; rintro e wC ⟨rfl, hb⟩; have HPC := Lib.hid (HPB.out.keep hb); clear HKP; have HKP := Lib.hid HPC.out.cells.2; clear hb))
              all_goals
                have hk1 := HK1.out
                clear HKP
                go_wp2
                go_roundw
                case rel => exact ⟨k + 1, N, nc, ns, wn, HLT.out, by go_num, HW7.out.1, HW7.out.2, HPC.out⟩
                case measure => have := HLT.out; simp [intOf]; omega
            · rw [hgv, hin]
              obtain ⟨z, rfl, e2⟩ := HPD.out.num t v hv
              have ta : decide ((0 : Int) ≤ (t : Int)) = true := decide_eq_true (by omega)
              have tb : decide ((t : Int) < (j : Int)) = true := decide_eq_true (by omega)
              have tbn : decide (t < j) = true := decide_eq_true htl
              have ht0 : (0 : Int) ≤ t := by omega
              have htj : (t : Int) < j := by omega
              clear htl hv hgv hin HAT
              go_upto_region 33 with fail
              clear e2
              go_region_held3 (fun wx => wx.cell? ⟨X, 1, none⟩ = some (.slice (some z) j nc) ∧ wx.cell? ⟨X, 2, none⟩ = some (.int .i64 wn))
                (first | exact HKP.out | (refine ⟨?_, ?_⟩ <;> assumption) | (go_keep; done))
                (first
                  | (go_at_call 24; refine (HALL.out _ HP8.out).mono ?_; rintro e wA ⟨V, rfl, ho, hb⟩; obtain ⟨D, dc, rfl⟩ := own_slice ho; have HPA := Lib.hid (HP8.out.keep hb); have HVA := Lib.hid (own_nums ho HPA.out.one.nlen).1; have HKP := Lib.hid HPA.out.cells.2; clear ho hb)
                  | (go_at_call 23; refine (HSAM.out _ _ _ HVA.out HPA.out).mono ?_; rintro e wB ⟨rfl, hq⟩; have HPB : Hid (PW w M ⟨g, FA, fc, A, c⟩ (.slice a0 j cap0) X (some z) nc l ns ns j wn wn wB) := (by obtain ⟨q, rfl⟩ := hq; exact HPA.out.drewN q); clear HKP; have HKP := Lib.hid HPB.out.cells.2; clear hq)
                  | (go_at_call 25; refine (len_any g _ HPB.out.one).mono ?_; rintro e w' ⟨rfl, rfl⟩)
                  | (go_at_call 26; refine (writes_any g _ HPB.out.one).mono ?_; rintro e w' ⟨rfl, rfl⟩)
                  | (go_at_call 27; refine (HFRS.out _ HPB.out).mono ?_; rintro e wC ⟨rfl, hb⟩; have HPC := Lib.hid (HPB.out.keep hb); clear HKP; have HKP := Lib.hid HPC.out.cells.2; clear hb))
              all_goals
                have hk1 := HK1.out
                clear HKP
                go_wp2
                go_roundw
                case rel => exact ⟨k + 1, some z, nc, ns, wn, HLT.out, by go_num, HW7.out.1, HW7.out.2, HPC.out⟩
                case measure => have := HLT.out; simp [intOf]; omega
      · obtain rfl : k = len1 := by omega
        clear hlt hk
        have HALL := Lib.hid (fun (W : World) (h : PW w M ⟨g, FA, fc, A, c⟩ (.slice a0 len0 cap0) X N nc l ns ns len0 wn wn W) => all_any g W h.one (by have := HN0.out; omega))
        have HSAM : Hid (∀ (D : Option Addr) (dc : Nat) (W : World), NumsAt W D ns → PW w M ⟨g, FA, fc, A, c⟩ (.slice a0 len0 cap0) X N nc l ns ns len0 wn wn W → Calls Try.prog 23 #[.slice D len0 dc, .slice N len0 nc] W fun e w' => e = .returned (.bool true) ∧ ∃ q, w' = W.drewN q) := fun D dc W h1 h2 => by
          have h := rsame_any D N dc nc len0 ns ns W h1 h2.num h2.mlen h2.mlen (by have := HN0.out; omega)
          rw [show decide (ns = ns) = true from decide_eq_true rfl] at h
          exact h
        go_wp2_with fail
        refine (copy_any g _ HP5.out.one (by have := HN0.out; omega)).mono ?_
        rintro e w6 ⟨g', FA', fc', A', c', rfl, hd, hb6⟩
        have HD6 := Lib.hid hd
        have HP6 := Lib.hid (HP5.out.keep hb6)
        have HB6 := Lib.hid hb6
        clear hd hb6
        go_wp2_with fail
        refine (same_any g g' _ HP6.out.one HD6.out (by have := HN0.out; omega)).mono ?_
        rintro e w7 ⟨rfl, q7, hq7⟩
        rw [show decide (ns = ns) = true from decide_eq_true rfl]
        have HD7 : Hid (IsC w7 wr.heap.size g' FA' fc' l A' c' ns len0 wn) := by rw [hq7]; exact HD6.out.drewN q7
        have HB7 : Hid (Below wr.heap.size wr w7) := by rw [hq7]; exact HB6.out.trans ⟨rfl, rfl, rfl, Nat.le_refl _, fun _ _ => rfl⟩
        clear hq7 HD6 HB6 HP6
        go_wp2_with fail
        refine (set_any g' 0 12345 _ HD7.out (by have := HW0.out; have := HN1.out; omega)).mono ?_
        rintro e w8 ⟨rfl, hd8, ht8⟩
        have HD8 := Lib.hid hd8
        have HB8 := Lib.hid (Two.below HB7.out ht8 HB7.out.size HD7.out.ge (fun a ha => (own_at HD7.out.own a ha).2.1))
        have HPW8 := Lib.hid (HP5.out.keep HB8.out)
        clear hd8 ht8 HD7 HB7 HP5
        by_cases hz : 0 < len0
        · have e1 : inB len0 0 = true := decide_eq_true ⟨Int.le_refl _, by omega⟩
          have hss := set_same HPW8.out.mlen hz
          obtain ⟨v0, hv0⟩ : ∃ v, gvN len0 0 ns = v := ⟨_, rfl⟩
          obtain ⟨bq, hbq⟩ : ∃ b, ((v0 : Int) == 12345) = b := ⟨_, rfl⟩
          have HGT := Lib.hid (get_any g 0 w8 HPW8.out.one)
          have HSM := Lib.hid (same_any g g' w8 HPW8.out.one HD8.out (by have := HN0.out; omega))
          rw [hv0, hbq] at hss
          rw [hv0] at HGT
          rw [hss] at HSM
          have HBQ := Lib.hid hbq
          have tbq := fresh_eq bq
          rw [e1]
          clear hz e1 hss hv0 hbq
          go_wp2_with fail
          refine HGT.out.mono ?_
          rintro e w' ⟨rfl, rfl⟩
          go_wp2_with fail
          refine HSM.out.mono ?_
          rintro e w9 ⟨rfl, q9, hq9⟩
          have HP9 : Hid (PW w M ⟨g, FA, fc, A, c⟩ (.slice a0 len0 cap0) X N nc l ns ns len0 wn wn w9) := by rw [hq9]; exact HPW8.out.drewN q9
          have HP8 := Lib.hid (HP9.out.drewN 1)
          obtain ⟨d0, d1, d2⟩ := HP9.out.cells
          have hbq := HBQ.out
          clear hq9 HPW8 HGT HSM HD8 HB8
          go_upto_region 43 with fail
          go_region_held3 (fun wx => wx.cell? ⟨X, 1, none⟩ = some (.slice N len0 nc))
            (first | exact HKP.out | assumption | (go_keep; done))
            (first
              | (go_at_call 24; refine (HALL.out _ HP8.out).mono ?_; rintro e wA ⟨V, rfl, ho, hb⟩; obtain ⟨D, dc, rfl⟩ := own_slice ho; have HPA := Lib.hid (HP8.out.keep hb); have HVA := Lib.hid (own_nums ho HPA.out.one.nlen).1; have HKP := Lib.hid HPA.out.cells.2.1; clear ho hb)
              | (go_at_call 23; refine (HSAM.out _ _ _ HVA.out HPA.out).mono ?_; rintro e wB ⟨rfl, hq⟩; have HPB : Hid (PW w M ⟨g, FA, fc, A, c⟩ (.slice a0 len0 cap0) X N nc l ns ns len0 wn wn wB) := (by obtain ⟨q, rfl⟩ := hq; exact HPA.out.drewN q); clear HKP; have HKP := Lib.hid HPB.out.cells.2.1; clear hq)
              | (go_at_call 14; refine (awake_any _).mono ?_; rintro e wD ⟨rfl, hb⟩; have HPD := Lib.hid (HPB.out.keep hb); clear HKP; have HKP := Lib.hid HPD.out.cells.2.1; clear hb))
          all_goals
            clear HKP
            go_wp2
            go_ret
            exact ⟨rfl, HPD.out.below⟩
        · have e1 : inB len0 0 = false := decide_eq_false (by omega)
          rw [e1]
          have HP8 := Lib.hid (HPW8.out.drewN 1)
          obtain ⟨d0, d1, d2⟩ := HPW8.out.cells
          clear hz e1 HD8 HB8
          go_upto_region 43 with fail
          go_region_held3 (fun wx => wx.cell? ⟨X, 1, none⟩ = some (.slice N len0 nc))
            (first | exact HKP.out | assumption | (go_keep; done))
            (first
              | (go_at_call 24; refine (HALL.out _ HP8.out).mono ?_; rintro e wA ⟨V, rfl, ho, hb⟩; obtain ⟨D, dc, rfl⟩ := own_slice ho; have HPA := Lib.hid (HP8.out.keep hb); have HVA := Lib.hid (own_nums ho HPA.out.one.nlen).1; have HKP := Lib.hid HPA.out.cells.2.1; clear ho hb)
              | (go_at_call 23; refine (HSAM.out _ _ _ HVA.out HPA.out).mono ?_; rintro e wB ⟨rfl, hq⟩; have HPB : Hid (PW w M ⟨g, FA, fc, A, c⟩ (.slice a0 len0 cap0) X N nc l ns ns len0 wn wn wB) := (by obtain ⟨q, rfl⟩ := hq; exact HPA.out.drewN q); clear HKP; have HKP := Lib.hid HPB.out.cells.2.1; clear hq)
              | (go_at_call 14; refine (awake_any _).mono ?_; rintro e wD ⟨rfl, hb⟩; have HPD := Lib.hid (HPB.out.keep hb); clear HKP; have HKP := Lib.hid HPD.out.cells.2.1; clear hb))
          all_goals
            clear HKP
            go_wp2
            go_ret
            exact ⟨rfl, HPD.out.below⟩

end Go.Proofs.Ytnmcmeifbnpdaaa.cellsPlays
