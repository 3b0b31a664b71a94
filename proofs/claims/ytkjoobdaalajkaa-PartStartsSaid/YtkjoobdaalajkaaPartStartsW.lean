
/- The function PartStarts returns true for every partition and every slice of calls. Condition: none. This text: the walk through the Go text; the row is in the text without the W at its name's end. -/

import Derived.Test.YtkjoobdaalajkaaArgs

import Derived.Test.YtkjoobdaalajkaaPtG

import Derived.Deep.RegionHeld3

namespace Go.Proofs.Ytkjoobdaalajkaa.partStarts

open Go.RowKit Go.PlainAid Go.Proofs.Ytkjoobdaalajkaa.Args

set_option linter.unusedVariables false

open Go.Proofs.Ytkjoobdaalajkaa.Cel Go.Proofs.Ytkjoobdaalajkaa.Pt

open Go.Proofs.Ytkjoobdaalajkaa.Mod (askN startN setM setS actN actM actS)

set_option linter.unusedSimpArgs false

def SsRel (w : World) (lo hi : Nat) (d : PD) (s : PK) (n : Nat) (u v i : Value) (W : World) : Prop :=
  ∃ (k : Nat) (m st ca : Int) (ns : List Nat) (wr : Int), k ≤ n ∧ i = .int .i64 (k : Int) ∧ u = .int .i64 st ∧ v = .int .i64 ca ∧ Bd m st wr (k + 1) ∧ IsP W lo hi d s m st ca ns wr ∧ Below w.heap.size w W
theorem sets_yes {m i : Int} (h : askN m i = 0) (hi : i = 1 ∨ i = 2) (st ca : Int) : goN (setS m i) st = st + 1 ∧ goC (setS m i) 1 ca = 1 := by
  have e : goes (setS m i) = true := by
    unfold setS startN goes
    rw [if_pos h]
    rcases hi with rfl | rfl <;> decide
  unfold goN goC
  rw [e]
  exact ⟨rfl, rfl⟩
theorem sets_no {m i : Int} (h : askN m i ≠ 0 ∨ (i ≠ 1 ∧ i ≠ 2)) (st ca : Int) : goN (setS m i) st = st ∧ goC (setS m i) 1 ca = ca := by
  have e : setS m i = 0 := by
    unfold setS startN
    by_cases h0 : askN m i = 0
    · rw [if_pos h0, if_neg (by omega), if_neg (by omega)]
    · rw [if_neg h0]
  rw [e]
  exact ⟨rfl, rfl⟩
set_option maxRecDepth 8000 in
set_option maxHeartbeats 12800000 in
theorem walk (a0 : Array Value) (a1 : Option Addr) (len1 cap1 : Nat) (w : World) (w0 : IsAgg w [.one (.int .i64), .one (.string), .one (.bool), .recs [.int .u32, .bool]] a0) (w1 : IsRecs w a1 len1 cap1 [.int .i64, .int .i64, .int .u32]) :
    Calls Try.prog 5 #[.agg a0, .slice a1 len1 cap1] w fun e w' => e = .returned (.bool true) ∧ Below w.heap.size w w' := by
  obtain ⟨s, a, cap, rfl, hcells, hfl, hnil, hcap, hcm⟩ := part_of w0
  obtain ⟨ol1, hol1, hops1⟩ := ops_of w1
  have HOL1 := Lib.hid hol1
  have HOP1 := Lib.hid hops1
  have HCE := Lib.hid hcells
  have HFL := Lib.hid hfl
  have hb0 : Below w.heap.size w (w.alloc (.cells #[.int .i64 s.id, .string s.nm, .bool s.may, .slice a s.n cap] 24)) := (Below.refl _ _).alloc (Nat.le_refl _) _
  have hr0 := heap_alloc_new w (.cells #[.int .i64 s.id, .string s.nm, .bool s.may, .slice a s.n cap] 24)
  obtain ⟨W, hW⟩ : ∃ W, w.alloc (.cells #[.int .i64 s.id, .string s.nm, .bool s.may, .slice a s.n cap] 24) = W := ⟨_, rfl⟩
  rw [hW] at hb0 hr0
  have HW := Lib.hid hW
  have HB := Lib.hid hb0
  have HR := Lib.hid hr0
  have r3 := cell_of_row _ _ 3 _ _ _ hr0
  simp only [List.getElem?_toArray, List.getElem?_cons_zero, List.getElem?_cons_succ] at r3
  clear hcells hW hb0 hr0 w0 hol1 hops1 w1
  by_cases hb : 40 < s.n ∨ 100 < len1
  · have hcase : decide (40 < (s.n : Int)) = true ∨ (decide (40 < (s.n : Int)) = false ∧ decide (100 < (len1 : Int)) = true) := by
      rcases Nat.lt_or_ge 40 s.n with h | h
      · exact .inl (decide_eq_true (by omega))
      · exact .inr ⟨decide_eq_false (by omega), decide_eq_true (by omega)⟩
    clear hb hnil hcap hcm hfl
    rcases hcase with t0 | ⟨t0, t1⟩
    all_goals
      go_enter Try.func5, Try.ntmps5
      go_upto_region 1 with fail
      rw [HW.out]
      go_wp2_with (go_at_call 9; refine (awake_any _).mono ?_; rintro e w' ⟨rfl, hbel⟩)
      go_ret
      exact ⟨rfl, HB.out.trans (hbel.mono HB.out.size)⟩
  · have t0 : decide (40 < (s.n : Int)) = false := decide_eq_false (by omega)
    have t1 : decide (100 < (len1 : Int)) = false := decide_eq_false (by omega)
    have HN : Hid (s.n ≤ 1000) := by show _ ≤ _; omega
    have HN1 : Hid (len1 ≤ 100) := by show _ ≤ _; omega
    have HNEW := Lib.hid (new_part s.id s.nm s.may a cap s.fs s.n W (HCE.out.kept HB.out) hnil hcap hfl (by omega))
    clear hb hnil hcap hcm hfl
    go_enter Try.func5, Try.ntmps5
    go_upto_region 1 with fail
    rw [HW.out]
    go_wp2_with ((with_reducible show wpList _ _ _ _ _ _); refine wpList_load_row rfl 24 (.tmp 2) rfl w.heap.size rfl 24 _ (0, 0) _ HR.out Try.underlying24 rfl size_ap ?_)
    refine HNEW.out.mono ?_
    rintro e w2 ⟨d, rfl, hp2, hb2⟩
    have HP2 := Lib.hid hp2
    have HB2 := Lib.hid (HB.out.trans (hb2.mono HB.out.size))
    have HLO : Hid (w.heap.size ≤ W.heap.size) := HB.out.size
    obtain ⟨lo, hlo⟩ : ∃ lo, W.heap.size = lo := ⟨_, rfl⟩
    obtain ⟨hi, hhi⟩ : ∃ hi, w2.heap.size = hi := ⟨_, rfl⟩
    rw [hlo, hhi] at HP2
    rw [hlo] at HLO
    clear hp2 hb2 HNEW r3 hlo hhi HW HB HR
    go_wp2_with fail
    go_loopw [6, 7, 26] (fun u v i wr => SsRel w lo hi d s len1 u v i wr) (fun u v i _ => len1 - (intOf i).toNat)
    case atStart => exact ⟨0, 1, 1, 0, _, 0, Nat.zero_le _, rfl, rfl, rfl, ⟨by omega, by omega, by omega⟩, HP2.out, HB2.out⟩
    case round =>
      rename World => W5
      obtain ⟨k, m, st, ca, ns, wr, hk, rfl, rfl, rfl, hbd, hp, hbw⟩ := hrel
      have HP5 := Lib.hid hp
      have HBD := Lib.hid hbd
      have HW5 := Lib.hid hbw
      clear hp hbd hbw HP2 HB2
      by_cases hlt : k < len1
      · obtain ⟨x, hx⟩ : ∃ x, ol1[k]? = some x := ⟨_, List.getElem?_eq_getElem (by rw [HOL1.out]; exact hlt)⟩
        obtain ⟨y, rfl, e1, e2, e3⟩ := (HOP1.out.kept HW5.out) k x hx
        have HLT := Lib.hid hlt
        have hkb : (k : Int) < len1 := by omega
        have hki : (0 : Int) ≤ k := by omega
        have HK1 : Hid (IntKind.i64.wrap ((k : Int) + 1) = (k : Int) + 1) := IntWalk.i64_in _ (by have := HN1.out; omega)
        have tst : IntKind.i64.wrap (st + 1) = st + 1 := IntWalk.i64_in _ (by have := HN1.out; have := HBD.out.2.1; omega)
        obtain ⟨xk, xi, xv⟩ := x
        dsimp only at e1 e2 e3
        have hb5 : Below W5.heap.size W5 (W5.alloc (.cells #[.int .i64 xk, .int .i64 xi, .int .u32 (xv : Int)] 37)) := (Below.refl _ _).alloc (Nat.le_refl _) _
        have hp6 := HP5.out.keep hb5
        have hw6 := HW5.out.trans (hb5.mono HW5.out.size)
        have hx6 := heap_alloc_new W5 (.cells #[.int .i64 xk, .int .i64 xi, .int .u32 (xv : Int)] 37)
        clear hlt hk hx
        go_upto_region 10 with fail
        obtain ⟨W6, hW6⟩ : ∃ W, W5.alloc (.cells #[.int .i64 xk, .int .i64 xi, .int .u32 (xv : Int)] 37) = W := ⟨_, rfl⟩
        obtain ⟨Q, hQ⟩ : ∃ Q, W5.heap.size = Q := ⟨_, rfl⟩
        have HQH : Hid (hi ≤ Q) := by show _ ≤ _; rw [← hQ]; exact HP5.out.hs
        rw [hW6] at hx6 hp6 hb5 hw6
        rw [hQ] at hx6
        rw [hW6, hQ]
        have HX6 := Lib.hid hx6
        have HP6 := Lib.hid hp6
        have HW6 := Lib.hid hw6
        have HPD := Lib.hid (hp6.drewN 1)
        have HBS : Hid (0 ≤ st ∧ st ≤ 1000000) := ⟨HBD.out.2.1.1, by have := HBD.out.2.1.2; have := HN1.out; omega⟩
        have x0 := cell_of_row _ _ 0 _ _ _ hx6
        have x1 := cell_of_row _ _ 1 _ _ _ hx6
        have x2 := cell_of_row _ _ 2 _ _ _ hx6
        simp only [List.getElem?_toArray, List.getElem?_cons_zero, List.getElem?_cons_succ] at x0 x1 x2
        have HCX : Hid (∀ w', Rng lo hi W6 w' → w'.cell? ⟨Q, 1, none⟩ = some (.int .i64 xi) ∧ w'.cell? ⟨Q, 2, none⟩ = some (.int .u32 (xv : Int))) := fun w' hr => by
          have h := (hr.block Q (lt_of_block HX6.out) (.inr HQH.out)).trans HX6.out
          exact ⟨by rw [cell_of_row _ _ _ _ _ _ h]; rfl, by rw [cell_of_row _ _ _ _ _ _ h]; rfl⟩
        have HDR : Hid (Rng lo hi W6 (W6.drewN 1)) := ⟨rfl, rfl, rfl, Nat.le_refl _, fun _ _ _ => rfl⟩
        clear hx6 hp6 hb5 hw6 hW6 hQ e1 e2 e3 HP5 HW5
        by_cases hk1 : xk = 1
        · subst hk1
          have HSM := Lib.hid (setmode_any HPD.out HN.out HBS.out xi)
          have HYY : Hid (askN m xi = 0 → (xi = 1 ∨ xi = 2) → goN (setS m xi) st = st + 1 ∧ goC (setS m xi) 1 ca = 1) := fun h1 h2 => sets_yes h1 h2 st ca
          have HYN : Hid ((askN m xi ≠ 0 ∨ (xi ≠ 1 ∧ xi ≠ 2)) → goN (setS m xi) st = st ∧ goC (setS m xi) 1 ca = ca) := fun h => sets_no h st ca
          have HBM : Hid (Bd (setM m xi) (goN (setS m xi) st) (goW (setS m xi) wr) (k + 1 + 1)) := ⟨setM_in HBD.out.1, goN_in HBD.out.2.1, goW_in HBD.out.2.2⟩
          obtain ⟨kk, hkk⟩ : ∃ x, askN m xi = x := ⟨_, rfl⟩
          obtain ⟨M, hM⟩ : ∃ x, setM m xi = x := ⟨_, rfl⟩
          obtain ⟨S1, hS1⟩ : ∃ x, goN (setS m xi) st = x := ⟨_, rfl⟩
          obtain ⟨C1, hC1⟩ : ∃ x, goC (setS m xi) 1 ca = x := ⟨_, rfl⟩
          obtain ⟨L1, hL1⟩ : ∃ x, goL (setS m xi) s.fs ns = x := ⟨_, rfl⟩
          obtain ⟨U1, hU1⟩ : ∃ x, goW (setS m xi) wr = x := ⟨_, rfl⟩
          rw [hkk, hM, hS1, hC1, hL1, hU1] at HSM
          rw [hkk, hS1, hC1] at HYY HYN
          rw [hM, hS1, hU1] at HBM
          clear hkk hM hS1 hC1 hL1 hU1
          by_cases hq : kk = 0 ∧ (xi = 1 ∨ xi = 2)
          · obtain ⟨g1, g2⟩ := HYY.out hq.1 hq.2
            obtain ⟨h1, h2⟩ := hq
            subst h1 g1 g2
            clear HYY HYN
            rcases h2 with rfl | rfl
            · skip
              go_upto_region 13 with fail
              refine wp_region_any (by kernel_rfl) ?_
              try (change wpAny _ _ _ _ _ _ _ (World.drew _))
              have xd1 : (W6.drew).cell? ⟨Q, 1, none⟩ = some (.int .i64 1) := x1
              refine wpAny_take (i := 0) (v := ?_) rfl (by kernel_rfl) (by kernel_rfl) (by kernel_rfl) (fun _ _ _ h => h) (Or.inl ⟨by kernel_rfl, ?_⟩) ?_
              rotate_left
              · intro w; go_simp <;> with_reducible rfl
              refine wpAny_take (i := 1) (v := ?_) rfl (by kernel_rfl) (by kernel_rfl) (by kernel_rfl) (fun _ _ _ h => h) (Or.inl ⟨by kernel_rfl, ?_⟩) ?_
              rotate_left
              · intro w; go_simp <;> with_reducible rfl
              refine wpAny_take (i := 2) (v := ?_) rfl (by kernel_rfl) (by kernel_rfl) (by kernel_rfl) (fun _ _ _ h => h) (Or.inl ⟨by kernel_rfl, ?_⟩) ?_
              rotate_left
              · intro w; go_simp <;> with_reducible rfl
              refine wpAny_take (i := 3) (v := ?_) rfl (by kernel_rfl) (by kernel_rfl) (by kernel_rfl) (fun _ _ _ h => h) (Or.inl ⟨by kernel_rfl, ?_⟩) ?_
              rotate_left
              · intro w; go_simp <;> with_reducible rfl
              refine wpAny_ready (rs := [4]) (by kernel_rfl) (by simp) ?_
              refine AllReady.cons rfl (fun K hK => ?_) AllReady.nil
              go_simp
              refine hK _ _ ?_; clear hK K
              refine wpAny_ready (rs := [5]) (by kernel_rfl) (by simp) ?_
              refine AllReady.cons rfl (fun K hK => ?_) AllReady.nil
              go_simp
              go_wp2_with (go_at_call 23; refine HSM.out.mono ?_; rintro e w7 ⟨rfl, hp7, hr7⟩; have HP7 := Lib.hid hp7; have HR7 := Lib.hid (HDR.out.trans hr7); have p1 := (HCX.out _ HR7.out).1; clear hp7 hr7)
              refine wpAny_ready (rs := [6]) (by kernel_rfl) (by simp) ?_
              refine AllReady.cons rfl (fun K hK => ?_) AllReady.nil
              go_simp
              refine hK _ _ ?_; clear hK K
              refine wpAny_ready (rs := [7]) (by kernel_rfl) (by simp) ?_
              refine AllReady.cons rfl (fun K hK => ?_) AllReady.nil
              go_simp
              refine hK _ _ ?_; clear hK K
              refine wpAny_ready (rs := [8]) (by kernel_rfl) (by simp) ?_
              refine AllReady.cons rfl (fun K hK => ?_) AllReady.nil
              go_simp
              refine hK _ _ ?_; clear hK K
              refine wpAny_ready (rs := [9]) (by kernel_rfl) (by simp) ?_
              refine AllReady.cons rfl (fun K hK => ?_) AllReady.nil
              go_simp
              refine hK _ _ ?_; clear hK K
              refine wpAny_ready (rs := [10]) (by kernel_rfl) (by simp) ?_
              refine AllReady.cons rfl (fun K hK => ?_) AllReady.nil
              go_simp
              refine hK _ _ ?_; clear hK K
              refine wpAny_ready (rs := [11]) (by kernel_rfl) (by simp) ?_
              refine AllReady.cons rfl (fun K hK => ?_) AllReady.nil
              go_simp
              refine hK _ _ ?_; clear hK K
              refine wpAny_ready (rs := [12]) (by kernel_rfl) (by simp) ?_
              refine AllReady.cons rfl (fun K hK => ?_) AllReady.nil
              go_simp
              refine hK _ _ ?_; clear hK K
              refine wpAny_ready (rs := [13]) (by kernel_rfl) (by simp) ?_
              refine AllReady.cons rfl (fun K hK => ?_) AllReady.nil
              go_simp
              refine hK _ _ ?_; clear hK K
              refine wpAny_ready (rs := [14]) (by kernel_rfl) (by simp) ?_
              refine AllReady.cons rfl (fun K hK => ?_) AllReady.nil
              go_simp
              refine hK _ _ ?_; clear hK K
              refine wpAny_ready (rs := [15]) (by kernel_rfl) (by simp) ?_
              refine AllReady.cons rfl (fun K hK => ?_) AllReady.nil
              go_simp
              refine hK _ _ ?_; clear hK K
              refine wpAny_ready (rs := [16]) (by kernel_rfl) (by simp) ?_
              refine AllReady.cons rfl (fun K hK => ?_) AllReady.nil
              go_simp
              refine hK _ _ ?_; clear hK K
              refine wpAny_done (by kernel_rfl) ?_ _
              all_goals
                clear x0 x1 x2
                have HBN := HBM
                have HPN := HP7
                have HWN := Lib.hid (Rng.below HW6.out HR7.out HW6.out.size HLO.out)
                have hk1 := HK1.out
                obtain ⟨c0, c1, c2, c3, c4, c5, c6⟩ := HPN.out.cells
                go_wp2_with fail
                refine (starts_any HPN.out).mono ?_
                rintro e w8 ⟨rfl, rfl⟩
                go_wp2_with fail
                refine (cause_any HPN.out).mono ?_
                rintro e w9 ⟨rfl, rfl⟩
                go_wp2
                go_roundw
                case rel => exact ⟨k + 1, _, _, _, _, _, HLT.out, by go_num, by first | rfl | go_num, by first | rfl | go_num, HBN.out, HPN.out, HWN.out⟩
                case measure => have := HLT.out; simp [intOf]; omega
            · skip
              go_upto_region 13 with fail
              refine wp_region_any (by kernel_rfl) ?_
              try (change wpAny _ _ _ _ _ _ _ (World.drew _))
              have xd1 : (W6.drew).cell? ⟨Q, 1, none⟩ = some (.int .i64 2) := x1
              refine wpAny_take (i := 0) (v := ?_) rfl (by kernel_rfl) (by kernel_rfl) (by kernel_rfl) (fun _ _ _ h => h) (Or.inl ⟨by kernel_rfl, ?_⟩) ?_
              rotate_left
              · intro w; go_simp <;> with_reducible rfl
              refine wpAny_take (i := 1) (v := ?_) rfl (by kernel_rfl) (by kernel_rfl) (by kernel_rfl) (fun _ _ _ h => h) (Or.inl ⟨by kernel_rfl, ?_⟩) ?_
              rotate_left
              · intro w; go_simp <;> with_reducible rfl
              refine wpAny_take (i := 2) (v := ?_) rfl (by kernel_rfl) (by kernel_rfl) (by kernel_rfl) (fun _ _ _ h => h) (Or.inl ⟨by kernel_rfl, ?_⟩) ?_
              rotate_left
              · intro w; go_simp <;> with_reducible rfl
              refine wpAny_take (i := 3) (v := ?_) rfl (by kernel_rfl) (by kernel_rfl) (by kernel_rfl) (fun _ _ _ h => h) (Or.inl ⟨by kernel_rfl, ?_⟩) ?_
              rotate_left
              · intro w; go_simp <;> with_reducible rfl
              refine wpAny_ready (rs := [4]) (by kernel_rfl) (by simp) ?_
              refine AllReady.cons rfl (fun K hK => ?_) AllReady.nil
              go_simp
              refine hK _ _ ?_; clear hK K
              refine wpAny_ready (rs := [5]) (by kernel_rfl) (by simp) ?_
              refine AllReady.cons rfl (fun K hK => ?_) AllReady.nil
              go_simp
              go_wp2_with (go_at_call 23; refine HSM.out.mono ?_; rintro e w7 ⟨rfl, hp7, hr7⟩; have HP7 := Lib.hid hp7; have HR7 := Lib.hid (HDR.out.trans hr7); have p1 := (HCX.out _ HR7.out).1; clear hp7 hr7)
              refine wpAny_ready (rs := [6]) (by kernel_rfl) (by simp) ?_
              refine AllReady.cons rfl (fun K hK => ?_) AllReady.nil
              go_simp
              refine hK _ _ ?_; clear hK K
              refine wpAny_ready (rs := [7]) (by kernel_rfl) (by simp) ?_
              refine AllReady.cons rfl (fun K hK => ?_) AllReady.nil
              go_simp
              refine hK _ _ ?_; clear hK K
              refine wpAny_ready (rs := [8]) (by kernel_rfl) (by simp) ?_
              refine AllReady.cons rfl (fun K hK => ?_) AllReady.nil
              go_simp
              refine hK _ _ ?_; clear hK K
              refine wpAny_ready (rs := [9]) (by kernel_rfl) (by simp) ?_
              refine AllReady.cons rfl (fun K hK => ?_) AllReady.nil
              go_simp
              refine hK _ _ ?_; clear hK K
              refine wpAny_ready (rs := [10]) (by kernel_rfl) (by simp) ?_
              refine AllReady.cons rfl (fun K hK => ?_) AllReady.nil
              go_simp
              refine hK _ _ ?_; clear hK K
              refine wpAny_ready (rs := [11]) (by kernel_rfl) (by simp) ?_
              refine AllReady.cons rfl (fun K hK => ?_) AllReady.nil
              go_simp
              refine hK _ _ ?_; clear hK K
              refine wpAny_ready (rs := [12]) (by kernel_rfl) (by simp) ?_
              refine AllReady.cons rfl (fun K hK => ?_) AllReady.nil
              go_simp
              refine hK _ _ ?_; clear hK K
              refine wpAny_ready (rs := [13]) (by kernel_rfl) (by simp) ?_
              refine AllReady.cons rfl (fun K hK => ?_) AllReady.nil
              go_simp
              refine hK _ _ ?_; clear hK K
              refine wpAny_ready (rs := [14]) (by kernel_rfl) (by simp) ?_
              refine AllReady.cons rfl (fun K hK => ?_) AllReady.nil
              go_simp
              refine hK _ _ ?_; clear hK K
              refine wpAny_ready (rs := [15]) (by kernel_rfl) (by simp) ?_
              refine AllReady.cons rfl (fun K hK => ?_) AllReady.nil
              go_simp
              refine hK _ _ ?_; clear hK K
              refine wpAny_ready (rs := [16]) (by kernel_rfl) (by simp) ?_
              refine AllReady.cons rfl (fun K hK => ?_) AllReady.nil
              go_simp
              refine hK _ _ ?_; clear hK K
              refine wpAny_done (by kernel_rfl) ?_ _
              all_goals
                clear x0 x1 x2
                have HBN := HBM
                have HPN := HP7
                have HWN := Lib.hid (Rng.below HW6.out HR7.out HW6.out.size HLO.out)
                have hk1 := HK1.out
                obtain ⟨c0, c1, c2, c3, c4, c5, c6⟩ := HPN.out.cells
                go_wp2_with fail
                refine (starts_any HPN.out).mono ?_
                rintro e w8 ⟨rfl, rfl⟩
                go_wp2_with fail
                refine (cause_any HPN.out).mono ?_
                rintro e w9 ⟨rfl, rfl⟩
                go_wp2
                go_roundw
                case rel => exact ⟨k + 1, _, _, _, _, _, HLT.out, by go_num, by first | rfl | go_num, by first | rfl | go_num, HBN.out, HPN.out, HWN.out⟩
                case measure => have := HLT.out; simp [intOf]; omega
          · have hcase : ((kk == 0) = false) ∨ (kk = 0 ∧ (xi == 1) = false ∧ (xi == 2) = false) := by
              by_cases h0 : kk = 0
              · right
                refine ⟨h0, ?_, ?_⟩
                · simp; intro e; exact hq ⟨h0, .inl e⟩
                · simp; intro e; exact hq ⟨h0, .inr e⟩
              · left; simp [h0]
            obtain ⟨g1, g2⟩ := HYN.out (by
              by_cases h0 : kk = 0
              · exact .inr ⟨fun e => hq ⟨h0, .inl e⟩, fun e => hq ⟨h0, .inr e⟩⟩
              · exact .inl h0)
            subst g1 g2
            clear HYY HYN hq
            rcases hcase with t2 | ⟨rfl, t2, t3⟩
            all_goals
              go_upto_region 13 with fail
              refine wp_region_any (by kernel_rfl) ?_
              try (change wpAny _ _ _ _ _ _ _ (World.drew _))
              have xd1 : (W6.drew).cell? ⟨Q, 1, none⟩ = some (.int .i64 xi) := x1
              refine wpAny_take (i := 0) (v := ?_) rfl (by kernel_rfl) (by kernel_rfl) (by kernel_rfl) (fun _ _ _ h => h) (Or.inl ⟨by kernel_rfl, ?_⟩) ?_
              rotate_left
              · intro w; go_simp <;> with_reducible rfl
              refine wpAny_take (i := 1) (v := ?_) rfl (by kernel_rfl) (by kernel_rfl) (by kernel_rfl) (fun _ _ _ h => h) (Or.inl ⟨by kernel_rfl, ?_⟩) ?_
              rotate_left
              · intro w; go_simp <;> with_reducible rfl
              refine wpAny_take (i := 2) (v := ?_) rfl (by kernel_rfl) (by kernel_rfl) (by kernel_rfl) (fun _ _ _ h => h) (Or.inl ⟨by kernel_rfl, ?_⟩) ?_
              rotate_left
              · intro w; go_simp <;> with_reducible rfl
              refine wpAny_take (i := 3) (v := ?_) rfl (by kernel_rfl) (by kernel_rfl) (by kernel_rfl) (fun _ _ _ h => h) (Or.inl ⟨by kernel_rfl, ?_⟩) ?_
              rotate_left
              · intro w; go_simp <;> with_reducible rfl
              refine wpAny_ready (rs := [4]) (by kernel_rfl) (by simp) ?_
              refine AllReady.cons rfl (fun K hK => ?_) AllReady.nil
              go_simp
              refine hK _ _ ?_; clear hK K
              refine wpAny_ready (rs := [5]) (by kernel_rfl) (by simp) ?_
              refine AllReady.cons rfl (fun K hK => ?_) AllReady.nil
              go_simp
              go_wp2_with (go_at_call 23; refine HSM.out.mono ?_; rintro e w7 ⟨rfl, hp7, hr7⟩; have HP7 := Lib.hid hp7; have HR7 := Lib.hid (HDR.out.trans hr7); have p1 := (HCX.out _ HR7.out).1; clear hp7 hr7)
              refine wpAny_ready (rs := [6]) (by kernel_rfl) (by simp) ?_
              refine AllReady.cons rfl (fun K hK => ?_) AllReady.nil
              go_simp
              refine hK _ _ ?_; clear hK K
              refine wpAny_ready (rs := [7]) (by kernel_rfl) (by simp) ?_
              refine AllReady.cons rfl (fun K hK => ?_) AllReady.nil
              go_simp
              refine hK _ _ ?_; clear hK K
              refine wpAny_ready (rs := [8]) (by kernel_rfl) (by simp) ?_
              refine AllReady.cons rfl (fun K hK => ?_) AllReady.nil
              go_simp
              refine hK _ _ ?_; clear hK K
              refine wpAny_ready (rs := [9]) (by kernel_rfl) (by simp) ?_
              refine AllReady.cons rfl (fun K hK => ?_) AllReady.nil
              go_simp
              refine hK _ _ ?_; clear hK K
              refine wpAny_ready (rs := [10]) (by kernel_rfl) (by simp) ?_
              refine AllReady.cons rfl (fun K hK => ?_) AllReady.nil
              go_simp
              refine hK _ _ ?_; clear hK K
              refine wpAny_ready (rs := [11]) (by kernel_rfl) (by simp) ?_
              refine AllReady.cons rfl (fun K hK => ?_) AllReady.nil
              go_simp
              refine hK _ _ ?_; clear hK K
              refine wpAny_ready (rs := [12]) (by kernel_rfl) (by simp) ?_
              refine AllReady.cons rfl (fun K hK => ?_) AllReady.nil
              go_simp
              refine hK _ _ ?_; clear hK K
              refine wpAny_ready (rs := [13]) (by kernel_rfl) (by simp) ?_
              refine AllReady.cons rfl (fun K hK => ?_) AllReady.nil
              go_simp
              refine hK _ _ ?_; clear hK K
              refine wpAny_ready (rs := [14]) (by kernel_rfl) (by simp) ?_
              refine AllReady.cons rfl (fun K hK => ?_) AllReady.nil
              go_simp
              refine hK _ _ ?_; clear hK K
              refine wpAny_ready (rs := [15]) (by kernel_rfl) (by simp) ?_
              refine AllReady.cons rfl (fun K hK => ?_) AllReady.nil
              go_simp
              refine hK _ _ ?_; clear hK K
              refine wpAny_ready (rs := [16]) (by kernel_rfl) (by simp) ?_
              refine AllReady.cons rfl (fun K hK => ?_) AllReady.nil
              go_simp
              refine hK _ _ ?_; clear hK K
              refine wpAny_done (by kernel_rfl) ?_ _
              all_goals
                clear x0 x1 x2
                have HBN := HBM
                have HPN := HP7
                have HWN := Lib.hid (Rng.below HW6.out HR7.out HW6.out.size HLO.out)
                have hk1 := HK1.out
                obtain ⟨c0, c1, c2, c3, c4, c5, c6⟩ := HPN.out.cells
                go_wp2_with fail
                refine (starts_any HPN.out).mono ?_
                rintro e w8 ⟨rfl, rfl⟩
                go_wp2_with fail
                refine (cause_any HPN.out).mono ?_
                rintro e w9 ⟨rfl, rfl⟩
                go_wp2
                go_roundw
                case rel => exact ⟨k + 1, _, _, _, _, _, HLT.out, by go_num, by first | rfl | go_num, by first | rfl | go_num, HBN.out, HPN.out, HWN.out⟩
                case measure => have := HLT.out; simp [intOf]; omega
        · have t2 : (xk == 1) = false := by simp [hk1]
          by_cases hk4 : xk = 4
          · subst hk4
            have HSM := Lib.hid (act_any HPD.out HN.out HBS.out xi)
            have HBM : Hid (Bd (actM m xi) (goN (actS m xi) st) (goW (actS m xi) wr) (k + 1 + 1)) := ⟨actM_in HBD.out.1, goN_in HBD.out.2.1, goW_in HBD.out.2.2⟩
            have HYY : Hid (goN (actS m xi) st = (if goes (actS m xi) then st + 1 else st) ∧ goC (actS m xi) 2 ca = (if goes (actS m xi) then 2 else ca)) := ⟨rfl, rfl⟩
            obtain ⟨kk, hkk⟩ : ∃ x, goes (actS m xi) = x := ⟨_, rfl⟩
            obtain ⟨M, hM⟩ : ∃ x, actM m xi = x := ⟨_, rfl⟩
            obtain ⟨S1, hS1⟩ : ∃ x, goN (actS m xi) st = x := ⟨_, rfl⟩
            obtain ⟨C1, hC1⟩ : ∃ x, goC (actS m xi) 2 ca = x := ⟨_, rfl⟩
            obtain ⟨L1, hL1⟩ : ∃ x, goL (actS m xi) s.fs ns = x := ⟨_, rfl⟩
            obtain ⟨U1, hU1⟩ : ∃ x, goW (actS m xi) wr = x := ⟨_, rfl⟩
            rw [hkk, hM, hS1, hC1, hL1, hU1] at HSM
            rw [hkk, hS1, hC1] at HYY
            rw [hM, hS1, hU1] at HBM
            clear hkk hM hS1 hC1 hL1 hU1 hk1
            cases kk with
            | true =>
              obtain ⟨g1, g2⟩ : S1 = st + 1 ∧ C1 = 2 := HYY.out
              subst g1 g2
              clear HYY
              go_upto_region 16 with fail
              go_region_held3 (fun wx => wx.cell? ⟨Q, 1, none⟩ = some (.int .i64 xi))
                (first | assumption | (go_keep; done))
                (first
                  | (go_at_call 24; refine HSM.out.mono ?_; rintro e w7 ⟨rfl, hp7, hr7⟩; have HP7 := Lib.hid hp7; have HR7 := Lib.hid (HDR.out.trans hr7); have p1 := (HCX.out _ HR7.out).1; clear hp7 hr7))
              all_goals
                clear x0 x1 x2
                have HBN := HBM
                have HPN := HP7
                have HWN := Lib.hid (Rng.below HW6.out HR7.out HW6.out.size HLO.out)
                have hk1 := HK1.out
                obtain ⟨c0, c1, c2, c3, c4, c5, c6⟩ := HPN.out.cells
                go_wp2_with fail
                refine (starts_any HPN.out).mono ?_
                rintro e w8 ⟨rfl, rfl⟩
                go_wp2_with fail
                refine (cause_any HPN.out).mono ?_
                rintro e w9 ⟨rfl, rfl⟩
                go_wp2
                go_roundw
                case rel => exact ⟨k + 1, _, _, _, _, _, HLT.out, by go_num, by first | rfl | go_num, by first | rfl | go_num, HBN.out, HPN.out, HWN.out⟩
                case measure => have := HLT.out; simp [intOf]; omega
            | false =>
              obtain ⟨g1, g2⟩ : S1 = st ∧ C1 = ca := HYY.out
              subst g1 g2
              clear HYY
              go_upto_region 16 with fail
              go_region_held3 (fun wx => wx.cell? ⟨Q, 1, none⟩ = some (.int .i64 xi))
                (first | assumption | (go_keep; done))
                (first
                  | (go_at_call 24; refine HSM.out.mono ?_; rintro e w7 ⟨rfl, hp7, hr7⟩; have HP7 := Lib.hid hp7; have HR7 := Lib.hid (HDR.out.trans hr7); have p1 := (HCX.out _ HR7.out).1; clear hp7 hr7))
              all_goals
                clear x0 x1 x2
                have HBN := HBM
                have HPN := HP7
                have HWN := Lib.hid (Rng.below HW6.out HR7.out HW6.out.size HLO.out)
                have hk1 := HK1.out
                obtain ⟨c0, c1, c2, c3, c4, c5, c6⟩ := HPN.out.cells
                go_wp2_with fail
                refine (starts_any HPN.out).mono ?_
                rintro e w8 ⟨rfl, rfl⟩
                go_wp2_with fail
                refine (cause_any HPN.out).mono ?_
                rintro e w9 ⟨rfl, rfl⟩
                go_wp2
                go_roundw
                case rel => exact ⟨k + 1, _, _, _, _, _, HLT.out, by go_num, by first | rfl | go_num, by first | rfl | go_num, HBN.out, HPN.out, HWN.out⟩
                case measure => have := HLT.out; simp [intOf]; omega
          · have t4 : (xk == 4) = false := by simp [hk4]
            have HSM := Lib.hid (write_any HPD.out HBD.out.1 ⟨HBD.out.2.2.1, by have := HBD.out.2.2.2; have := HN1.out; omega⟩ xi xv)
            have HBM : Hid (Bd m st (wW m s.n xi wr) (k + 1 + 1)) := ⟨HBD.out.1, HBD.out.more.2.1, wW_in HBD.out.2.2⟩
            clear hk1 hk4
            go_upto_region 11 with fail
            go_region_held3 (fun wx => wx.cell? ⟨Q, 1, none⟩ = some (.int .i64 xi) ∧ wx.cell? ⟨Q, 2, none⟩ = some (.int .u32 (xv : Int)))
              (first | exact HKP.out | (refine ⟨?_, ?_⟩ <;> assumption) | (go_keep; done))
              (first
                | (go_at_call 25; refine HSM.out.mono ?_; rintro e w7 ⟨rfl, hp7, hr7⟩; have HP7 := Lib.hid hp7; have HR7 := Lib.hid (HDR.out.trans hr7); have HKP := Lib.hid (HCX.out _ HR7.out); clear hp7 hr7))
            all_goals
              clear x0 x1 x2
              have HBN := HBM
              have HPN := HP7
              have HWN := Lib.hid (Rng.below HW6.out HR7.out HW6.out.size HLO.out)
              have hk1 := HK1.out
              obtain ⟨c0, c1, c2, c3, c4, c5, c6⟩ := HPN.out.cells
              go_wp2_with fail
              refine (starts_any HPN.out).mono ?_
              rintro e w8 ⟨rfl, rfl⟩
              go_wp2_with fail
              refine (cause_any HPN.out).mono ?_
              rintro e w9 ⟨rfl, rfl⟩
              go_wp2
              go_roundw
              case rel => exact ⟨k + 1, _, _, _, _, _, HLT.out, by go_num, by first | rfl | go_num, by first | rfl | go_num, HBN.out, HPN.out, HWN.out⟩
              case measure => have := HLT.out; simp [intOf]; omega
      · obtain rfl : k = len1 := by omega
        clear hlt hk
        go_wp2_with fail
        refine (awake_any _).mono ?_
        rintro e w6 ⟨rfl, hb6⟩
        have HB6 := Lib.hid (HW5.out.trans (hb6.mono HW5.out.size))
        clear hb6
        go_wp2
        go_ret
        exact ⟨rfl, HB6.out⟩

end Go.Proofs.Ytkjoobdaalajkaa.partStarts
