
/- The function PartIdle returns true for every partition and every two slices of calls. Condition: none. This text: the walk through the Go text; the row is in the text without the W at its name's end. -/

import Derived.Test.YtkjoobdaalajkaaArgs

import Derived.Test.YtkjoobdaalajkaaPtG

import Derived.Deep.RegionHeld3

namespace Go.Proofs.Ytkjoobdaalajkaa.partIdle

open Go.RowKit Go.PlainAid Go.Proofs.Ytkjoobdaalajkaa.Args

set_option linter.unusedVariables false

open Go.Proofs.Ytkjoobdaalajkaa.Cel Go.Proofs.Ytkjoobdaalajkaa.Pt

open Go.Proofs.Ytkjoobdaalajkaa.Mod (askN startN setM setS actN actM actS)

set_option linter.unusedSimpArgs false

def IaRel (w : World) (lo hi : Nat) (d : PD) (s : PK) (a : Option Addr) (cap Y n : Nat) (i : Value) (W : World) : Prop :=
  ∃ (k : Nat) (m st ca : Int) (ns : List Nat) (wr m2 st2 ca2 : Int) (ns2 : List Nat) (wr2 : Int) (N : Option Addr) (nc : Nat), k ≤ n ∧ i = .int .i64 (k : Int) ∧ Bd m st wr (k + 1) ∧ Bd m2 st2 wr2 (k + 1) ∧ PX w w.heap.size lo hi d s a cap Y m st ca ns wr N ns2 #[.int .i64 s.id, .string s.nm, .bool s.may, .slice a s.n cap, .int .i64 m2, .int .i64 st2, .int .i64 ca2, .slice a s.n cap, .slice N s.n nc, .int .i64 wr2] W
def IbRel (w : World) (lo hi : Nat) (d : PD) (s : PK) (a : Option Addr) (cap Y n Z : Nat) (V : Option Addr) (vc : Nat) (st ca : Int) (ns : List Nat) (i : Value) (W : World) : Prop :=
  ∃ (k : Nat) (wr m2 st2 ca2 : Int) (ns2 : List Nat) (wr2 : Int) (N : Option Addr) (nc : Nat), k ≤ n ∧ i = .int .i64 (k : Int) ∧ Bd 0 st wr (k + 100) ∧ Bd m2 st2 wr2 (k + 100) ∧ PX w w.heap.size lo hi d s a cap Y 0 st ca ns wr N ns2 #[.int .i64 s.id, .string s.nm, .bool s.may, .slice a s.n cap, .int .i64 m2, .int .i64 st2, .int .i64 ca2, .slice a s.n cap, .slice N s.n nc, .int .i64 wr2] W ∧ NumsAt W V ns ∧ W.heap[Z]? = some (.cells #[.int .i64 s.id, .int .i64 0, .int .i64 st, .int .i64 ca, .slice V s.n vc] 42 (0, 0))
set_option maxRecDepth 8000 in
set_option maxHeartbeats 12800000 in
theorem walk (a0 : Array Value) (a1 : Option Addr) (len1 cap1 : Nat) (a2 : Option Addr) (len2 cap2 : Nat) (w : World) (w0 : IsAgg w [.one (.int .i64), .one (.string), .one (.bool), .recs [.int .u32, .bool]] a0) (w1 : IsRecs w a1 len1 cap1 [.int .i64, .int .i64, .int .u32]) (w2 : IsRecs w a2 len2 cap2 [.int .i64, .int .i64, .int .u32]) :
    Calls Try.prog 4 #[.agg a0, .slice a1 len1 cap1, .slice a2 len2 cap2] w fun e w' => e = .returned (.bool true) ∧ Below w.heap.size w w' := by
  obtain ⟨s, a, cap, rfl, hcells, hfl, hnil, hcap, hcm⟩ := part_of w0
  obtain ⟨ol1, hol1, hops1⟩ := ops_of w1
  have HOL1 := Lib.hid hol1
  have HOP1 := Lib.hid hops1
  obtain ⟨ol2, hol2, hops2⟩ := ops_of w2
  have HOL2 := Lib.hid hol2
  have HOP2 := Lib.hid hops2
  have HCE := Lib.hid hcells
  have HFL := Lib.hid hfl
  have hb0 : Below w.heap.size w (w.alloc (.cells #[.int .i64 s.id, .string s.nm, .bool s.may, .slice a s.n cap] 24)) := (Below.refl _ _).alloc (Nat.le_refl _) _
  have hr0 := heap_alloc_new w (.cells #[.int .i64 s.id, .string s.nm, .bool s.may, .slice a s.n cap] 24)
  obtain ⟨W, hW⟩ : ∃ W, w.alloc (.cells #[.int .i64 s.id, .string s.nm, .bool s.may, .slice a s.n cap] 24) = W := ⟨_, rfl⟩
  rw [hW] at hb0 hr0
  have HW := Lib.hid hW
  have HB := Lib.hid hb0
  have HR := Lib.hid hr0
  have r3 := cell_of_row _ _ 3 _ _ _ hr0
  simp only [List.getElem?_toArray, List.getElem?_cons_zero, List.getElem?_cons_succ] at r3
  clear hcells hW hb0 hr0 w0 hol1 hops1 w1 hol2 hops2 w2
  by_cases hb : 40 < s.n ∨ 60 < len2 ∨ 60 < len1
  · have hcase : decide (40 < (s.n : Int)) = true ∨ (decide (40 < (s.n : Int)) = false ∧ decide (60 < (len2 : Int)) = true) ∨ (decide (40 < (s.n : Int)) = false ∧ decide (60 < (len2 : Int)) = false ∧ decide (60 < (len1 : Int)) = true) := by
      rcases Nat.lt_or_ge 40 s.n with h | h
      · exact .inl (decide_eq_true (by omega))
      · rcases Nat.lt_or_ge 60 len2 with h2 | h2
        · exact .inr (.inl ⟨decide_eq_false (by omega), decide_eq_true (by omega)⟩)
        · exact .inr (.inr ⟨decide_eq_false (by omega), decide_eq_false (by omega), decide_eq_true (by omega)⟩)
    clear hb hnil hcap hcm hfl
    rcases hcase with t0 | ⟨t0, t1⟩ | ⟨t0, t1, t2⟩
    all_goals
      go_enter Try.func4, Try.ntmps4
      go_upto_region 1 with fail
      rw [HW.out]
      go_wp2_with (go_at_call 9; refine (awake_any _).mono ?_; rintro e w' ⟨rfl, hbel⟩)
      go_ret
      exact ⟨rfl, HB.out.trans (hbel.mono HB.out.size)⟩
  · have t0 : decide (40 < (s.n : Int)) = false := decide_eq_false (by omega)
    have t1 : decide (60 < (len2 : Int)) = false := decide_eq_false (by omega)
    have t2 : decide (60 < (len1 : Int)) = false := decide_eq_false (by omega)
    have HN : Hid (s.n ≤ 1000) := by show _ ≤ _; omega
    have HN1 : Hid (len1 ≤ 60) := by show _ ≤ _; omega
    have HN2 : Hid (len2 ≤ 60) := by show _ ≤ _; omega
    have HNEW := Lib.hid (new_part s.id s.nm s.may a cap s.fs s.n W (HCE.out.kept HB.out) hnil hcap hfl (by omega))
    have HRNW := Lib.hid (fun (W' : World) (b : Below w.heap.size w W') => rnewp_any s.id s.nm s.may a cap s.fs s.n W' (HCE.out.kept b) hfl (by omega))
    clear hb hnil hcap hcm hfl
    go_enter Try.func4, Try.ntmps4
    go_upto_region 1 with fail
    rw [HW.out]
    go_wp2_with ((with_reducible show wpList _ _ _ _ _ _); refine wpList_load_row rfl 24 (.tmp 3) rfl w.heap.size rfl 24 _ (0, 0) _ HR.out Try.underlying24 rfl size_ap ?_)
    refine HNEW.out.mono ?_
    rintro e w2 ⟨d, rfl, hp2, hb2⟩
    have HP2 := Lib.hid hp2
    have HR2 := Lib.hid ((hb2.block _ (lt_of_block HR.out)).trans HR.out)
    have HB2 := Lib.hid (HB.out.trans (hb2.mono HB.out.size))
    clear hp2 hb2 HNEW r3
    go_wp2_with ((with_reducible show wpList _ _ _ _ _ _); refine wpList_load_row rfl 24 (.tmp 3) rfl w.heap.size rfl 24 _ (0, 0) _ HR2.out Try.underlying24 rfl size_ap ?_)
    refine (HRNW.out _ HB2.out).mono ?_
    rintro e w3 ⟨N, nc, rfl, hn3, hN3, hb3⟩
    have hbx : Below w3.heap.size w3 (w3.alloc (.cells #[.int .i64 s.id, .string s.nm, .bool s.may, .slice a s.n cap, .int .i64 1, .int .i64 1, .int .i64 0, .slice a s.n cap, .slice N s.n nc, .int .i64 0] 33)) := (Below.refl _ _).alloc (Nat.le_refl _) _
    have HPX : Hid (PX w w.heap.size W.heap.size w2.heap.size d s a cap w3.heap.size 1 1 0 (s.fs.map C2.v) 0 N (s.fs.map C2.v) #[.int .i64 s.id, .string s.nm, .bool s.may, .slice a s.n cap, .int .i64 1, .int .i64 1, .int .i64 0, .slice a s.n cap, .slice N s.n nc, .int .i64 0] (w3.alloc (.cells #[.int .i64 s.id, .string s.nm, .bool s.may, .slice a s.n cap, .int .i64 1, .int .i64 1, .int .i64 0, .slice a s.n cap, .slice N s.n nc, .int .i64 0] 33))) := by
      refine ⟨(HP2.out.keep hb3).keep hbx, hn3.kept hbx, by rw [List.length_map]; exact HFL.out, fun hq y hy => ?_, heap_alloc_new _ _, ((hbx.block _ (Nat.lt_of_lt_of_le (lt_of_block HR2.out) hb3.size)).trans (hb3.block _ (lt_of_block HR2.out))).trans HR2.out, (HB2.out.trans (hb3.mono HB2.out.size)).trans (hbx.mono (Nat.le_trans HB2.out.size hb3.size)), hb3.size, lt_of_block HR.out, Nat.le_refl _⟩
      rcases hN3 y hy with h | h
      · have h2 := NumsAt.lt hn3 hq y hy
        exact ⟨h, by omega⟩
      · cases h
    clear hn3 hN3 hb3 hbx HP2 HR2 HB2 HRNW
    go_upto_region 7 with fail
    obtain ⟨W4, hW4⟩ : ∃ W, w3.alloc (.cells #[.int .i64 s.id, .string s.nm, .bool s.may, .slice a s.n cap, .int .i64 1, .int .i64 1, .int .i64 0, .slice a s.n cap, .slice N s.n nc, .int .i64 0] 33) = W := ⟨_, rfl⟩
    obtain ⟨Y, hY⟩ : ∃ Y, w3.heap.size = Y := ⟨_, rfl⟩
    obtain ⟨lo, hlo⟩ : ∃ lo, W.heap.size = lo := ⟨_, rfl⟩
    obtain ⟨hi, hhi⟩ : ∃ hi, w2.heap.size = hi := ⟨_, rfl⟩
    rw [hW4, hY, hlo, hhi] at HPX
    rw [hW4, hY]
    clear hW4 hY hlo hhi HW HB HR
    go_wp2_with fail
    go_loopw [37] (fun i wr => IaRel w lo hi d s a cap Y len1 i wr) (fun i _ => len1 - (intOf i).toNat)
    case atStart => exact ⟨0, 1, 1, 0, _, 0, 1, 1, 0, _, 0, N, nc, Nat.zero_le _, rfl, ⟨by omega, by omega, by omega⟩, ⟨by omega, by omega, by omega⟩, HPX.out⟩
    case round =>
      rename World => W5
      obtain ⟨k, m, st, ca, ns, wr, m2, st2, ca2, ns2, wr2, N, nc, hk, rfl, hbd, hbd2, hp⟩ := hrel
      have HP5 := Lib.hid hp
      have HBD := Lib.hid hbd
      have HB2D := Lib.hid hbd2
      clear hp hbd hbd2 HPX
      by_cases hlt : k < len1
      · obtain ⟨x, hx⟩ : ∃ x, ol1[k]? = some x := ⟨_, List.getElem?_eq_getElem (by rw [HOL1.out]; exact hlt)⟩
        obtain ⟨y, rfl, e1, e2, e3⟩ := (HOP1.out.kept HP5.out.below) k x hx
        have HLT := Lib.hid hlt
        have hkb : (k : Int) < len1 := by omega
        have hki : (0 : Int) ≤ k := by omega
        have HK1 : Hid (IntKind.i64.wrap ((k : Int) + 1) = (k : Int) + 1) := IntWalk.i64_in _ (by have := HN1.out; omega)
        obtain ⟨xk, xi, xv⟩ := x
        dsimp only at e1 e2 e3
        have hb5 : Below W5.heap.size W5 (W5.alloc (.cells #[.int .i64 xk, .int .i64 xi, .int .u32 (xv : Int)] 37)) := (Below.refl _ _).alloc (Nat.le_refl _) _
        have hp6 := HP5.out.keep hb5
        have hx6 := heap_alloc_new W5 (.cells #[.int .i64 xk, .int .i64 xi, .int .u32 (xv : Int)] 37)
        clear hlt hk hx
        go_upto_region 10 with fail
        obtain ⟨W6, hW6⟩ : ∃ W, W5.alloc (.cells #[.int .i64 xk, .int .i64 xi, .int .u32 (xv : Int)] 37) = W := ⟨_, rfl⟩
        obtain ⟨Q, hQ⟩ : ∃ Q, W5.heap.size = Q := ⟨_, rfl⟩
        rw [hW6] at hx6 hp6 hb5
        rw [hQ] at hx6
        rw [hW6, hQ]
        have HX6 := Lib.hid hx6
        have HP6 := Lib.hid hp6
        have HON := Lib.hid (one_any (cap := cap) (nc := nc) (ca2 := ca2) W6 HP6.out.ip HP6.out.num HP6.out.nl HN.out (fun hq y hy => (HP6.out.nhi hq y hy).1) (HCE.out.kept HP6.out.below) HBD.out HB2D.out (by have := HLT.out; have := HN1.out; omega) xk xi xv)
        clear hx6 hp6 hb5 hW6 hQ e1 e2 e3 HP5
        go_wp2_with (first
          | ((with_reducible show wpList _ _ _ _ _ _); refine wpList_load_row rfl 33 (.tmp 8) rfl Y rfl 33 _ (0, 0) _ HP6.out.box Try.underlying33 rfl size_rp ?_)
          | ((with_reducible show wpList _ _ _ _ _ _); refine wpList_load_row rfl 37 (.tmp 10) rfl Q rfl 37 _ (0, 0) _ HX6.out Try.underlying37 rfl size_op ?_))
        refine HON.out.mono ?_
        rintro e w7 ⟨m', st', ca', ns', wr', m3, st3, ca3, ns3, wr3, bb, N', nc', rfl, f1, f2, f3, f4, f5, f6, f7, f8, f9, f10, f11⟩
        have HPB := Lib.hid (HP6.out.both f1 f2 f3 f4 f5 f6 f7)
        have HBD' := Lib.hid f8
        have HB2D' := Lib.hid f9
        clear f1 f2 f3 f4 f5 f6 f7 f8 f9 f10 f11 HON HP6 HX6
        have HPN := Lib.hid (HPB.out.setx #[.int .i64 s.id, .string s.nm, .bool s.may, .slice a s.n cap, .int .i64 m3, .int .i64 st3, .int .i64 ca3, .slice a s.n cap, .slice N' s.n nc', .int .i64 wr3])
        have hk1 := HK1.out
        go_wp2_with ((with_reducible show wpList _ _ _ _ _ _); refine wpList_store_row rfl 33 (.tmp 8) (.tmp 46) rfl Y #[.int .i64 s.id, .string s.nm, .bool s.may, .slice a s.n cap, .int .i64 m3, .int .i64 st3, .int .i64 ca3, .slice a s.n cap, .slice N' s.n nc', .int .i64 wr3] rfl rfl 33 #[.int .i64 s.id, .string s.nm, .bool s.may, .slice a s.n cap, .int .i64 m2, .int .i64 st2, .int .i64 ca2, .slice a s.n cap, .slice N s.n nc, .int .i64 wr2] HPB.out.box size_rp rfl (one_rp _ _ _ _ _ _ _ _ _ _ _ _ _ _ _) ?_)
        go_roundw
        case rel => exact ⟨k + 1, m', st', ca', ns', wr', m3, st3, ca3, ns3, wr3, N', nc', HLT.out, by go_num, HBD'.out, HB2D'.out, HPN.out⟩
        case measure => have := HLT.out; simp [intOf]; omega
      · obtain rfl : k = len1 := by omega
        clear hlt hk
        have h0 := set0 HBD.out.1
        go_wp2_with fail
        refine (setmode_any HP5.out.ip HN.out ⟨HBD.out.2.1.1, by have := HBD.out.2.1.2; have := HN1.out; omega⟩ 0).mono ?_
        rintro e w6 ⟨rfl, hp6, hr6⟩
        obtain ⟨kk, hkk⟩ : ∃ x, askN m 0 = x := ⟨_, rfl⟩
        rw [hkk]
        rw [h0.1, h0.2] at hp6
        have HP6 := Lib.hid (HP5.out.prog (hp6.ext rfl rfl rfl rfl rfl : IsP w6 lo hi d s 0 st ca ns wr) hr6)
        clear hp6 hr6 h0 hkk HP5
        go_wp2_with fail
        refine (shot_any HP6.out.ip HN.out).mono ?_
        rintro e w7 ⟨V, vc, rfl, ho, hb7⟩
        have hb8 : Below w7.heap.size w7 (w7.alloc (.cells #[.int .i64 s.id, .int .i64 0, .int .i64 st, .int .i64 ca, .slice V s.n vc] 42)) := (Below.refl _ _).alloc (Nat.le_refl _) _
        have hp8 := (HP6.out.keep hb7).keep hb8
        have hz8 := heap_alloc_new w7 (.cells #[.int .i64 s.id, .int .i64 0, .int .i64 st, .int .i64 ca, .slice V s.n vc] 42)
        have hv8 := (own_nums ho HP6.out.ip.ic.nlen).1.kept hb8
        have hvv : ∀ y, V = some y → hi ≤ y.block ∧ y.block ≠ Y := fun y hy => by
          have h1 := (own_at ho y hy).2.1
          have h2 := lt_of_block HP6.out.box
          have h3 := HP6.out.ip.hs
          exact ⟨by omega, by omega⟩
        have hzz : hi ≤ w7.heap.size ∧ w7.heap.size ≠ Y := by
          have h2 := lt_of_block (HP6.out.keep hb7).box
          have h3 := (HP6.out.keep hb7).ip.hs
          exact ⟨h3, by omega⟩
        go_upto_region 14 with fail
        obtain ⟨W8, hW8⟩ : ∃ W, w7.alloc (.cells #[.int .i64 s.id, .int .i64 0, .int .i64 st, .int .i64 ca, .slice V s.n vc] 42) = W := ⟨_, rfl⟩
        obtain ⟨Z, hZ⟩ : ∃ Z, w7.heap.size = Z := ⟨_, rfl⟩
        rw [hW8] at hp8 hz8 hv8
        rw [hZ] at hz8 hzz
        rw [hW8, hZ]
        have HP8 := Lib.hid hp8
        have HZ8 := Lib.hid hz8
        have HV8 := Lib.hid hv8
        have HVV := Lib.hid hvv
        have HZZ : Hid (hi ≤ Z ∧ Z ≠ Y) := hzz
        have HB3D : Hid (Bd 0 st wr (0 + 100)) := ⟨by omega, ⟨HBD.out.2.1.1, by have := HBD.out.2.1.2; have := HN1.out; omega⟩, HBD.out.2.2.1, by have := HBD.out.2.2.2; have := HN1.out; omega⟩
        have HB4D : Hid (Bd m2 st2 wr2 (0 + 100)) := ⟨HB2D.out.1, ⟨HB2D.out.2.1.1, by have := HB2D.out.2.1.2; have := HN1.out; omega⟩, HB2D.out.2.2.1, by have := HB2D.out.2.2.2; have := HN1.out; omega⟩
        clear hp8 hz8 hv8 hvv hzz hW8 hZ ho hb7 hb8 HP6 HBD HB2D
        go_wp2_with fail
        go_loopw [57] (fun i wr => IbRel w lo hi d s a cap Y len2 Z V vc st ca ns i wr) (fun i _ => len2 - (intOf i).toNat)
        case atStart => exact ⟨0, wr, m2, st2, ca2, ns2, wr2, N, nc, Nat.zero_le _, rfl, HB3D.out, HB4D.out, HP8.out, HV8.out, HZ8.out⟩
        case round =>
          rename World => W5
          clear HB3D HB4D HP8 HV8 HZ8
          obtain ⟨k, wr, m2, st2, ca2, ns2, wr2, N, nc, hk, rfl, hbd, hbd2, hp, hv, hz⟩ := hrel
          have HP5 := Lib.hid hp
          have HBD := Lib.hid hbd
          have HB2D := Lib.hid hbd2
          have HV5 := Lib.hid hv
          have HZ5 := Lib.hid hz
          clear hp hbd hbd2 hv hz
          by_cases hlt : k < len2
          · obtain ⟨x, hx⟩ : ∃ x, ol2[k]? = some x := ⟨_, List.getElem?_eq_getElem (by rw [HOL2.out]; exact hlt)⟩
            obtain ⟨y, rfl, e1, e2, e3⟩ := (HOP2.out.kept HP5.out.below) k x hx
            have HLT := Lib.hid hlt
            have hkb : (k : Int) < len2 := by omega
            have hki : (0 : Int) ≤ k := by omega
            have HK1 : Hid (IntKind.i64.wrap ((k : Int) + 1) = (k : Int) + 1) := IntWalk.i64_in _ (by have := HN2.out; omega)
            obtain ⟨xk, xi, xv⟩ := x
            dsimp only at e1 e2 e3
            have hb5 : Below W5.heap.size W5 (W5.alloc (.cells #[.int .i64 xk, .int .i64 xi, .int .u32 (xv : Int)] 37)) := (Below.refl _ _).alloc (Nat.le_refl _) _
            have hp6 := HP5.out.keep hb5
            have hx6 := heap_alloc_new W5 (.cells #[.int .i64 xk, .int .i64 xi, .int .u32 (xv : Int)] 37)
            have hv6 := HV5.out.kept hb5
            have hz6 := (hb5.block _ (lt_of_block HZ5.out)).trans HZ5.out
            clear hlt hk hx
            go_upto_region 17 with fail
            obtain ⟨W6, hW6⟩ : ∃ W, W5.alloc (.cells #[.int .i64 xk, .int .i64 xi, .int .u32 (xv : Int)] 37) = W := ⟨_, rfl⟩
            obtain ⟨Q, hQ⟩ : ∃ Q, W5.heap.size = Q := ⟨_, rfl⟩
            rw [hW6] at hx6 hp6 hb5 hv6 hz6
            rw [hQ] at hx6
            rw [hW6, hQ]
            have HX6 := Lib.hid hx6
            have HP6 := Lib.hid hp6
            have HV6 := Lib.hid hv6
            have HZ6 := Lib.hid hz6
            have HON := Lib.hid (one_any (cap := cap) (nc := nc) (ca2 := ca2) W6 HP6.out.ip HP6.out.num HP6.out.nl HN.out (fun hq y hy => (HP6.out.nhi hq y hy).1) (HCE.out.kept HP6.out.below) HBD.out HB2D.out (by have := HLT.out; have := HN2.out; omega) xk xi xv)
            clear hx6 hp6 hb5 hW6 hQ e1 e2 e3 HP5 hv6 hz6
            go_wp2_with (first
              | ((with_reducible show wpList _ _ _ _ _ _); refine wpList_load_row rfl 33 (.tmp 8) rfl Y rfl 33 _ (0, 0) _ HP6.out.box Try.underlying33 rfl size_rp ?_)
              | ((with_reducible show wpList _ _ _ _ _ _); refine wpList_load_row rfl 37 (.tmp 13) rfl Q rfl 37 _ (0, 0) _ HX6.out Try.underlying37 rfl size_op ?_))
            refine HON.out.mono ?_
            rintro e w7 ⟨m', st', ca', ns', wr', m3, st3, ca3, ns3, wr3, bb, N', nc', rfl, f1, f2, f3, f4, f5, f6, f7, f8, f9, f10, f11⟩
            have HPB := Lib.hid (HP6.out.both f1 f2 f3 f4 f5 f6 f7)
            have HV7 := Lib.hid (nums_rng HV6.out f7 (fun _ y hy => (HVV.out y hy).1))
            have HZ7 := Lib.hid ((f7.block _ (lt_of_block HZ6.out) (.inr HZZ.out.1)).trans HZ6.out)
            obtain ⟨g1, g2, g3, g4⟩ := f10 rfl
            subst g1 g2 g3 g4
            have HBD' := Lib.hid f8
            have HB2D' := Lib.hid f9
            clear f1 f2 f3 f4 f5 f6 f7 f8 f9 f10 f11 HON HP6 HX6 HV6 HZ6 HV5 HZ5
            have HPN := Lib.hid (HPB.out.setx #[.int .i64 s.id, .string s.nm, .bool s.may, .slice a s.n cap, .int .i64 m3, .int .i64 st3, .int .i64 ca3, .slice a s.n cap, .slice N' s.n nc', .int .i64 wr3])
            have HVN := Lib.hid (nums_row HV7.out Y #[.int .i64 s.id, .string s.nm, .bool s.may, .slice a s.n cap, .int .i64 m3, .int .i64 st3, .int .i64 ca3, .slice a s.n cap, .slice N' s.n nc', .int .i64 wr3] (fun _ y hy => (HVV.out y hy).2))
            have HZN := Lib.hid ((setRow_other w7 Y Z #[.int .i64 s.id, .string s.nm, .bool s.may, .slice a s.n cap, .int .i64 m3, .int .i64 st3, .int .i64 ca3, .slice a s.n cap, .slice N' s.n nc', .int .i64 wr3] HZZ.out.2).trans HZ7.out)
            have hk1 := HK1.out
            go_wp2_with ((with_reducible show wpList _ _ _ _ _ _); refine wpList_store_row rfl 33 (.tmp 8) (.tmp 66) rfl Y #[.int .i64 s.id, .string s.nm, .bool s.may, .slice a s.n cap, .int .i64 m3, .int .i64 st3, .int .i64 ca3, .slice a s.n cap, .slice N' s.n nc', .int .i64 wr3] rfl rfl 33 #[.int .i64 s.id, .string s.nm, .bool s.may, .slice a s.n cap, .int .i64 m2, .int .i64 st2, .int .i64 ca2, .slice a s.n cap, .slice N s.n nc, .int .i64 wr2] HPB.out.box size_rp rfl (one_rp _ _ _ _ _ _ _ _ _ _ _ _ _ _ _) ?_)
            go_roundw
            case rel => exact ⟨k + 1, wr', m3, st3, ca3, ns3, wr3, N', nc', HLT.out, by go_num, by have := HBD'.out; rw [show k + 1 + 100 = k + 100 + 1 by omega]; exact this, by have := HB2D'.out; rw [show k + 1 + 100 = k + 100 + 1 by omega]; exact this, HPN.out, HVN.out, HZN.out⟩
            case measure => have := HLT.out; simp [intOf]; omega
          · obtain rfl : k = len2 := by omega
            clear hlt hk
            have HPD := Lib.hid (HP5.out.drewN 1)
            have z0 := cell_of_row _ _ 0 _ _ _ HZ5.out
            have z1 := cell_of_row _ _ 1 _ _ _ HZ5.out
            have z2 := cell_of_row _ _ 2 _ _ _ HZ5.out
            have z3 := cell_of_row _ _ 3 _ _ _ HZ5.out
            have z4 := cell_of_row _ _ 4 _ _ _ HZ5.out
            simp only [List.getElem?_toArray, List.getElem?_cons_zero, List.getElem?_cons_succ] at z0 z1 z2 z3 z4
            go_upto_region 19 with fail
            go_region_held3 (fun wx => wx.cell? ⟨Z, 0, none⟩ = some (.int .i64 s.id) ∧ wx.cell? ⟨Z, 1, none⟩ = some (.int .i64 0) ∧ wx.cell? ⟨Z, 2, none⟩ = some (.int .i64 st) ∧ wx.cell? ⟨Z, 3, none⟩ = some (.int .i64 ca) ∧ wx.cell? ⟨Z, 4, none⟩ = some (.slice V s.n vc))
              (first | exact HKP.out | (refine ⟨?_, ?_, ?_, ?_, ?_⟩ <;> assumption) | (go_keep; done))
              (first
                | (go_at_call 14; refine (shot_any HPD.out.ip HN.out).mono ?_; rintro e wA ⟨V2, vc2, rfl, ho, hbA⟩; have HBA := Lib.hid hbA; have hnA := (own_nums ho HPD.out.ip.ic.nlen).1; have HNA := Lib.hid hnA; have hPA := HPD.out.keep hbA; have HPA := Lib.hid hPA; have hVA := (HV5.out.drewN 1).kept hbA; have HVA := Lib.hid hVA; have hzA := (hbA.block Z (lt_of_block HZ5.out)).trans HZ5.out; have HZA := Lib.hid hzA; have HKP : Hid (wA.cell? ⟨Z, 0, none⟩ = some (.int .i64 s.id) ∧ wA.cell? ⟨Z, 1, none⟩ = some (.int .i64 0) ∧ wA.cell? ⟨Z, 2, none⟩ = some (.int .i64 st) ∧ wA.cell? ⟨Z, 3, none⟩ = some (.int .i64 ca) ∧ wA.cell? ⟨Z, 4, none⟩ = some (.slice V s.n vc)) := ⟨by rw [cell_of_row _ _ _ _ _ _ hzA]; rfl, by rw [cell_of_row _ _ _ _ _ _ hzA]; rfl, by rw [cell_of_row _ _ _ _ _ _ hzA]; rfl, by rw [cell_of_row _ _ _ _ _ _ hzA]; rfl, by rw [cell_of_row _ _ _ _ _ _ hzA]; rfl⟩; clear ho hbA hnA hPA hVA hzA)
                | (go_at_call 22; have HSS := HNA.out; refine (sameshot_any ⟨s.id, 0, st, ca, ns⟩ ⟨s.id, 0, st, ca, ns⟩ V2 V vc2 vc s.n s.n _ HSS HVA.out HPA.out.ip.ic.nlen HPA.out.ip.ic.nlen HN.out).mono ?_; rintro e wB ⟨rfl, hbB⟩; rw [same_self]; have hPB := HPA.out.keep hbB; have HPB := Lib.hid hPB; have hzB := (hbB.block Z (lt_of_block HZA.out)).trans HZA.out; clear HKP; have HZB := Lib.hid hzB; have HKP : Hid (wB.cell? ⟨Z, 0, none⟩ = some (.int .i64 s.id) ∧ wB.cell? ⟨Z, 1, none⟩ = some (.int .i64 0) ∧ wB.cell? ⟨Z, 2, none⟩ = some (.int .i64 st) ∧ wB.cell? ⟨Z, 3, none⟩ = some (.int .i64 ca) ∧ wB.cell? ⟨Z, 4, none⟩ = some (.slice V s.n vc)) := ⟨by rw [cell_of_row _ _ _ _ _ _ hzB]; rfl, by rw [cell_of_row _ _ _ _ _ _ hzB]; rfl, by rw [cell_of_row _ _ _ _ _ _ hzB]; rfl, by rw [cell_of_row _ _ _ _ _ _ hzB]; rfl, by rw [cell_of_row _ _ _ _ _ _ hzB]; rfl⟩; clear hbB hPB hzB)
                | (go_at_call 9; have HPP := HPB.out; refine (awake_any _).mono ?_; rintro e wC ⟨rfl, hbC⟩; have HPC := Lib.hid (HPP.keep hbC); have hzC := (hbC.block Z (lt_of_block HZB.out)).trans HZB.out; clear HKP; have HKP : Hid (wC.cell? ⟨Z, 0, none⟩ = some (.int .i64 s.id) ∧ wC.cell? ⟨Z, 1, none⟩ = some (.int .i64 0) ∧ wC.cell? ⟨Z, 2, none⟩ = some (.int .i64 st) ∧ wC.cell? ⟨Z, 3, none⟩ = some (.int .i64 ca) ∧ wC.cell? ⟨Z, 4, none⟩ = some (.slice V s.n vc)) := ⟨by rw [cell_of_row _ _ _ _ _ _ hzC]; rfl, by rw [cell_of_row _ _ _ _ _ _ hzC]; rfl, by rw [cell_of_row _ _ _ _ _ _ hzC]; rfl, by rw [cell_of_row _ _ _ _ _ _ hzC]; rfl, by rw [cell_of_row _ _ _ _ _ _ hzC]; rfl⟩; clear hbC hzC HPP))
            all_goals
              go_wp2
              go_ret
              exact ⟨rfl, HPC.out.below⟩

end Go.Proofs.Ytkjoobdaalajkaa.partIdle
