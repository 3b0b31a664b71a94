
/- The function PartPlays returns true for every partition and every slice of calls. Condition: none. This text: the walk through the Go text; the row is in the text without the W at its name's end. -/

import Derived.Test.YtkjoobdaalajkaaArgs

import Derived.Test.YtkjoobdaalajkaaPtG

import Derived.Deep.RegionHeld3

namespace Go.Proofs.Ytkjoobdaalajkaa.partPlays

open Go.RowKit Go.PlainAid Go.Proofs.Ytkjoobdaalajkaa.Args

set_option linter.unusedVariables false

open Go.Proofs.Ytkjoobdaalajkaa.Cel Go.Proofs.Ytkjoobdaalajkaa.Pt

open Go.Proofs.Ytkjoobdaalajkaa.Mod (askN startN setM setS actN actM actS)

set_option linter.unusedSimpArgs false

def PlRel (w : World) (lo hi : Nat) (d : PD) (s : PK) (a : Option Addr) (cap Y n : Nat) (i : Value) (W : World) : Prop :=
  ∃ (k : Nat) (m st ca : Int) (ns : List Nat) (wr : Int) (N : Option Addr) (nc : Nat), k ≤ n ∧ i = .int .i64 (k : Int) ∧ Bd m st wr (k + 1) ∧ PX w w.heap.size lo hi d s a cap Y m st ca ns wr N ns #[.int .i64 s.id, .string s.nm, .bool s.may, .slice a s.n cap, .int .i64 m, .int .i64 st, .int .i64 ca, .slice a s.n cap, .slice N s.n nc, .int .i64 wr] W
/-- What is loaded of both. -/
def Eqs (B Y : Nat) (s : PK) (a : Option Addr) (cap : Nat) (m st ca : Int) (N : Option Addr) (nc : Nat) (wr : Int) (W : World) : Prop :=
  Sem.run Try.prog (loadVar 3 ⟨B, 0, none⟩) W = .ok (.int .i64 s.id) W ∧ Sem.run Try.prog (loadVar 9 ⟨B, 1, none⟩) W = .ok (.string s.nm) W ∧ Sem.run Try.prog (loadVar 4 ⟨B, 2, none⟩) W = .ok (.bool s.may) W ∧
  Sem.run Try.prog (loadVar 33 ⟨Y, 0, none⟩) W = .ok (.agg #[.int .i64 s.id, .string s.nm, .bool s.may, .slice a s.n cap, .int .i64 m, .int .i64 st, .int .i64 ca, .slice a s.n cap, .slice N s.n nc, .int .i64 wr]) W ∧ Sem.run Try.prog (loadVar 3 ⟨Y, 4, none⟩) W = .ok (.int .i64 m) W ∧ Sem.run Try.prog (loadVar 3 ⟨Y, 5, none⟩) W = .ok (.int .i64 st) W ∧ Sem.run Try.prog (loadVar 3 ⟨Y, 6, none⟩) W = .ok (.int .i64 ca) W
theorem eqs {w0 W : World} {B lo hi : Nat} {d : PD} {s : PK} {a : Option Addr} {cap Y : Nat} {m st ca : Int} {wr : Int} {N : Option Addr} {ns2 : List Nat} {nc : Nat} {m2 st2 ca2 : Int} {ns3 : List Nat} {wr2 : Int} (h : PX w0 B lo hi d s a cap Y m2 st2 ca2 ns3 wr2 N ns2 #[.int .i64 s.id, .string s.nm, .bool s.may, .slice a s.n cap, .int .i64 m, .int .i64 st, .int .i64 ca, .slice a s.n cap, .slice N s.n nc, .int .i64 wr] W) : Eqs B Y s a cap m st ca N nc wr W := by
  have b := h.box
  have c := h.abox
  refine ⟨?_, ?_, ?_, run_loadVar_row W Y _ _ _ (0, 0) _ b Try.underlying33 rfl size_rp, ?_, ?_, ?_⟩
  · simp [go_sem, loadVar, cell_of_row _ _ 0 _ _ _ c]
  · simp [go_sem, loadVar, cell_of_row _ _ 1 _ _ _ c]
  · simp [go_sem, loadVar, cell_of_row _ _ 2 _ _ _ c]
  · simp [go_sem, loadVar, cell_of_row _ _ 4 _ _ _ b]
  · simp [go_sem, loadVar, cell_of_row _ _ 5 _ _ _ b]
  · simp [go_sem, loadVar, cell_of_row _ _ 6 _ _ _ b]
theorem other_start {m st : Int} (h : askN m 1 = 0) : goN (setS m 1) st = st + 1 := by
  have e : setS m 1 = 2 := by unfold setS; rw [if_pos h]; rfl
  rw [e]; rfl
section
attribute [-go_sem] loadVar
set_option maxRecDepth 8000 in
set_option maxHeartbeats 12800000 in
theorem walk (a0 : Array Value) (a1 : Option Addr) (len1 cap1 : Nat) (w : World) (w0 : IsAgg w [.one (.int .i64), .one (.string), .one (.bool), .recs [.int .u32, .bool]] a0) (w1 : IsRecs w a1 len1 cap1 [.int .i64, .int .i64, .int .u32]) :
    Calls Try.prog 3 #[.agg a0, .slice a1 len1 cap1] w fun e w' => e = .returned (.bool true) ∧ Below w.heap.size w w' := by
  obtain ⟨s, a, cap, rfl, hcells, hfl, hnil, hcap, hcm⟩ := part_of w0
  obtain ⟨ol1, hol1, hops1⟩ := ops_of w1
  have HOL1 := Lib.hid hol1
  have HOP1 := Lib.hid hops1
  have HCE := Lib.hid hcells
  have HFL := Lib.hid hfl
  have hb0 : Below w.heap.size w (w.alloc (.cells #[.int .i64 s.id, .string s.nm, .bool s.may, .slice a s.n cap] 24)) := (Below.refl _ _).alloc (Nat.le_refl _) _
  have hr0 := heap_alloc_new w (.cells #[.int .i64 s.id, .string s.nm, .bool s.may, .slice a s.n cap] 24)
  obtain ⟨W, hW⟩ : ∃ W, w.alloc (.cells #[.int .i64 s.id, .string s.nm, .bool s.may, .slice a s.n cap] 24) = W := ⟨_, rfl⟩
  rw [hW] at hb0 hr0
  have HW := Lib.hid hW
  have HB := Lib.hid hb0
  have HR := Lib.hid hr0
  have r3 := cell_of_row _ _ 3 _ _ _ hr0
  simp only [List.getElem?_toArray, List.getElem?_cons_zero, List.getElem?_cons_succ] at r3
  have l3 : Sem.run Try.prog (loadVar 22 ⟨w.heap.size, 3, none⟩) W = .ok (.slice a s.n cap) W := by simp [go_sem, loadVar, r3]
  clear hcells hW hb0 hr0 w0 hol1 hops1 w1
  by_cases hb : 40 < s.n ∨ 100 < len1
  · have hcase : decide (40 < (s.n : Int)) = true ∨ (decide (40 < (s.n : Int)) = false ∧ decide (100 < (len1 : Int)) = true) := by
      rcases Nat.lt_or_ge 40 s.n with h | h
      · exact .inl (decide_eq_true (by omega))
      · exact .inr ⟨decide_eq_false (by omega), decide_eq_true (by omega)⟩
    clear hb hnil hcap hcm hfl
    rcases hcase with t0 | ⟨t0, t1⟩
    all_goals
      go_enter Try.func3, Try.ntmps3
      go_upto_region 1 with fail
      rw [HW.out]
      go_wp2_with (go_at_call 9; refine (awake_any _).mono ?_; rintro e w' ⟨rfl, hbel⟩)
      go_ret
      exact ⟨rfl, HB.out.trans (hbel.mono HB.out.size)⟩
  · have t0 : decide (40 < (s.n : Int)) = false := decide_eq_false (by omega)
    have t1 : decide (100 < (len1 : Int)) = false := decide_eq_false (by omega)
    have HN : Hid (s.n ≤ 1000) := by show _ ≤ _; omega
    have HN1 : Hid (len1 ≤ 100) := by show _ ≤ _; omega
    have HNEW := Lib.hid (new_part s.id s.nm s.may a cap s.fs s.n W (HCE.out.kept HB.out) hnil hcap hfl (by omega))
    have HRNW := Lib.hid (fun (W' : World) (b : Below w.heap.size w W') => rnewp_any s.id s.nm s.may a cap s.fs s.n W' (HCE.out.kept b) hfl (by omega))
    clear hb hnil hcap hcm hfl
    go_enter Try.func3, Try.ntmps3
    go_upto_region 1 with fail
    rw [HW.out]
    go_wp2_with ((with_reducible show wpList _ _ _ _ _ _); refine wpList_load_row rfl 24 (.tmp 2) rfl w.heap.size rfl 24 _ (0, 0) _ HR.out Try.underlying24 rfl size_ap ?_)
    refine HNEW.out.mono ?_
    rintro e w2 ⟨d, rfl, hp2, hb2⟩
    have HP2 := Lib.hid hp2
    have HR2 := Lib.hid ((hb2.block _ (lt_of_block HR.out)).trans HR.out)
    have HB2 := Lib.hid (HB.out.trans (hb2.mono HB.out.size))
    clear hp2 hb2 HNEW r3 l3
    go_wp2_with ((with_reducible show wpList _ _ _ _ _ _); refine wpList_load_row rfl 24 (.tmp 2) rfl w.heap.size rfl 24 _ (0, 0) _ HR2.out Try.underlying24 rfl size_ap ?_)
    refine (HRNW.out _ HB2.out).mono ?_
    rintro e w3 ⟨N, nc, rfl, hn3, hN3, hb3⟩
    have hbx : Below w3.heap.size w3 (w3.alloc (.cells #[.int .i64 s.id, .string s.nm, .bool s.may, .slice a s.n cap, .int .i64 1, .int .i64 1, .int .i64 0, .slice a s.n cap, .slice N s.n nc, .int .i64 0] 33)) := (Below.refl _ _).alloc (Nat.le_refl _) _
    have HPX : Hid (PX w w.heap.size W.heap.size w2.heap.size d s a cap w3.heap.size 1 1 0 (s.fs.map C2.v) 0 N (s.fs.map C2.v) #[.int .i64 s.id, .string s.nm, .bool s.may, .slice a s.n cap, .int .i64 1, .int .i64 1, .int .i64 0, .slice a s.n cap, .slice N s.n nc, .int .i64 0] (w3.alloc (.cells #[.int .i64 s.id, .string s.nm, .bool s.may, .slice a s.n cap, .int .i64 1, .int .i64 1, .int .i64 0, .slice a s.n cap, .slice N s.n nc, .int .i64 0] 33))) := by
      refine ⟨(HP2.out.keep hb3).keep hbx, hn3.kept hbx, by rw [List.length_map]; exact HFL.out, fun hq y hy => ?_, heap_alloc_new _ _, ((hbx.block _ (Nat.lt_of_lt_of_le (lt_of_block HR2.out) hb3.size)).trans (hb3.block _ (lt_of_block HR2.out))).trans HR2.out, (HB2.out.trans (hb3.mono HB2.out.size)).trans (hbx.mono (Nat.le_trans HB2.out.size hb3.size)), hb3.size, lt_of_block HR.out, Nat.le_refl _⟩
      rcases hN3 y hy with h | h
      · have h2 := NumsAt.lt hn3 hq y hy
        exact ⟨h, by omega⟩
      · cases h
    clear hn3 hN3 hb3 hbx HP2 HR2 HB2 HRNW
    go_upto_region 7 with fail
    obtain ⟨W4, hW4⟩ : ∃ W, w3.alloc (.cells #[.int .i64 s.id, .string s.nm, .bool s.may, .slice a s.n cap, .int .i64 1, .int .i64 1, .int .i64 0, .slice a s.n cap, .slice N s.n nc, .int .i64 0] 33) = W := ⟨_, rfl⟩
    obtain ⟨Y, hY⟩ : ∃ Y, w3.heap.size = Y := ⟨_, rfl⟩
    obtain ⟨lo, hlo⟩ : ∃ lo, W.heap.size = lo := ⟨_, rfl⟩
    obtain ⟨hi, hhi⟩ : ∃ hi, w2.heap.size = hi := ⟨_, rfl⟩
    rw [hW4, hY, hlo, hhi] at HPX
    rw [hW4, hY]
    clear hW4 hY hlo hhi HW HB HR
    go_wp2_with fail
    go_loopw [30] (fun i wr => PlRel w lo hi d s a cap Y len1 i wr) (fun i _ => len1 - (intOf i).toNat)
    case atStart => exact ⟨0, 1, 1, 0, _, 0, N, nc, Nat.zero_le _, rfl, ⟨by omega, by omega, by omega⟩, HPX.out⟩
    case round =>
      rename World => W5
      obtain ⟨k, m, st, ca, ns, wr, N, nc, hk, rfl, hbd, hp⟩ := hrel
      have HP5 := Lib.hid hp
      have HBD := Lib.hid hbd
      have HB2D := Lib.hid hbd
      clear hp hbd HPX
      by_cases hlt : k < len1
      · obtain ⟨x, hx⟩ : ∃ x, ol1[k]? = some x := ⟨_, List.getElem?_eq_getElem (by rw [HOL1.out]; exact hlt)⟩
        obtain ⟨y, rfl, e1, e2, e3⟩ := (HOP1.out.kept HP5.out.below) k x hx
        have HLT := Lib.hid hlt
        have hkb : (k : Int) < len1 := by omega
        have hki : (0 : Int) ≤ k := by omega
        have HK1 : Hid (IntKind.i64.wrap ((k : Int) + 1) = (k : Int) + 1) := IntWalk.i64_in _ (by have := HN1.out; omega)
        obtain ⟨xk, xi, xv⟩ := x
        dsimp only at e1 e2 e3
        have hb5 : Below W5.heap.size W5 (W5.alloc (.cells #[.int .i64 xk, .int .i64 xi, .int .u32 (xv : Int)] 37)) := (Below.refl _ _).alloc (Nat.le_refl _) _
        have hp6 := HP5.out.keep hb5
        have hx6 := heap_alloc_new W5 (.cells #[.int .i64 xk, .int .i64 xi, .int .u32 (xv : Int)] 37)
        have le : Sem.run Try.prog (loadVar 37 (y.add (k * 3))) W5 = .ok (.agg #[.int .i64 xk, .int .i64 xi, .int .u32 (xv : Int)]) W5 := by simp [go_sem, loadVar, e1, e2, e3]
        clear hlt hk hx
        go_upto_region 10 with fail
        obtain ⟨W6, hW6⟩ : ∃ W, W5.alloc (.cells #[.int .i64 xk, .int .i64 xi, .int .u32 (xv : Int)] 37) = W := ⟨_, rfl⟩
        obtain ⟨Q, hQ⟩ : ∃ Q, W5.heap.size = Q := ⟨_, rfl⟩
        rw [hW6] at hx6 hp6 hb5
        rw [hQ] at hx6
        rw [hW6, hQ]
        have HX6 := Lib.hid hx6
        have HP6 := Lib.hid hp6
        have HON := Lib.hid (one_any (cap := cap) (nc := nc) (ca2 := ca) W6 HP6.out.ip HP6.out.num HP6.out.nl HN.out (fun hq y hy => (HP6.out.nhi hq y hy).1) (HCE.out.kept HP6.out.below) HBD.out HB2D.out (by have := HLT.out; have := HN1.out; omega) xk xi xv)
        clear hx6 hp6 hb5 hW6 hQ e1 e2 e3 HP5 le
        go_wp2_with (first
          | ((with_reducible show wpList _ _ _ _ _ _); refine wpList_load_row rfl 33 (.tmp 6) rfl Y rfl 33 _ (0, 0) _ HP6.out.box Try.underlying33 rfl size_rp ?_)
          | ((with_reducible show wpList _ _ _ _ _ _); refine wpList_load_row rfl 37 (.tmp 8) rfl Q rfl 37 _ (0, 0) _ HX6.out Try.underlying37 rfl size_op ?_))
        refine HON.out.mono ?_
        rintro e w7 ⟨m', st', ca', ns', wr', m3, st3, ca3, ns3, wr3, bb, N', nc', rfl, f1, f2, f3, f4, f5, f6, f7, f8, f9, f10, f11⟩
        obtain ⟨g0, g1, g2, g3, g4, g5⟩ := f11 rfl rfl rfl rfl rfl
        subst g0 g1 g2 g3 g4 g5
        have hpb := HP6.out.both f1 f2 f3 f4 f5 f6 f7
        have HBD' := Lib.hid f8
        have hbz : Below w7.heap.size w7 (w7.alloc (.cells #[.int .i64 s.id, .string s.nm, .bool s.may, .slice a s.n cap, .int .i64 m', .int .i64 st', .int .i64 ca', .slice a s.n cap, .slice N' s.n nc', .int .i64 wr'] 33)) := (Below.refl _ _).alloc (Nat.le_refl _) _
        have hp8 := hpb.keep hbz
        have hz8 := heap_alloc_new w7 (.cells #[.int .i64 s.id, .string s.nm, .bool s.may, .slice a s.n cap, .int .i64 m', .int .i64 st', .int .i64 ca', .slice a s.n cap, .slice N' s.n nc', .int .i64 wr'] 33)
        clear f1 f2 f3 f4 f5 f6 f7 f8 f9 f10 f11 HON HP6 HX6 hpb
        go_upto_region 11 with fail
        obtain ⟨W8, hW8⟩ : ∃ W, w7.alloc (.cells #[.int .i64 s.id, .string s.nm, .bool s.may, .slice a s.n cap, .int .i64 m', .int .i64 st', .int .i64 ca', .slice a s.n cap, .slice N' s.n nc', .int .i64 wr'] 33) = W := ⟨_, rfl⟩
        obtain ⟨Z, hZ⟩ : ∃ Z, w7.heap.size = Z := ⟨_, rfl⟩
        rw [hW8] at hp8 hz8
        rw [hZ] at hz8
        rw [hW8, hZ]
        have HP8 := Lib.hid hp8
        have HZ8 := Lib.hid hz8
        have HP9 := Lib.hid (hp8.setx #[.int .i64 s.id, .string s.nm, .bool s.may, .slice a s.n cap, .int .i64 m', .int .i64 st', .int .i64 ca', .slice a s.n cap, .slice N' s.n nc', .int .i64 wr'])
        clear hW8 hZ hp8 hz8 hbz
        go_upto_region 12 with (first
          | ((with_reducible show wpList _ _ _ _ _ _); refine wpList_load_row rfl 33 (.tmp 9) rfl Z rfl 33 _ (0, 0) _ HZ8.out Try.underlying33 rfl size_rp ?_)
          | ((with_reducible show wpList _ _ _ _ _ _); refine wpList_store_row rfl 33 (.tmp 6) (.tmp 41) rfl Y #[.int .i64 s.id, .string s.nm, .bool s.may, .slice a s.n cap, .int .i64 m', .int .i64 st', .int .i64 ca', .slice a s.n cap, .slice N' s.n nc', .int .i64 wr'] rfl rfl 33 #[.int .i64 s.id, .string s.nm, .bool s.may, .slice a s.n cap, .int .i64 m, .int .i64 st, .int .i64 ca, .slice a s.n cap, .slice N s.n nc, .int .i64 wr] HP8.out.box size_rp rfl (one_rp _ _ _ _ _ _ _ _ _ _ _ _ _ _ _) ?_))
        obtain ⟨W9, hW9⟩ : ∃ W, W8.setRow Y #[.int .i64 s.id, .string s.nm, .bool s.may, .slice a s.n cap, .int .i64 m', .int .i64 st', .int .i64 ca', .slice a s.n cap, .slice N' s.n nc', .int .i64 wr'] = W := ⟨_, rfl⟩
        rw [hW9] at HP9
        rw [hW9]
        clear hW9 HP8 HZ8
        have HPD := Lib.hid (HP9.out.drewN 1)
        have HKP0 : Hid (Eqs w.heap.size Y s a cap m' st' ca' N' nc' wr' W9.drew) := eqs HPD.out
        obtain ⟨q0, q1, q2, q3, q4, q5, q6⟩ := HKP0.out
        have tE : ((⟨#[]⟩ : ByteArray) != ⟨#[]⟩) = false := by decide
        have tN : (s.nm != s.nm) = false := by
          have h : (s.nm == s.nm) = true := by show (s.nm.data == s.nm.data) = true; simp
          simp [bne, h]
        have tM : (s.may != s.may) = false := by cases s.may <;> rfl
        go_region_held3 (fun wx => Sem.run Try.prog (loadVar 3 ⟨w.heap.size, 0, none⟩) wx = .ok (.int .i64 s.id) wx ∧ Sem.run Try.prog (loadVar 9 ⟨w.heap.size, 1, none⟩) wx = .ok (.string s.nm) wx ∧ Sem.run Try.prog (loadVar 4 ⟨w.heap.size, 2, none⟩) wx = .ok (.bool s.may) wx ∧ Sem.run Try.prog (loadVar 33 ⟨Y, 0, none⟩) wx = .ok (.agg #[.int .i64 s.id, .string s.nm, .bool s.may, .slice a s.n cap, .int .i64 m', .int .i64 st', .int .i64 ca', .slice a s.n cap, .slice N' s.n nc', .int .i64 wr']) wx ∧ Sem.run Try.prog (loadVar 3 ⟨Y, 4, none⟩) wx = .ok (.int .i64 m') wx ∧ Sem.run Try.prog (loadVar 3 ⟨Y, 5, none⟩) wx = .ok (.int .i64 st') wx ∧ Sem.run Try.prog (loadVar 3 ⟨Y, 6, none⟩) wx = .ok (.int .i64 ca') wx)
          (first | exact HKP.out | exact HKP0.out | (refine ⟨?_, ?_, ?_, ?_, ?_, ?_, ?_⟩ <;> assumption) | (go_keep; done))
          (first
            | (go_at_call 14; refine (shot_any HPD.out.ip HN.out).mono ?_; rintro e wA ⟨V, vc, rfl, ho, hbA⟩; have hnA := (own_nums ho HPD.out.ip.ic.nlen).1; have HNA := Lib.hid hnA; have HPA := Lib.hid (HPD.out.keep hbA); have HKP : Hid (Eqs w.heap.size Y s a cap m' st' ca' N' nc' wr' wA) := eqs HPA.out; have HKPA := Lib.hid HKP.out; obtain ⟨p0, p1, p2, p3, p4, p5, p6⟩ := HKPA.out; clear ho hbA hnA q0 q1 q2 q3 q4 q5 q6)
            | (go_at_call 13; have HSS := HNA.out; refine (unlike_no _ HSS HPA.out.num HPA.out.nl HN.out).mono ?_; rintro e wB ⟨rfl, hbB⟩; have HPB := Lib.hid (HPA.out.keep hbB); clear HKP; have HKP : Hid (Eqs w.heap.size Y s a cap m' st' ca' N' nc' wr' wB) := eqs HPB.out; obtain ⟨q0, q1, q2, q3, q4, q5, q6⟩ := HKP.out; clear hbB p0 p1 p2 p3 p4 p5 p6)
            | (go_at_call 15; have HSS := HPB.out; refine (id_any HSS.ip).mono ?_; rintro e w' ⟨rfl, rfl⟩; clear HSS)
            | (go_at_call 16; have HSS := HPB.out; refine (name_any HSS.ip).mono ?_; rintro e w' ⟨rfl, rfl⟩; clear HSS)
            | (go_at_call 17; have HSS := HPB.out; refine (may_any HSS.ip).mono ?_; rintro e w' ⟨rfl, rfl⟩; clear HSS)
            | (go_at_call 18; have HSS := HPB.out; refine (mode_any HSS.ip).mono ?_; rintro e w' ⟨rfl, rfl⟩; clear HSS)
            | (go_at_call 19; have HSS := HPB.out; refine (starts_any HSS.ip).mono ?_; rintro e w' ⟨rfl, rfl⟩; clear HSS)
            | (go_at_call 20; have HSS := HPB.out; refine (cause_any HSS.ip).mono ?_; rintro e w' ⟨rfl, rfl⟩; clear HSS))
        all_goals
          have hk1 := HK1.out
          go_wp2
          go_roundw
          case rel => exact ⟨k + 1, m', st', ca', ns', wr', N', nc', HLT.out, by go_num, HBD'.out, HPB.out⟩
          case measure => have := HLT.out; simp [intOf]; omega
      · obtain rfl : k = len1 := by omega
        clear hlt hk
        go_wp2_with fail
        refine (Go.Proofs.Ytkjoobdaalajkaa.Pt.copy_any HP5.out.ip HN.out).mono ?_
        rintro e w6 ⟨d2, rfl, hc6, hb6⟩
        have HC6 := Lib.hid hc6
        have HB6 := Lib.hid hb6
        clear hc6 hb6
        go_wp2_with fail
        refine (shot_any HC6.out HN.out).mono ?_
        rintro e w7 ⟨V1, v1, rfl, ho, hb7⟩
        have HN7 := Lib.hid (own_nums ho HP5.out.ip.ic.nlen).1
        have HB7 := Lib.hid (HB6.out.trans (hb7.mono HB6.out.size))
        have HC7 := Lib.hid (HC6.out.keep hb7)
        clear ho hb7 HC6 HB6
        go_wp2_with fail
        refine (shot_any (HP5.out.keep HB7.out).ip HN.out).mono ?_
        rintro e w8 ⟨V2, v2, rfl, ho, hb8⟩
        have HN8 := Lib.hid (own_nums ho HP5.out.ip.ic.nlen).1
        have HM8 := Lib.hid (HN7.out.kept hb8)
        have HB8 := Lib.hid (HB7.out.trans (hb8.mono HB7.out.size))
        have HC8 := Lib.hid (HC7.out.keep hb8)
        clear ho hb8 HC7 HB7 HN7
        go_wp2_with fail
        refine (sameshot_any ⟨s.id, m, st, ca, ns⟩ ⟨s.id, m, st, ca, ns⟩ V1 V2 v1 v2 s.n s.n _ HM8.out HN8.out HP5.out.ip.ic.nlen HP5.out.ip.ic.nlen HN.out).mono ?_
        rintro e w9 ⟨rfl, hb9⟩
        rw [same_self]
        have HB9 := Lib.hid (HB8.out.trans (hb9.mono HB8.out.size))
        have HC9 := Lib.hid (HC8.out.keep hb9)
        clear hb9 HC8 HB8 HM8 HN8
        go_wp2_with fail
        refine (setmode_any HC9.out HN.out ⟨HBD.out.2.1.1, by have := HBD.out.2.1.2; have := HN1.out; omega⟩ 1).mono ?_
        rintro e w10 ⟨rfl, hc10, hr10⟩
        have HC10 := Lib.hid hc10
        have HB10 := Lib.hid (Rng.below HB9.out hr10 HB9.out.size (Nat.le_refl _))
        have HOS := Lib.hid (fun (h : askN m 1 = 0) => other_start (st := st) h)
        obtain ⟨kk, hkk⟩ : ∃ x, askN m 1 = x := ⟨_, rfl⟩
        obtain ⟨m9, hm9⟩ : ∃ x, setM m 1 = x := ⟨_, rfl⟩
        obtain ⟨st9, hst9⟩ : ∃ x, goN (setS m 1) st = x := ⟨_, rfl⟩
        obtain ⟨ca9, hca9⟩ : ∃ x, goC (setS m 1) 1 ca = x := ⟨_, rfl⟩
        obtain ⟨ns9, hns9⟩ : ∃ x, goL (setS m 1) s.fs ns = x := ⟨_, rfl⟩
        obtain ⟨wr9, hwr9⟩ : ∃ x, goW (setS m 1) wr = x := ⟨_, rfl⟩
        rw [hkk, hst9] at HOS
        rw [hm9, hst9, hca9, hns9, hwr9] at HC10
        rw [hkk]
        clear hkk hm9 hst9 hca9 hns9 hwr9 hc10 hr10 HC9 HB9
        by_cases hk0 : kk = 0
        · have hst9 := HOS.out hk0
          subst hk0
          have HNE : Hid (st9 ≠ st) := by show st9 ≠ st; omega
          clear HOS hst9
          go_wp2_with fail
          refine (shot_any HC10.out HN.out).mono ?_
          rintro e w11 ⟨V1, v1, rfl, ho, hb11⟩
          have HN11 := Lib.hid (own_nums ho HC10.out.ic.nlen).1
          have HB11 := Lib.hid (HB10.out.trans (hb11.mono HB10.out.size))
          clear ho hb11 HB10
          go_wp2_with fail
          refine (shot_any (HP5.out.keep HB11.out).ip HN.out).mono ?_
          rintro e w12 ⟨V2, v2, rfl, ho, hb12⟩
          have HN12 := Lib.hid (own_nums ho HP5.out.ip.ic.nlen).1
          have HM12 := Lib.hid (HN11.out.kept hb12)
          have HB12 := Lib.hid (HB11.out.trans (hb12.mono HB11.out.size))
          clear ho hb12 HB11 HN11
          go_wp2_with fail
          refine (sameshot_any ⟨s.id, m9, st9, ca9, ns9⟩ ⟨s.id, m, st, ca, ns⟩ V1 V2 v1 v2 s.n s.n _ HM12.out HN12.out HC10.out.ic.nlen HP5.out.ip.ic.nlen HN.out).mono ?_
          rintro e w13 ⟨rfl, hb13⟩
          rw [show sameSh ⟨s.id, m9, st9, ca9, ns9⟩ ⟨s.id, m, st, ca, ns⟩ = false from decide_eq_false (fun h => HNE.out h.2.2.1)]
          have HPE := Lib.hid (HP5.out.keep (HB12.out.trans (hb13.mono HB12.out.size)))
          clear hb13 HB12 HM12 HN12 HC10
          have HPD := Lib.hid (HPE.out.drewN 1)
          have HKP0 : Hid (∀ W, PX w w.heap.size lo hi d s a cap Y m st ca ns wr N ns #[.int .i64 s.id, .string s.nm, .bool s.may, .slice a s.n cap, .int .i64 m, .int .i64 st, .int .i64 ca, .slice a s.n cap, .slice N s.n nc, .int .i64 wr] W → Sem.run Try.prog (loadVar 33 ⟨Y, 0, none⟩) W = .ok (.agg #[.int .i64 s.id, .string s.nm, .bool s.may, .slice a s.n cap, .int .i64 m, .int .i64 st, .int .i64 ca, .slice a s.n cap, .slice N s.n nc, .int .i64 wr]) W) := fun W h => run_loadVar_row W Y _ _ _ (0, 0) _ h.box Try.underlying33 rfl size_rp
          have q3 := HKP0.out _ HPD.out
          have tE : ((⟨#[]⟩ : ByteArray) == ⟨#[]⟩) = true := by decide
          go_upto_region 20 with fail
          go_region_held3 (fun wx => Sem.run Try.prog (loadVar 33 ⟨Y, 0, none⟩) wx = .ok (.agg #[.int .i64 s.id, .string s.nm, .bool s.may, .slice a s.n cap, .int .i64 m, .int .i64 st, .int .i64 ca, .slice a s.n cap, .slice N s.n nc, .int .i64 wr]) wx)
            (first | exact HKP.out | assumption | (go_keep; done))
            (first
              | (go_at_call 14; refine (shot_any HPD.out.ip HN.out).mono ?_; rintro e wA ⟨V, vc, rfl, ho, hbA⟩; have hnA := (own_nums ho HPD.out.ip.ic.nlen).1; have HNA := Lib.hid hnA; have HPA := Lib.hid (HPD.out.keep hbA); have HKP := Lib.hid (HKP0.out _ HPA.out); have p3 := HKP.out; clear ho hbA hnA q3)
              | (go_at_call 13; have HSS := HNA.out; refine (unlike_no _ HSS HPA.out.num HPA.out.nl HN.out).mono ?_; rintro e wB ⟨rfl, hbB⟩; have HPB := Lib.hid (HPA.out.keep hbB); clear HKP; have HKP := Lib.hid (HKP0.out _ HPB.out); have q3 := HKP.out; clear hbB p3)
              | (go_at_call 9; have HSS := HPB.out; refine (awake_any _).mono ?_; rintro e wC ⟨rfl, hbC⟩; have HPC := Lib.hid (HSS.keep hbC); clear HKP; have HKP := Lib.hid (HKP0.out _ HPC.out); clear hbC HSS))
          all_goals
            go_wp2
            go_ret
            exact ⟨rfl, HPC.out.below⟩
        · have t0 : (kk == 0) = false := by simp [hk0]
          have HPE := Lib.hid (HP5.out.keep HB10.out)
          clear hk0 HOS HB10 HC10
          have HPD := Lib.hid (HPE.out.drewN 1)
          have HKP0 : Hid (∀ W, PX w w.heap.size lo hi d s a cap Y m st ca ns wr N ns #[.int .i64 s.id, .string s.nm, .bool s.may, .slice a s.n cap, .int .i64 m, .int .i64 st, .int .i64 ca, .slice a s.n cap, .slice N s.n nc, .int .i64 wr] W → Sem.run Try.prog (loadVar 33 ⟨Y, 0, none⟩) W = .ok (.agg #[.int .i64 s.id, .string s.nm, .bool s.may, .slice a s.n cap, .int .i64 m, .int .i64 st, .int .i64 ca, .slice a s.n cap, .slice N s.n nc, .int .i64 wr]) W) := fun W h => run_loadVar_row W Y _ _ _ (0, 0) _ h.box Try.underlying33 rfl size_rp
          have q3 := HKP0.out _ HPD.out
          have tE : ((⟨#[]⟩ : ByteArray) == ⟨#[]⟩) = true := by decide
          go_upto_region 20 with fail
          go_region_held3 (fun wx => Sem.run Try.prog (loadVar 33 ⟨Y, 0, none⟩) wx = .ok (.agg #[.int .i64 s.id, .string s.nm, .bool s.may, .slice a s.n cap, .int .i64 m, .int .i64 st, .int .i64 ca, .slice a s.n cap, .slice N s.n nc, .int .i64 wr]) wx)
            (first | exact HKP.out | assumption | (go_keep; done))
            (first
              | (go_at_call 14; refine (shot_any HPD.out.ip HN.out).mono ?_; rintro e wA ⟨V, vc, rfl, ho, hbA⟩; have hnA := (own_nums ho HPD.out.ip.ic.nlen).1; have HNA := Lib.hid hnA; have HPA := Lib.hid (HPD.out.keep hbA); have HKP := Lib.hid (HKP0.out _ HPA.out); have p3 := HKP.out; clear ho hbA hnA q3)
              | (go_at_call 13; have HSS := HNA.out; refine (unlike_no _ HSS HPA.out.num HPA.out.nl HN.out).mono ?_; rintro e wB ⟨rfl, hbB⟩; have HPB := Lib.hid (HPA.out.keep hbB); clear HKP; have HKP := Lib.hid (HKP0.out _ HPB.out); have q3 := HKP.out; clear hbB p3)
              | (go_at_call 9; have HSS := HPB.out; refine (awake_any _).mono ?_; rintro e wC ⟨rfl, hbC⟩; have HPC := Lib.hid (HSS.keep hbC); clear HKP; have HKP := Lib.hid (HKP0.out _ HPC.out); clear hbC HSS))
          all_goals
            go_wp2
            go_ret
            exact ⟨rfl, HPC.out.below⟩
end

end Go.Proofs.Ytkjoobdaalajkaa.partPlays
