
/- The function CrewPlays returns true for every slice of partitions, every slice of acts and every slice of calls. Condition: none. This text: the walk through the Go text; the row is in the text without the W at its name's end. -/

import Derived.Test.YtjdgpbjjhgfikaaArgs

import Derived.Test.YtjdgpbjjhgfikaaCrT

import Derived.Test.YtjdgpbjjhgfikaaCrI

import Derived.Test.YtjdgpbjjhgfikaaCrE

import Derived.Deep.RegionHeld3

namespace Go.Proofs.Ytjdgpbjjhgfikaa.crewPlays

open Go.RowKit Go.PlainAid Go.Proofs.Ytjdgpbjjhgfikaa.Args

set_option linter.unusedVariables false

open Go.Proofs.Ytjdgpbjjhgfikaa.Crw Go.Proofs.Ytjdgpbjjhgfikaa.Pt Go.Proofs.Ytjdgpbjjhgfikaa.Cel

open Go.Proofs.Ytjdgpbjjhgfikaa.Mod (askN startN setM setS actN actM actS)

open Go.Proofs.Ytjdgpbjjhgfikaa.Srt (flatA actL flatA_len IA IA.kept RowI RowI.keep RowI.cell AcS AcS.kept A3 forN rfor_any acts_in ids_in)

set_option linter.unusedSimpArgs false

def JRel (n : Nat) (W1 : World) (i : Value) (W : World) : Prop := ∃ k : Nat, k ≤ n ∧ i = .int .i64 (k : Int) ∧ Below W1.heap.size W1 W
def PlRel (w : World) (B g mb H : Nat) (V : Value) (l : List AP) (los : List (Nat × Nat)) (m : Nat) (VX i : Value) (W : World) : Prop :=
  ∃ (k : Nat) (L : List CP) (out : List RX), k ≤ m ∧ i = .int .i64 (k : Int) ∧ IsW W B g mb V L ∧ L.map (fun p => (p.lo, p.hi)) = los ∧ L.map CP.s = l.map AP.s ∧ RD W H l VX out ∧ out.map RX.q = L.map CP.q ∧ (∀ p ∈ L, Bd p.m p.st p.wr (k + 1)) ∧ H ≤ W.heap.size ∧ Below w.heap.size w W
/-- The copy's partitions. -/
def QRel (B g mb : Nat) (V : Value) (L : List CP) (n R : Nat) (w : World) (i : Value) (W : World) : Prop :=
  ∃ (k : Nat) (M : List CP), k ≤ n ∧ i = .int .i64 (k : Int) ∧ IsW W B g mb V M ∧ M.map (fun p => (p.lo, p.hi)) = L.map (fun p => (p.lo, p.hi)) ∧ M.map CP.s = L.map CP.s ∧ (∀ p ∈ M, 0 ≤ p.st ∧ p.st ≤ (k : Int) + 200) ∧ RowI R (L.map fun p => p.s.id) W ∧ Below w.heap.size w W
theorem run_st5 (W : World) (a b c d : Int) (v : Nat) : Sem.run Try.prog (storeVar 42 ⟨W.heap.size, 0, none⟩ (.agg #[.int .i64 a, .int .i64 b, .int .i64 c, .int .i64 d, .int .u32 (v : Int)])) (W.alloc (.cells #[.int .i64 0, .int .i64 0, .int .i64 0, .int .i64 0, .int .u32 0] 42)) = .ok () (W.alloc (.cells #[.int .i64 a, .int .i64 b, .int .i64 c, .int .i64 d, .int .u32 (v : Int)] 42)) :=
  run_storeVar_new W _ _ _ (by kernel_rfl) rfl (by simp [Value.oneCell'])
theorem run_stD (W : World) (a b : Int) (c : Bool) : Sem.run Try.prog (storeVar 70 ⟨W.heap.size, 0, none⟩ (.agg #[.int .i64 a, .int .i64 b, .bool c])) (W.alloc (.cells #[.int .i64 0, .int .i64 0, .bool false] 70)) = .ok () (W.alloc (.cells #[.int .i64 a, .int .i64 b, .bool c] 70)) :=
  run_storeVar_new W _ _ _ (by kernel_rfl) rfl (by simp [Value.oneCell'])
section
attribute [-go_sem] storeVar
set_option maxRecDepth 16000 in
set_option maxHeartbeats 12800000 in
theorem walk (a0 : Option Addr) (len0 cap0 : Nat) (a1 : Option Addr) (len1 cap1 : Nat) (a2 : Option Addr) (len2 cap2 : Nat) (w : World) (w0 : IsRows w a0 len0 cap0 [.one (.int .i64), .one (.string), .one (.bool), .recs [.int .u32, .bool]]) (w1 : IsRecs w a1 len1 cap1 [.int .i64, .int .i64, .int .i64]) (w2 : IsRecs w a2 len2 cap2 [.int .i64, .int .i64, .int .i64, .int .i64, .int .u32]) :
    Calls Try.prog 3 #[.slice a0 len0 cap0, .slice a1 len1 cap1, .slice a2 len2 cap2] w fun e w' => e = .returned (.bool true) ∧ Below w.heap.size w w' := by
  obtain ⟨l, hll, hpa, hok, hpn, hpc, hpm⟩ := parts_in w0
  obtain ⟨ac, hal, hac, han, hacc, ham⟩ := acts_in w1
  obtain ⟨ol, hol, hops⟩ := ops5_in w2
  clear w0 w1 w2
  subst hll
  obtain ⟨n0, hn0⟩ : ∃ n, l.length = n := ⟨_, rfl⟩
  have HFW := Lib.hid (few_any a0 cap0 l w hpa (Nat.le_trans hpc hpm))
  have HPA := Lib.hid hpa
  have HOK := Lib.hid hok
  have HAC := Lib.hid hac
  have HAL := Lib.hid hal
  have HACN := Lib.hid han
  have HACC := Lib.hid hacc
  have HOPS := Lib.hid hops
  have HOL := Lib.hid hol
  have HN0 := Lib.hid hn0
  rw [hn0] at HFW ⊢
  by_cases hbad : fewB l = false ∨ 40 < len1 ∨ 60 < len2
  · have hcase : fewB l = false ∨ (fewB l = true ∧ decide (40 < (len1 : Int)) = true) ∨ (fewB l = true ∧ decide (40 < (len1 : Int)) = false ∧ decide (60 < (len2 : Int)) = true) := by
      cases hf : fewB l with
      | false => exact .inl rfl
      | true =>
        right
        rcases Nat.lt_or_ge 40 len1 with h2 | h2
        · exact .inl ⟨rfl, decide_eq_true (by omega)⟩
        · exact .inr ⟨rfl, decide_eq_false (by omega), decide_eq_true (by rw [hf] at hbad; simp at hbad; omega)⟩
    clear hbad hpa hok hac hops hal hol hn0
    rcases hcase with t0 | ⟨t0, t1⟩ | ⟨t0, t1, t2⟩
    all_goals
      rw [t0] at HFW
      go_enter Try.func3, Try.ntmps3
      go_wp2_with (first
        | (go_at_call 6; refine HFW.out.mono ?_; rintro e w1 ⟨rfl, hb1⟩; have HB1 := Lib.hid hb1; clear hb1)
        | (go_at_call 7; refine (awake_any _).mono ?_; rintro e w2 ⟨rfl, hb2⟩; have HB2 := Lib.hid (HB1.out.trans (hb2.mono HB1.out.size)); clear hb2))
      go_ret
      exact ⟨rfl, HB2.out⟩
  · have hfew : fewB l = true := by
      cases hf : fewB l with
      | true => rfl
      | false => exact absurd (.inl hf) hbad
    have h20 : n0 ≤ 20 ∧ ∀ x ∈ l, x.s.n ≤ 20 := by
      unfold fewB at hfew
      rw [Bool.and_eq_true] at hfew
      refine ⟨by have := of_decide_eq_true hfew.2; omega, fun x hx => ?_⟩
      have := List.all_eq_true.1 hfew.1 x hx
      exact of_decide_eq_true this
    have HN20 : Hid (n0 ≤ 20) := h20.1
    have HC20 := Lib.hid h20.2
    have t1 : decide (40 < (len1 : Int)) = false := decide_eq_false (by omega)
    have t2 : decide (60 < (len2 : Int)) = false := decide_eq_false (by omega)
    have HL1 : Hid (len1 ≤ 40) := by show _ ≤ _; omega
    have HL2 : Hid (len2 ≤ 60) := by show _ ≤ _; omega
    rw [hfew] at HFW
    have HNW := Lib.hid (fun (W : World) (b : Below w.heap.size w W) => new_any a0 cap0 l W (hpa.kept b) (fun x hx => ⟨(hok x hx).kept b, by have := h20.2 x hx; omega⟩) (by omega))
    have HRN := Lib.hid (fun (W : World) (b : Below w.heap.size w W) => rnew22_any a0 cap0 l W (hpa.kept b) (fun x hx => ⟨(hok x hx).kept b, by have := h20.2 x hx; omega⟩) (by omega))
    rw [hn0] at HNW HRN
    clear hbad hpa hok hac hops hal hol hn0 h20 hfew han hacc ham hpn hpc hpm
    go_enter Try.func3, Try.ntmps3
    go_wp2_with (go_at_call 6; refine HFW.out.mono ?_; rintro e w1 ⟨rfl, hb1⟩; have HB1 := Lib.hid hb1; clear hb1)
    refine (HNW.out _ HB1.out).mono ?_
    rintro e w2 ⟨hb2, hor⟩
    have HB2 := Lib.hid (HB1.out.trans (hb2.mono HB1.out.size))
    have HLO := Lib.hid HB1.out.size
    have HLO2 := Lib.hid hb2.size
    clear HNW HFW HB1 hb2
    rcases hor with ⟨hris, g, mb, V, L, rfl, hiw, hq⟩ | ⟨hno, rfl⟩
    · have HIW := Lib.hid hiw
      have HQ := Lib.hid hq
      have HRIS := Lib.hid hris
      obtain ⟨B, hB⟩ : ∃ B, w1.heap.size = B := ⟨_, rfl⟩
      rw [hB] at HIW HLO HLO2
      have hnl : L.length = n0 := by have := congrArg List.length hq; rw [List.length_map, List.length_map] at this; rw [this]; exact HN0.out
      have HNL := Lib.hid hnl
      have HST1 : Hid (∀ p ∈ L, p.st = 1 ∧ p.m = 1 ∧ p.wr = 0) := fun p hp => by
        have h1 : p.q ∈ l.map AP.q := by rw [← hq]; exact List.mem_map.2 ⟨p, hp, rfl⟩
        obtain ⟨z, hz, hzq⟩ := List.mem_map.1 h1
        exact ⟨(congrArg QS.st hzq).symm, (congrArg QS.m hzq).symm, (congrArg QS.wr hzq).symm⟩
      have HSS : Hid (L.map CP.s = l.map AP.s) := by
        have := congrArg (List.map QS.s) hq
        rw [List.map_map, List.map_map] at this
        exact this
      clear hris hiw hq hB hnl
      go_wp2_with fail
      refine (HRN.out _ HB2.out).mono ?_
      rintro e w3 ⟨hb3, hor⟩
      rcases hor with ⟨-, VX, out, rfl, hrow, hoq, hobc, hnn⟩ | ⟨hno, -⟩
      · have HB3 := Lib.hid (HB2.out.trans (hb3.mono HB2.out.size))
        have HIW3 := Lib.hid (HIW.out.keep hb3)
        have HPH : Hid (∀ x ∈ L.map (fun p => (p.lo, p.hi)), x.2 ≤ w2.heap.size ∧ B ≤ x.1) := fun x hx => by
          obtain ⟨p, hp, rfl⟩ := List.mem_map.1 hx
          have := HIW.out.pt p hp
          exact ⟨this.1.hs, this.2.1⟩
        have HOQ : Hid (out.map RX.q = L.map CP.q) := hoq.trans HQ.out.symm
        have HRD : Hid (RD w3 w2.heap.size l VX out) := RD.made hrow (Nat.le_refl _) (fun r hr _ => hnn r hr) hobc (by
          have := congrArg (List.map QS.s) hoq
          rw [List.map_map, List.map_map] at this
          exact this)
        obtain ⟨H, hH⟩ : ∃ H, w2.heap.size = H := ⟨_, rfl⟩
        rw [hH] at HPH HRD HLO2
        have HH3 : Hid (H ≤ w3.heap.size) := by show _ ≤ _; have := hb3.size; omega
        obtain ⟨los, hlos⟩ : ∃ los, L.map (fun p => (p.lo, p.hi)) = los := ⟨_, rfl⟩
        rw [hlos] at HPH
        have HLOS := Lib.hid hlos
        have HLEN := Lib.hid (len_any HIW3.out)
        rw [HNL.out] at HLEN
        have HIDS := Lib.hid (ids_any HIW3.out (by have := HNL.out; have := HN20.out; omega))
        rw [HNL.out] at HIDS
        have tn : ((n0 : Int) != n0) = false := by simp
        clear hb3 hrow hoq hobc hnn hH hlos HRN HB2 HIW
        go_wp2_with (first
          | (go_at_call 10; refine HLEN.out.mono ?_; rintro e w4 ⟨rfl, rfl⟩)
          | (go_at_call 11; refine HIDS.out.mono ?_; rintro e w4 ⟨R, rfl, hR, hri, hb4⟩; have HB4 := Lib.hid hb4; have HRI := Lib.hid hri; clear hR hri hb4))
        clear HLEN HIDS
        have HJ0 : Hid (JRel n0 w4 (.int .i64 0) w4) := ⟨0, Nat.zero_le _, rfl, Below.refl _ _⟩
        have HPI : Hid (∀ (W : World), Below w.heap.size w W → ∀ (k : Nat) (p : CP), L[k]? = some p → ∃ y, a0 = some y ∧ W.cell? (y.add (k * 4)) = some (.int .i64 p.s.id)) := fun W b k p hp => by
          have h1 : (l.map AP.s)[k]? = some p.s := by rw [← HSS.out, List.getElem?_map, hp]; rfl
          rw [List.getElem?_map] at h1
          obtain ⟨x, hx, hxs⟩ := Option.map_eq_some_iff.1 h1
          obtain ⟨y, hy, e1, -, -, -⟩ := (HPA.out.kept b) k x hx
          exact ⟨y, hy, by rw [← hxs]; exact e1⟩
        go_loopw [85] (fun i W => JRel n0 w4 i W) (fun i _ => n0 - (intOf i).toNat)
        case atStart => exact HJ0.out
        case round =>
          rename World => W
          obtain ⟨k, hk, rfl, hb⟩ := hrel
          have HBJ := Lib.hid hb
          clear hb HJ0
          by_cases hlt : k < n0
          · obtain ⟨p, hp⟩ : ∃ p, L[k]? = some p := ⟨_, List.getElem?_eq_getElem (by rw [HNL.out]; exact hlt)⟩
            have hrc := (HRI.out.keep HBJ.out).cell (i := k) (x := p.s.id) (by rw [List.getElem?_map, hp]; rfl)
            obtain ⟨y, rfl, e1⟩ := HPI.out W ((HB3.out.trans (HB4.out.mono HB3.out.size)).trans (HBJ.out.mono (Nat.le_trans HB3.out.size HB4.out.size))) k p hp
            have HLT := Lib.hid hlt
            have hkb : (k : Int) < n0 := by omega
            have hki : (0 : Int) ≤ k := by omega
            have hk1 : IntKind.i64.wrap ((k : Int) + 1) = (k : Int) + 1 := IntWalk.i64_in _ (by have := HN20.out; omega)
            obtain ⟨id, hid⟩ : ∃ id, p.s.id = id := ⟨_, rfl⟩
            rw [hid] at hrc e1
            have t0 : (id != id) = false := by simp
            clear hp hlt hk hid
            go_wp2
            go_roundw
            case rel => exact ⟨k + 1, HLT.out, by go_num, HBJ.out⟩
            case measure => have := HLT.out; simp [intOf]; omega
          · obtain rfl : n0 = k := by omega
            clear hlt hk
            have hb5 := HB4.out.trans (HBJ.out.mono HB4.out.size)
            have HS0 : Hid (PlRel w B g mb H V l los len2 VX (.int .i64 0) W) := ⟨0, L, out, Nat.zero_le _, rfl, HIW3.out.keep hb5, HLOS.out, HSS.out, HRD.out.keep hb5, HOQ.out, fun p hp => by
              obtain ⟨h1, h2, h3⟩ := HST1.out p hp
              rw [h1, h2, h3]
              exact ⟨by omega, by omega, by omega⟩, (by have := hb5.size; have := HH3.out; omega), HB3.out.trans (hb5.mono HB3.out.size)⟩
            clear hb5 HB4 HBJ HRI HIW3 HRD HOQ HST1 HLOS HB3 HH3 HQ HNL HPI
            go_wp2_with fail
            go_loopw [9, 100] (fun VX i W' => PlRel w B g mb H V l los len2 VX i W') (fun _ i _ => len2 - (intOf i).toNat)
            case atStart => exact HS0.out
            case round =>
              rename World => W4
              obtain ⟨k, L, out, hk, rfl, hiw, hlo, hss, hrd, hoq, hbd, hhw, hb⟩ := hrel
              have HHW := Lib.hid hhw
              have HIW := Lib.hid hiw
              have HLOS := Lib.hid hlo
              have HSS := Lib.hid hss
              have HOQ := Lib.hid hoq
              have HBD := Lib.hid hbd
              have HB := Lib.hid hb
              have hnl : L.length = n0 := by have := congrArg List.length hss; rw [List.length_map, List.length_map] at this; rw [this]; exact HN0.out
              have hno : out.length = n0 := by have := congrArg List.length hoq; rw [List.length_map, List.length_map] at this; rw [this]; exact hnl
              have HNL := Lib.hid hnl
              have HNO := Lib.hid hno
              obtain ⟨AX, cX, rfl⟩ := own_slice hrd.row.1
              rw [hno] at hrd ⊢
              have HRD := Lib.hid hrd
              have HHI : Hid (∀ p ∈ L, p.hi ≤ H ∧ B ≤ p.lo) := fun p hp => HPH.out (p.lo, p.hi) (by rw [← HLOS.out]; exact List.mem_map.2 ⟨p, hp, rfl⟩)
              clear hiw hlo hss hrd hoq hbd hhw hb hnl hno HS0
              by_cases hlt : k < len2
              · obtain ⟨x, hx⟩ : ∃ x, ol[k]? = some x := ⟨_, List.getElem?_eq_getElem (by rw [HOL.out]; exact hlt)⟩
                obtain ⟨hxi, y, rfl, e1, e2, e3, e4, e5⟩ := (HOPS.out.kept HB.out) k x hx
                have HLT := Lib.hid hlt
                have hkb : (k : Int) < len2 := by omega
                have hki : (0 : Int) ≤ k := by omega
                have HK1 : Hid (IntKind.i64.wrap ((k : Int) + 1) = (k : Int) + 1) := IntWalk.i64_in _ (by have := HL2.out; omega)
                obtain ⟨xk, xs, xid, xi, xv⟩ := x
                dsimp only at e1 e2 e3 e4 e5 hxi
                have HXI := Lib.hid hxi
                have s17 := run_st5 W4 xk xs xid xi xv
                have hb5 : Below W4.heap.size W4 (W4.alloc (.cells #[.int .i64 xk, .int .i64 xs, .int .i64 xid, .int .i64 xi, .int .u32 (xv : Int)] 42)) := (Below.refl _ _).alloc (Nat.le_refl _) _
                have hx5 := heap_alloc_new W4 (.cells #[.int .i64 xk, .int .i64 xs, .int .i64 xid, .int .i64 xi, .int .u32 (xv : Int)] 42)
                have HHI4 : Hid (∀ p ∈ L, p.hi ≤ W4.heap.size) := fun p hp => (HIW.out.pt p hp).1.hs
                have hkind : ((xk == 1) = true ∧ (xk == 2) = false ∧ (xk == 0) = false) ∨ ((xk == 1) = false ∧ (xk == 2) = true ∧ (xk == 0) = false) ∨ ((xk == 1) = false ∧ (xk == 2) = false ∧ (xk == 0) = false) ∨ ((xk == 1) = false ∧ (xk == 2) = false ∧ (xk == 0) = true) := by
                  by_cases h1 : xk = 1
                  · left; subst h1; exact ⟨rfl, rfl, rfl⟩
                  · have e1 : (xk == 1) = false := by simp [h1]
                    by_cases h2 : xk = 2
                    · subst h2; exact .inr (.inl ⟨rfl, rfl, rfl⟩)
                    · have e2 : (xk == 2) = false := by simp [h2]
                      by_cases h3 : xk = 0
                      · subst h3; exact .inr (.inr (.inr ⟨rfl, rfl, rfl⟩))
                      · exact .inr (.inr (.inl ⟨e1, e2, by simp [h3]⟩))
                have HKIND := Lib.hid hkind
                clear hlt hk hx hxi hkind
                go_upto_region 18 with fail
                obtain ⟨W5, hW5⟩ : ∃ W', W4.alloc (.cells #[.int .i64 xk, .int .i64 xs, .int .i64 xid, .int .i64 xi, .int .u32 (xv : Int)] 42) = W' := ⟨_, rfl⟩
                obtain ⟨Q, hQ⟩ : ∃ Q, W4.heap.size = Q := ⟨_, rfl⟩
                rw [hW5, hQ] at hx5
                rw [hW5] at hb5
                rw [hQ] at HHI4
                rw [hW5, hQ]
                have HIW5 := Lib.hid (HIW.out.keep hb5)
                have HRD5 := Lib.hid (HRD.out.keep hb5)
                have HB5 := Lib.hid (HB.out.trans (hb5.mono HB.out.size))
                have HHW5 : Hid (H ≤ W5.heap.size) := Nat.le_trans HHW.out hb5.size
                have HX5 := Lib.hid hx5
                have q0 := cell_of_row W5 _ 0 _ _ _ hx5
                have q1 := cell_of_row W5 _ 1 _ _ _ hx5
                have q2 := cell_of_row W5 _ 2 _ _ _ hx5
                have q3 := cell_of_row W5 _ 3 _ _ _ hx5
                have q4 := cell_of_row W5 _ 4 _ _ _ hx5
                simp only [List.getElem?_toArray, List.getElem?_cons_zero, List.getElem?_cons_succ] at q0 q1 q2 q3 q4
                have HQK : Hid (∀ W', Below W5.heap.size W5 W' → W'.cell? ⟨Q, 0, none⟩ = some (.int .i64 xk) ∧ W'.cell? ⟨Q, 1, none⟩ = some (.int .i64 xs) ∧ W'.cell? ⟨Q, 3, none⟩ = some (.int .i64 xi) ∧ W'.cell? ⟨Q, 4, none⟩ = some (.int .u32 (xv : Int))) := fun W' b => by
                  have h := (b.block _ (lt_of_block HX5.out)).trans HX5.out
                  refine ⟨?_, ?_, ?_, ?_⟩ <;> rw [cell_of_row W' _ _ _ _ _ h] <;> rfl
                have hget := get_any HIW5.out xid HXI.out
                have hatr := rat_any HRD5.out.row (by have := HNO.out; have := HN20.out; omega) xid
                try rw [HNO.out] at hatr
                have HOST : Hid (∀ r ∈ out, Bd r.m r.st r.wr (k + 1)) := fun r hr => by
                  have h1 : r.q ∈ L.map CP.q := by rw [← HOQ.out]; exact List.mem_map.2 ⟨r, hr, rfl⟩
                  obtain ⟨p, hp, hpq⟩ := List.mem_map.1 h1
                  have h2 := HBD.out p hp
                  rw [show p.m = r.m from congrArg QS.m hpq, show p.st = r.st from congrArg QS.st hpq, show p.wr = r.wr from congrArg QS.wr hpq] at h2
                  exact h2
                clear hW5 hQ hb5 hx5 e1 e2 e3 e4 e5 s17 HIW HRD HB HHW
                rcases both_at HOQ.out HIW5.out.up xid with ⟨j, p, r, hp, hr, hrq, hid, hf, ha⟩ | ⟨hf, ha⟩
                · have HGET : Hid _ := Lib.hid hget
                  rw [hf] at HGET
                  simp only [Option.map_some, Option.getD_some, Option.isSome_some, CP.ptr] at HGET
                  have HATR := Lib.hid hatr
                  rw [ha] at HATR
                  rcases HKIND.out with ⟨k1, k2, k0⟩ | ⟨k1, k2, k0⟩ | ⟨k1, k2, k0⟩ | ⟨k1, k2, k0⟩
                  · as_aux_lemma =>
                      have hpm := List.mem_of_getElem? hp
                      have HPM := Lib.hid hpm
                      have HPJ := Lib.hid hp
                      have HPT := Lib.hid (HIW5.out.pt p hpm)
                      have HBDJ := Lib.hid (HBD.out p hpm)
                      obtain ⟨rs, rB, rbc, rm, rst, rca, rN, rnc, rns, rwr⟩ := r
                      obtain rfl : rs = p.s := congrArg QS.s hrq
                      obtain rfl : rm = p.m := congrArg QS.m hrq
                      obtain rfl : rst = p.st := congrArg QS.st hrq
                      obtain rfl : rca = p.ca := congrArg QS.ca hrq
                      obtain rfl : rns = p.ns := congrArg QS.ns hrq
                      obtain rfl : rwr = p.wr := congrArg QS.wr hrq
                      have HRJ := Lib.hid hr
                      have HROK := Lib.hid (HRD5.out.row.2 _ (List.mem_of_getElem? hr))
                      obtain ⟨gg, cc, hv, -⟩ := HRD5.out.row.cells hr
                      injection hv with hv1 hv2 hv3
                      subst hv1
                      have hjn : (j : Int) < n0 := by have := (List.getElem?_eq_some_iff.1 hp).1; have := HNL.out; omega
                      have hj0 : (0 : Int) ≤ j := by omega
                      clear hf ha hget hatr hpm hp hr hrq hv2 hv3 hid
                      go_wp2_with (first
                        | (go_at_call 12; refine HGET.out.mono ?_; rintro e wA ⟨rfl, rfl⟩)
                        | (go_at_call 13; refine HATR.out.mono ?_; rintro e wB ⟨rfl, hbA⟩; have HBA := Lib.hid hbA; obtain ⟨b0, b1, b3, b4⟩ := HQK.out wB hbA; clear hbA q0 q1 q2 q3 q4))
                      have HDOC := Lib.hid (fun (W' : World) (b : Below W5.heap.size W5 W') => rsetmode_any (s := p.s) (a := rB) (cap := rbc) (N := rN) (nc := rnc) (m := p.m) (st := p.st) (ca := p.ca) (ns := p.ns) (wr := p.wr) W' (HROK.out.1.kept b) HROK.out.2.1 HROK.out.2.2.2.2 HROK.out.2.2.2.1 (HROK.out.2.2.1.kept b) ⟨(HBDJ.out).2.1.1, by have := (HBDJ.out).2.1.2; have := HL2.out; have := HLT.out; omega⟩ xi)
                      have HCL : Hid (∀ W', Below W5.heap.size W5 W' → ∀ j', j' < 10 → W'.cell? ⟨gg, j * 10 + j', none⟩ = (⟨p.s, rB, rbc, p.m, p.st, p.ca, rN, rnc, p.ns, p.wr⟩ : RX).blk[j']?) := fun W' b => by
                        obtain ⟨g2, c2, hv, hc⟩ := (HRD5.out.row.keep b).cells HRJ.out
                        injection hv with hv1 _ _
                        have hgg : gg = g2 := by have := Option.some.inj hv1; injection this
                        rw [hgg]
                        exact hc
                      have HSS12 : Hid (∀ wx, Below W5.heap.size W5 wx → wx.cell? ⟨gg, j * 10, none⟩ = some (.int .i64 p.s.id) ∧ wx.cell? ⟨gg, j * 10 + 1, none⟩ = some (.string p.s.nm) ∧ wx.cell? ⟨gg, j * 10 + 2, none⟩ = some (.bool p.s.may) ∧ wx.cell? ⟨gg, j * 10 + 3, none⟩ = some (.slice rB p.s.n rbc) ∧ wx.cell? ⟨gg, j * 10 + 4, none⟩ = some (.int .i64 p.m) ∧ wx.cell? ⟨gg, j * 10 + 5, none⟩ = some (.int .i64 p.st) ∧ wx.cell? ⟨gg, j * 10 + 6, none⟩ = some (.int .i64 p.ca) ∧ wx.cell? ⟨gg, j * 10 + 7, none⟩ = some (.slice rB p.s.n rbc) ∧ wx.cell? ⟨gg, j * 10 + 8, none⟩ = some (.slice rN p.s.n rnc) ∧ wx.cell? ⟨gg, j * 10 + 9, none⟩ = some (.int .i64 p.wr) ∧ wx.cell? ⟨Q, 3, none⟩ = some (.int .i64 xi)) := fun W' b => ⟨HCL.out W' b 0 (by omega), HCL.out W' b 1 (by omega), HCL.out W' b 2 (by omega), HCL.out W' b 3 (by omega), HCL.out W' b 4 (by omega), HCL.out W' b 5 (by omega), HCL.out W' b 6 (by omega), HCL.out W' b 7 (by omega), HCL.out W' b 8 (by omega), HCL.out W' b 9 (by omega), (HQK.out W' b).2.2.1⟩
                      have HE0 : Hid (Below wB.heap.size wB wB.drew) := ⟨rfl, rfl, rfl, Nat.le_refl _, fun _ _ => rfl⟩
                      have HE1 : Hid (Below wB.heap.size wB (wB.drew.alloc (.cells zR 51))) := (HE0.out).alloc (Nat.le_refl _) _
                      have HXA : Hid ((wB.drew.alloc (.cells zR 51)).heap[wB.heap.size]? = some (.cells zR 51 (0, 0))) := heap_alloc_new wB.drew _
                      have HBT : Hid (∀ W', Below wB.heap.size wB W' → Below W5.heap.size W5 W') := fun W' b => HBA.out.trans (b.mono HBA.out.size)
                      have HA0 := Lib.hid (HSS12.out _ (HBT.out _ HE0.out))
                      have HA1 := Lib.hid (HSS12.out _ (HBT.out _ HE1.out))
                      have hNl : p.ns ≠ [] → ∀ y, rN = some y → y.block < wB.heap.size := fun h y hy => Nat.lt_of_lt_of_le (NumsAt.lt HROK.out.1 h y hy) HBA.out.size
                      have HNE2 : Hid (∀ (X S : Nat), wB.heap.size ≤ X → X < S → p.ns ≠ [] → ∀ (y : Addr), (S ≤ y.block ∨ rN = some y) → y.block ≠ X) := fun X S h0 h1 h2 y h3 => by
                        rcases h3 with h3 | h3
                        · omega
                        · have := hNl h2 y h3; omega
                      obtain ⟨f0, f1, f2, f3, f4, f5, f6, f7, f8, f9, f10⟩ := HA0.out
                      clear hNl
                      unfold zR at HA1
                      go_cut [18, 19] from 132 to 141 (fun pv d wx => RbPost (⟨p.s, rB, rbc, p.m, p.st, p.ca, rN, rnc, p.ns, p.wr⟩ : RX) (setM p.m xi) (goN (setS p.m xi) p.st) (goC (setS p.m xi) 1 p.ca) (goL (setS p.m xi) p.s.fs p.ns) (goW (setS p.m xi) p.wr) (.int .i64 (askN p.m xi)) wB pv d wx)
                      case first =>
                        go_region_held3 (fun wx => wx.cell? ⟨gg, j * 10, none⟩ = some (.int .i64 p.s.id) ∧ wx.cell? ⟨gg, j * 10 + 1, none⟩ = some (.string p.s.nm) ∧ wx.cell? ⟨gg, j * 10 + 2, none⟩ = some (.bool p.s.may) ∧ wx.cell? ⟨gg, j * 10 + 3, none⟩ = some (.slice rB p.s.n rbc) ∧ wx.cell? ⟨gg, j * 10 + 4, none⟩ = some (.int .i64 p.m) ∧ wx.cell? ⟨gg, j * 10 + 5, none⟩ = some (.int .i64 p.st) ∧ wx.cell? ⟨gg, j * 10 + 6, none⟩ = some (.int .i64 p.ca) ∧ wx.cell? ⟨gg, j * 10 + 7, none⟩ = some (.slice rB p.s.n rbc) ∧ wx.cell? ⟨gg, j * 10 + 8, none⟩ = some (.slice rN p.s.n rnc) ∧ wx.cell? ⟨gg, j * 10 + 9, none⟩ = some (.int .i64 p.wr) ∧ wx.cell? ⟨Q, 3, none⟩ = some (.int .i64 xi))
                          (first | assumption | exact HA0.out | exact HA1.out | exact HA4.out | exact HA4a.out | exact HA5.out | (go_keep; done))
                          (first
                            | (go_at_call 14; refine (HDOC.out _ (HBT.out _ HE0.out)).mono ?_; rintro e W4 ⟨N', nc, rfl, hnum, hnb, hb4⟩; have HB4 : Hid (Below wB.heap.size wB W4) := HE0.out.trans (hb4.mono HE0.out.size); have HA4 := Lib.hid (HSS12.out W4 (HBT.out _ HB4.out)); have hb5 := HB4.out.alloc HB4.out.size (.cells zR 51); have HA4a := Lib.hid (HSS12.out (W4.alloc (.cells zR 51)) (HBT.out _ hb5)); have HRC := Lib.hid (rb_done (r := (⟨p.s, rB, rbc, p.m, p.st, p.ca, rN, rnc, p.ns, p.wr⟩ : RX)) (st := goN (setS p.m xi) p.st) (ca := goC (setS p.m xi) 1 p.ca) (m := setM p.m xi) (wr := goW (setS p.m xi) p.wr) (dv := .int .i64 (askN p.m xi)) (nc := nc) (X := W4.heap.size) HB4.out.size (heap_alloc_new W4 _) hb5 (hnum.kept ((Below.refl _ _).alloc (Nat.le_refl _) _)) (fun h y hy => Nat.ne_of_lt (NumsAt.lt hnum h y hy)) hnb); have hst4 := HRC.out.1; have HA5 := Lib.hid (HSS12.out _ (HBT.out _ HRC.out.2.2)); unfold zR at HA4a hst4 HA5; clear hnum hnb hb4 hb5)
                            | (go_at_call 14; refine (HDOC.out _ (HBT.out _ HE1.out)).mono ?_; rintro e W4 ⟨N', nc, rfl, hnum, hnb, hb4⟩; have HB4 : Hid (Below wB.heap.size wB W4) := HE1.out.trans (hb4.mono HE1.out.size); have HX4 : Hid (W4.heap[wB.heap.size]? = some (.cells zR 51 (0, 0))) := (hb4.block _ (lt_of_block HXA.out)).trans HXA.out; have HA4 := Lib.hid (HSS12.out W4 (HBT.out _ HB4.out)); have HRC := Lib.hid (rb_done (r := (⟨p.s, rB, rbc, p.m, p.st, p.ca, rN, rnc, p.ns, p.wr⟩ : RX)) (st := goN (setS p.m xi) p.st) (ca := goC (setS p.m xi) 1 p.ca) (m := setM p.m xi) (wr := goW (setS p.m xi) p.wr) (dv := .int .i64 (askN p.m xi)) (nc := nc) (Nat.le_refl _) HX4.out HB4.out hnum (fun h y hy => HNE2.out wB.heap.size _ (Nat.le_refl _) (lt_of_block HXA.out) (goL_ne h) y (hnb y hy)) (fun y hy => (hnb y hy).imp (fun (h : (wB.drew.alloc (.cells zR 51)).heap.size ≤ y.block) => Nat.le_trans HE1.out.size h) id)); have hst4 := HRC.out.1; have HA5 := Lib.hid (HSS12.out _ (HBT.out _ HRC.out.2.2)); clear hnum hnb hb4))
                        all_goals
                          clear HA0 HA1
                          go_wp2
                          go_meet
                          case rel => exact HRC.out.2.1
                      case rest =>
                      rename World => W6
                      obtain ⟨N', nc, X, rfl, rfl, hX, hx, hnum, hnb, hb6⟩ := hcut
                      have HX6 := Lib.hid hx
                      have HB6 := Lib.hid (HBA.out.trans (hb6.mono HBA.out.size))
                      have HRP : Hid ((⟨p.s, rB, rbc, setM p.m xi, goN (setS p.m xi) p.st, goC (setS p.m xi) 1 p.ca, N', nc, goL (setS p.m xi) p.s.fs p.ns, goW (setS p.m xi) p.wr⟩ : RX).ok W6) := ⟨hnum, by show (goL _ _ _).length = p.s.n; rw [goL_len (by rw [HROK.out.2.1, HROK.out.2.2.2.1])]; exact HROK.out.2.1, HROK.out.2.2.1.kept HB6.out, HROK.out.2.2.2⟩
                      have HNP : Hid ((⟨p.s, rB, rbc, setM p.m xi, goN (setS p.m xi) p.st, goC (setS p.m xi) 1 p.ca, N', nc, goL (setS p.m xi) p.s.fs p.ns, goW (setS p.m xi) p.wr⟩ : RX).ns ≠ [] → ∀ y, (⟨p.s, rB, rbc, setM p.m xi, goN (setS p.m xi) p.st, goC (setS p.m xi) 1 p.ca, N', nc, goL (setS p.m xi) p.s.fs p.ns, goW (setS p.m xi) p.wr⟩ : RX).N = some y → H ≤ y.block) := fun h y hy => by
                        rcases hnb y hy with h1 | h1
                        · exact Nat.le_trans (Nat.le_trans HHW5.out HBA.out.size) h1
                        · exact HRD5.out.num _ (List.mem_of_getElem? HRJ.out) (goL_ne h) y h1
                      have hput := rput_any (HRD5.out.row.keep HB6.out) (by have := HNO.out; have := HN20.out; omega) j (List.getElem?_eq_some_iff.1 HRJ.out).1 (⟨p.s, rB, rbc, setM p.m xi, goN (setS p.m xi) p.st, goC (setS p.m xi) 1 p.ca, N', nc, goL (setS p.m xi) p.s.fs p.ns, goW (setS p.m xi) p.wr⟩ : RX) HRP.out
                      try rw [HNO.out] at hput
                      have HPUT := Lib.hid hput
                      clear hput hX hx hnum hnb hb6 HA0 HA1 HE0 HE1 HXA HNE2 f0 f1 f2 f3 f4 f5 f6 f7 f8 f9 f10 HDOC
                      go_upto_region 24 with fail
                      go_wp2_with ((with_reducible show wpList _ _ _ _ _ _); refine wpList_load_row rfl 51 (.tmp 18) rfl X rfl 51 _ (0, 0) _ HX6.out Try.underlying51 rfl size_rp ?_)
                      refine HPUT.out.mono ?_
                      rintro e W7 ⟨V7, rfl, hrow7, hb7⟩
                      have HB7 := Lib.hid (HB6.out.trans (hb7.mono HB6.out.size))
                      have HRD7 : Hid (RD W7 H l V7 (out.set j (⟨p.s, rB, rbc, setM p.m xi, goN (setS p.m xi) p.st, goC (setS p.m xi) 1 p.ca, N', nc, goL (setS p.m xi) p.s.fs p.ns, goW (setS p.m xi) p.wr⟩ : RX))) := RD.put (HRD5.out.keep HB7.out) HRJ.out hrow7 (Nat.le_trans HHW5.out HB6.out.size) rfl rfl rfl HNP.out
                      have HIW7 := Lib.hid (HIW5.out.keep HB7.out)
                      have HPT7 : Hid (p.On W7) := (HIW7.out.pt p HPM.out).1
                      clear hrow7 hb7 HPUT HX6 HRP HNP
                      go_upto_region 25 with fail
                      have HPR := Lib.hid (setmode_any (IsP.drewN HPT7.out 1) HPT.out.2.2.2.2.2.2 ⟨(HBDJ.out).2.1.1, by have := (HBDJ.out).2.1.2; have := HL2.out; have := HLT.out; omega⟩ xi)
                      have HDR : Hid (Below W5.heap.size W5 W7.drew) := HB7.out.drew
                      have HKP0 : Hid (W7.drew.cell? ⟨Q, 3, none⟩ = some (.int .i64 xi)) := (HQK.out _ HDR.out).2.2.1
                      have HQK8 : Hid (∀ wx, Rng p.lo p.hi W7.drew wx → wx.cell? ⟨Q, 3, none⟩ = some (.int .i64 xi)) := fun W' r => by
                        have h1 := (HDR.out.block _ (lt_of_block HX5.out)).trans HX5.out
                        have h := (r.block _ (lt_of_block h1) (.inr (HHI4.out p HPM.out))).trans h1
                        rw [cell_of_row W' _ _ _ _ _ h] <;> rfl
                      have h3 := HKP0.out
                      have tA : ((askN p.m xi : Int) != askN p.m xi) = false := by simp
                      clear b0 b1 b3 b4
                      go_region_held3 (fun wx => wx.cell? ⟨Q, 3, none⟩ = some (.int .i64 xi))
                        (first | exact HKP.out | exact HKP0.out | assumption | (go_keep; done))
                        (first
                          | (go_at_call 16; refine HPR.out.mono ?_; rintro e W8 ⟨rfl, hp8, hr8⟩; have HKP := Lib.hid (HQK8.out W8 hr8); have HP8 := Lib.hid hp8; have HR8 := Lib.hid hr8; clear hp8 hr8))
                      all_goals
                        have hmv := (HIW7.out.drewN 1).moved HPJ.out (p' := { p with m := setM p.m xi, st := goN (setS p.m xi) p.st, ca := goC (setS p.m xi) 1 p.ca, ns := goL (setS p.m xi) p.s.fs p.ns, wr := goW (setS p.m xi) p.wr }) HP8.out HR8.out rfl rfl rfl rfl
                        have HIWn := Lib.hid hmv.1
                        have HBn : Hid (Below w.heap.size w W8) := Rng.below (HB5.out.trans (HDR.out.mono HB5.out.size)) HR8.out (Nat.le_trans HB5.out.size HDR.out.size) (Nat.le_trans HLO.out (HHI.out p HPM.out).2)
                        have HRDn : Hid (RD W8 H l V7 (out.set j (⟨p.s, rB, rbc, setM p.m xi, goN (setS p.m xi) p.st, goC (setS p.m xi) 1 p.ca, N', nc, goL (setS p.m xi) p.s.fs p.ns, goW (setS p.m xi) p.wr⟩ : RX))) := (HRD7.out.keep (⟨rfl, rfl, rfl, Nat.le_refl _, fun _ _ => rfl⟩ : Below W7.heap.size W7 W7.drew)).pr (PR.of_rng HPM.out HR8.out) (fun q hq => (HHI.out q hq).1) HOK.out HBn.out
                        have HLOSn := Lib.hid (set_los (p' := { p with m := setM p.m xi, st := goN (setS p.m xi) p.st, ca := goC (setS p.m xi) 1 p.ca, ns := goL (setS p.m xi) p.s.fs p.ns, wr := goW (setS p.m xi) p.wr }) HLOS.out HPJ.out rfl rfl)
                        have HSSn : Hid ((L.set j { p with m := setM p.m xi, st := goN (setS p.m xi) p.st, ca := goC (setS p.m xi) 1 p.ca, ns := goL (setS p.m xi) p.s.fs p.ns, wr := goW (setS p.m xi) p.wr }).map CP.s = l.map AP.s) := by
                          show _ = _
                          rw [← HSS.out, List.map_set]
                          exact RD.put.set_same (by rw [List.getElem?_map, HPJ.out]; rfl)
                        have HOQn := Lib.hid (set_qs (j := j) (p' := { p with m := setM p.m xi, st := goN (setS p.m xi) p.st, ca := goC (setS p.m xi) 1 p.ca, ns := goL (setS p.m xi) p.s.fs p.ns, wr := goW (setS p.m xi) p.wr }) (r' := (⟨p.s, rB, rbc, setM p.m xi, goN (setS p.m xi) p.st, goC (setS p.m xi) 1 p.ca, N', nc, goL (setS p.m xi) p.s.fs p.ns, goW (setS p.m xi) p.wr⟩ : RX)) HOQ.out rfl)
                        have HBDn := Lib.hid (set_bd (j := j) (p' := { p with m := setM p.m xi, st := goN (setS p.m xi) p.st, ca := goC (setS p.m xi) 1 p.ca, ns := goL (setS p.m xi) p.s.fs p.ns, wr := goW (setS p.m xi) p.wr }) HBD.out ⟨setM_in HBDJ.out.1, goN_in HBDJ.out.2.1, goW_in HBDJ.out.2.2⟩)
                        have HHn : Hid (H ≤ W8.heap.size) := by show _ ≤ _; have := HHW5.out; have h1 := HDR.out.size; have h2 : W7.drew.heap.size ≤ W8.heap.size := HR8.out.size; omega
                        obtain ⟨L2, hL2⟩ : ∃ L2, L.set j { p with m := setM p.m xi, st := goN (setS p.m xi) p.st, ca := goC (setS p.m xi) 1 p.ca, ns := goL (setS p.m xi) p.s.fs p.ns, wr := goW (setS p.m xi) p.wr } = L2 := ⟨_, rfl⟩
                        obtain ⟨o2, ho2⟩ : ∃ o2, out.set j (⟨p.s, rB, rbc, setM p.m xi, goN (setS p.m xi) p.st, goC (setS p.m xi) 1 p.ca, N', nc, goL (setS p.m xi) p.s.fs p.ns, goW (setS p.m xi) p.wr⟩ : RX) = o2 := ⟨_, rfl⟩
                        rw [hL2] at HIWn HLOSn HSSn HOQn HBDn
                        rw [ho2] at HRDn HOQn
                        clear hmv hL2 ho2 HP8 HR8 HKP HIW7 HRD7 HPT7 HIW5 HRD5
                        have HNLn : Hid (L2.length = n0) := by
                          show _ = _
                          have h1 := congrArg List.length HSSn.out
                          rw [List.length_map, List.length_map] at h1
                          rw [h1]; exact HN0.out
                        have HNOn : Hid (o2.length = n0) := by
                          show _ = _
                          have h1 := congrArg List.length HOQn.out
                          rw [List.length_map, List.length_map] at h1
                          rw [h1]; exact HNLn.out
                        have hsh := shots_any HIWn.out (by have := HNLn.out; have := HN20.out; omega)
                        rw [HNLn.out] at hsh
                        have HSH := Lib.hid hsh
                        clear hsh
                        go_wp2_with fail
                        refine HSH.out.mono ?_
                        rintro e wS ⟨R1, D1, rfl, -, hbr1, hdl1, hsd1, hbS⟩
                        have hun := unlike22_any (c := n0) hsd1 hbr1 (by rw [hdl1, HNLn.out]) (HRDn.out.keep hbS).row HOQn.out (by have := HNLn.out; have := HN20.out; omega)
                        rw [HNLn.out] at hun
                        have HUN := Lib.hid hun
                        have HbS := Lib.hid hbS
                        clear hun hbr1 hdl1 hsd1 hbS HSH
                        go_wp2_with fail
                        refine HUN.out.mono ?_
                        rintro e wU ⟨rfl, hbU⟩
                        have HSU := Lib.hid (HbS.out.trans (hbU.mono HbS.out.size))
                        have tE : ((⟨#[]⟩ : ByteArray) != ⟨#[]⟩) = false := by decide
                        have hk1 := HK1.out
                        clear hbU HUN
                        go_wp2
                        go_roundw
                        case rel => exact ⟨k + 1, L2, o2, HLT.out, by go_num, HIWn.out.keep HSU.out, HLOSn.out, HSSn.out, HRDn.out.keep HSU.out, HOQn.out, HBDn.out, Nat.le_trans HHn.out HSU.out.size, HBn.out.trans (HSU.out.mono HBn.out.size)⟩
                        case measure => have := HLT.out; simp [intOf]; omega
                  · as_aux_lemma =>
                      have hpm := List.mem_of_getElem? hp
                      have HPM := Lib.hid hpm
                      have HPJ := Lib.hid hp
                      have HPT := Lib.hid (HIW5.out.pt p hpm)
                      have HBDJ := Lib.hid (HBD.out p hpm)
                      obtain ⟨rs, rB, rbc, rm, rst, rca, rN, rnc, rns, rwr⟩ := r
                      obtain rfl : rs = p.s := congrArg QS.s hrq
                      obtain rfl : rm = p.m := congrArg QS.m hrq
                      obtain rfl : rst = p.st := congrArg QS.st hrq
                      obtain rfl : rca = p.ca := congrArg QS.ca hrq
                      obtain rfl : rns = p.ns := congrArg QS.ns hrq
                      obtain rfl : rwr = p.wr := congrArg QS.wr hrq
                      have HRJ := Lib.hid hr
                      have HROK := Lib.hid (HRD5.out.row.2 _ (List.mem_of_getElem? hr))
                      obtain ⟨gg, cc, hv, -⟩ := HRD5.out.row.cells hr
                      injection hv with hv1 hv2 hv3
                      subst hv1
                      have hjn : (j : Int) < n0 := by have := (List.getElem?_eq_some_iff.1 hp).1; have := HNL.out; omega
                      have hj0 : (0 : Int) ≤ j := by omega
                      clear hf ha hget hatr hpm hp hr hrq hv2 hv3 hid
                      go_wp2_with (first
                        | (go_at_call 12; refine HGET.out.mono ?_; rintro e wA ⟨rfl, rfl⟩)
                        | (go_at_call 13; refine HATR.out.mono ?_; rintro e wB ⟨rfl, hbA⟩; have HBA := Lib.hid hbA; obtain ⟨b0, b1, b3, b4⟩ := HQK.out wB hbA; clear hbA q0 q1 q2 q3 q4))
                      have HDOC := Lib.hid (fun (W' : World) (b : Below W5.heap.size W5 W') => rwrite_any (s := p.s) (a := rB) (cap := rbc) (N := rN) (nc := rnc) (m := p.m) (st := p.st) (ca := p.ca) (ns := p.ns) (wr := p.wr) W' (HROK.out.1.kept b) HROK.out.2.1 HROK.out.2.2.2.2 ⟨(HBDJ.out).2.2.1, by have := (HBDJ.out).2.2.2; have := HL2.out; have := HLT.out; omega⟩ xi xv)
                      have HCL : Hid (∀ W', Below W5.heap.size W5 W' → ∀ j', j' < 10 → W'.cell? ⟨gg, j * 10 + j', none⟩ = (⟨p.s, rB, rbc, p.m, p.st, p.ca, rN, rnc, p.ns, p.wr⟩ : RX).blk[j']?) := fun W' b => by
                        obtain ⟨g2, c2, hv, hc⟩ := (HRD5.out.row.keep b).cells HRJ.out
                        injection hv with hv1 _ _
                        have hgg : gg = g2 := by have := Option.some.inj hv1; injection this
                        rw [hgg]
                        exact hc
                      have HSS12 : Hid (∀ wx, Below W5.heap.size W5 wx → wx.cell? ⟨gg, j * 10, none⟩ = some (.int .i64 p.s.id) ∧ wx.cell? ⟨gg, j * 10 + 1, none⟩ = some (.string p.s.nm) ∧ wx.cell? ⟨gg, j * 10 + 2, none⟩ = some (.bool p.s.may) ∧ wx.cell? ⟨gg, j * 10 + 3, none⟩ = some (.slice rB p.s.n rbc) ∧ wx.cell? ⟨gg, j * 10 + 4, none⟩ = some (.int .i64 p.m) ∧ wx.cell? ⟨gg, j * 10 + 5, none⟩ = some (.int .i64 p.st) ∧ wx.cell? ⟨gg, j * 10 + 6, none⟩ = some (.int .i64 p.ca) ∧ wx.cell? ⟨gg, j * 10 + 7, none⟩ = some (.slice rB p.s.n rbc) ∧ wx.cell? ⟨gg, j * 10 + 8, none⟩ = some (.slice rN p.s.n rnc) ∧ wx.cell? ⟨gg, j * 10 + 9, none⟩ = some (.int .i64 p.wr) ∧ wx.cell? ⟨Q, 3, none⟩ = some (.int .i64 xi) ∧ wx.cell? ⟨Q, 4, none⟩ = some (.int .u32 (xv : Int))) := fun W' b => ⟨HCL.out W' b 0 (by omega), HCL.out W' b 1 (by omega), HCL.out W' b 2 (by omega), HCL.out W' b 3 (by omega), HCL.out W' b 4 (by omega), HCL.out W' b 5 (by omega), HCL.out W' b 6 (by omega), HCL.out W' b 7 (by omega), HCL.out W' b 8 (by omega), HCL.out W' b 9 (by omega), (HQK.out W' b).2.2⟩
                      have HE0 : Hid (Below wB.heap.size wB wB.drew) := ⟨rfl, rfl, rfl, Nat.le_refl _, fun _ _ => rfl⟩
                      have HE1 : Hid (Below wB.heap.size wB (wB.drew.alloc (.cells zR 51))) := (HE0.out).alloc (Nat.le_refl _) _
                      have HXA : Hid ((wB.drew.alloc (.cells zR 51)).heap[wB.heap.size]? = some (.cells zR 51 (0, 0))) := heap_alloc_new wB.drew _
                      have HBT : Hid (∀ W', Below wB.heap.size wB W' → Below W5.heap.size W5 W') := fun W' b => HBA.out.trans (b.mono HBA.out.size)
                      have HA0 := Lib.hid (HSS12.out _ (HBT.out _ HE0.out))
                      have HA1 := Lib.hid (HSS12.out _ (HBT.out _ HE1.out))
                      have hNl : p.ns ≠ [] → ∀ y, rN = some y → y.block < wB.heap.size := fun h y hy => Nat.lt_of_lt_of_le (NumsAt.lt HROK.out.1 h y hy) HBA.out.size
                      have HNE2 : Hid (∀ (X S : Nat), wB.heap.size ≤ X → X < S → p.ns ≠ [] → ∀ (y : Addr), (S ≤ y.block ∨ rN = some y) → y.block ≠ X) := fun X S h0 h1 h2 y h3 => by
                        rcases h3 with h3 | h3
                        · omega
                        · have := hNl h2 y h3; omega
                      obtain ⟨f0, f1, f2, f3, f4, f5, f6, f7, f8, f9, f10, f11⟩ := HA0.out
                      clear hNl
                      unfold zR at HA1
                      go_cut [20, 21] from 161 to 172 (fun pv d wx => RbPost (⟨p.s, rB, rbc, p.m, p.st, p.ca, rN, rnc, p.ns, p.wr⟩ : RX) (p.m) (p.st) (p.ca) (wL p.m p.s.n xi xv p.ns) (wW p.m p.s.n xi p.wr) (.int .i64 (cellK p.m p.s.n xi)) wB pv d wx)
                      case first =>
                        go_region_held3 (fun wx => wx.cell? ⟨gg, j * 10, none⟩ = some (.int .i64 p.s.id) ∧ wx.cell? ⟨gg, j * 10 + 1, none⟩ = some (.string p.s.nm) ∧ wx.cell? ⟨gg, j * 10 + 2, none⟩ = some (.bool p.s.may) ∧ wx.cell? ⟨gg, j * 10 + 3, none⟩ = some (.slice rB p.s.n rbc) ∧ wx.cell? ⟨gg, j * 10 + 4, none⟩ = some (.int .i64 p.m) ∧ wx.cell? ⟨gg, j * 10 + 5, none⟩ = some (.int .i64 p.st) ∧ wx.cell? ⟨gg, j * 10 + 6, none⟩ = some (.int .i64 p.ca) ∧ wx.cell? ⟨gg, j * 10 + 7, none⟩ = some (.slice rB p.s.n rbc) ∧ wx.cell? ⟨gg, j * 10 + 8, none⟩ = some (.slice rN p.s.n rnc) ∧ wx.cell? ⟨gg, j * 10 + 9, none⟩ = some (.int .i64 p.wr) ∧ wx.cell? ⟨Q, 3, none⟩ = some (.int .i64 xi) ∧ wx.cell? ⟨Q, 4, none⟩ = some (.int .u32 (xv : Int)))
                          (first | assumption | exact HA0.out | exact HA1.out | exact HA4.out | exact HA4a.out | exact HA5.out | (go_keep; done))
                          (first
                            | (go_at_call 17; refine (HDOC.out _ (HBT.out _ HE0.out)).mono ?_; rintro e W4 ⟨N', nc, rfl, hnum, hnb, hb4⟩; have HB4 : Hid (Below wB.heap.size wB W4) := HE0.out.trans (hb4.mono HE0.out.size); have HA4 := Lib.hid (HSS12.out W4 (HBT.out _ HB4.out)); have hb5 := HB4.out.alloc HB4.out.size (.cells zR 51); have HA4a := Lib.hid (HSS12.out (W4.alloc (.cells zR 51)) (HBT.out _ hb5)); have HRC := Lib.hid (rb_done (r := (⟨p.s, rB, rbc, p.m, p.st, p.ca, rN, rnc, p.ns, p.wr⟩ : RX)) (st := p.st) (ca := p.ca) (m := p.m) (wr := wW p.m p.s.n xi p.wr) (dv := .int .i64 (cellK p.m p.s.n xi)) (nc := nc) (X := W4.heap.size) HB4.out.size (heap_alloc_new W4 _) hb5 (hnum.kept ((Below.refl _ _).alloc (Nat.le_refl _) _)) (fun h y hy => Nat.ne_of_lt (NumsAt.lt hnum h y hy)) hnb); have hst4 := HRC.out.1; have HA5 := Lib.hid (HSS12.out _ (HBT.out _ HRC.out.2.2)); unfold zR at HA4a hst4 HA5; clear hnum hnb hb4 hb5)
                            | (go_at_call 17; refine (HDOC.out _ (HBT.out _ HE1.out)).mono ?_; rintro e W4 ⟨N', nc, rfl, hnum, hnb, hb4⟩; have HB4 : Hid (Below wB.heap.size wB W4) := HE1.out.trans (hb4.mono HE1.out.size); have HX4 : Hid (W4.heap[wB.heap.size]? = some (.cells zR 51 (0, 0))) := (hb4.block _ (lt_of_block HXA.out)).trans HXA.out; have HA4 := Lib.hid (HSS12.out W4 (HBT.out _ HB4.out)); have HRC := Lib.hid (rb_done (r := (⟨p.s, rB, rbc, p.m, p.st, p.ca, rN, rnc, p.ns, p.wr⟩ : RX)) (st := p.st) (ca := p.ca) (m := p.m) (wr := wW p.m p.s.n xi p.wr) (dv := .int .i64 (cellK p.m p.s.n xi)) (nc := nc) (Nat.le_refl _) HX4.out HB4.out hnum (fun h y hy => HNE2.out wB.heap.size _ (Nat.le_refl _) (lt_of_block HXA.out) (wL_ne h) y (hnb y hy)) (fun y hy => (hnb y hy).imp (fun (h : (wB.drew.alloc (.cells zR 51)).heap.size ≤ y.block) => Nat.le_trans HE1.out.size h) id)); have hst4 := HRC.out.1; have HA5 := Lib.hid (HSS12.out _ (HBT.out _ HRC.out.2.2)); clear hnum hnb hb4))
                        all_goals
                          clear HA0 HA1
                          go_wp2
                          go_meet
                          case rel => exact HRC.out.2.1
                      case rest =>
                      rename World => W6
                      obtain ⟨N', nc, X, rfl, rfl, hX, hx, hnum, hnb, hb6⟩ := hcut
                      have HX6 := Lib.hid hx
                      have HB6 := Lib.hid (HBA.out.trans (hb6.mono HBA.out.size))
                      have HRP : Hid ((⟨p.s, rB, rbc, p.m, p.st, p.ca, N', nc, wL p.m p.s.n xi xv p.ns, wW p.m p.s.n xi p.wr⟩ : RX).ok W6) := ⟨hnum, by show (wL _ _ _ _ _).length = p.s.n; rw [wL_len]; exact HROK.out.2.1, HROK.out.2.2.1.kept HB6.out, HROK.out.2.2.2⟩
                      have HNP : Hid ((⟨p.s, rB, rbc, p.m, p.st, p.ca, N', nc, wL p.m p.s.n xi xv p.ns, wW p.m p.s.n xi p.wr⟩ : RX).ns ≠ [] → ∀ y, (⟨p.s, rB, rbc, p.m, p.st, p.ca, N', nc, wL p.m p.s.n xi xv p.ns, wW p.m p.s.n xi p.wr⟩ : RX).N = some y → H ≤ y.block) := fun h y hy => by
                        rcases hnb y hy with h1 | h1
                        · exact Nat.le_trans (Nat.le_trans HHW5.out HBA.out.size) h1
                        · exact HRD5.out.num _ (List.mem_of_getElem? HRJ.out) (wL_ne h) y h1
                      have hput := rput_any (HRD5.out.row.keep HB6.out) (by have := HNO.out; have := HN20.out; omega) j (List.getElem?_eq_some_iff.1 HRJ.out).1 (⟨p.s, rB, rbc, p.m, p.st, p.ca, N', nc, wL p.m p.s.n xi xv p.ns, wW p.m p.s.n xi p.wr⟩ : RX) HRP.out
                      try rw [HNO.out] at hput
                      have HPUT := Lib.hid hput
                      clear hput hX hx hnum hnb hb6 HA0 HA1 HE0 HE1 HXA HNE2 f0 f1 f2 f3 f4 f5 f6 f7 f8 f9 f10 f11 HDOC
                      go_upto_region 29 with fail
                      go_wp2_with ((with_reducible show wpList _ _ _ _ _ _); refine wpList_load_row rfl 51 (.tmp 20) rfl X rfl 51 _ (0, 0) _ HX6.out Try.underlying51 rfl size_rp ?_)
                      refine HPUT.out.mono ?_
                      rintro e W7 ⟨V7, rfl, hrow7, hb7⟩
                      have HB7 := Lib.hid (HB6.out.trans (hb7.mono HB6.out.size))
                      have HRD7 : Hid (RD W7 H l V7 (out.set j (⟨p.s, rB, rbc, p.m, p.st, p.ca, N', nc, wL p.m p.s.n xi xv p.ns, wW p.m p.s.n xi p.wr⟩ : RX))) := RD.put (HRD5.out.keep HB7.out) HRJ.out hrow7 (Nat.le_trans HHW5.out HB6.out.size) rfl rfl rfl HNP.out
                      have HIW7 := Lib.hid (HIW5.out.keep HB7.out)
                      have HPT7 : Hid (p.On W7) := (HIW7.out.pt p HPM.out).1
                      clear hrow7 hb7 HPUT HX6 HRP HNP
                      go_upto_region 30 with fail
                      have HPR := Lib.hid (write_any (IsP.drewN HPT7.out 1) HBDJ.out.1 ⟨(HBDJ.out).2.2.1, by have := (HBDJ.out).2.2.2; have := HL2.out; have := HLT.out; omega⟩ xi xv)
                      have HDR : Hid (Below W5.heap.size W5 W7.drew) := HB7.out.drew
                      have HKP0 : Hid (W7.drew.cell? ⟨Q, 3, none⟩ = some (.int .i64 xi) ∧ W7.drew.cell? ⟨Q, 4, none⟩ = some (.int .u32 (xv : Int))) := (HQK.out _ HDR.out).2.2
                      have HQK8 : Hid (∀ wx, Rng p.lo p.hi W7.drew wx → wx.cell? ⟨Q, 3, none⟩ = some (.int .i64 xi) ∧ wx.cell? ⟨Q, 4, none⟩ = some (.int .u32 (xv : Int))) := fun W' r => by
                        have h1 := (HDR.out.block _ (lt_of_block HX5.out)).trans HX5.out
                        have h := (r.block _ (lt_of_block h1) (.inr (HHI4.out p HPM.out))).trans h1
                        refine ⟨?_, ?_⟩ <;> rw [cell_of_row W' _ _ _ _ _ h] <;> rfl
                      obtain ⟨h3, h4⟩ := HKP0.out
                      have tA : ((cellK p.m p.s.n xi : Int) != cellK p.m p.s.n xi) = false := by simp
                      clear b0 b1 b3 b4
                      go_region_held3 (fun wx => wx.cell? ⟨Q, 3, none⟩ = some (.int .i64 xi) ∧ wx.cell? ⟨Q, 4, none⟩ = some (.int .u32 (xv : Int)))
                        (first | exact HKP.out | exact HKP0.out | assumption | (go_keep; done))
                        (first
                          | (go_at_call 18; refine HPR.out.mono ?_; rintro e W8 ⟨rfl, hp8, hr8⟩; have HKP := Lib.hid (HQK8.out W8 hr8); have HP8 := Lib.hid hp8; have HR8 := Lib.hid hr8; clear hp8 hr8))
                      all_goals
                        have hmv := (HIW7.out.drewN 1).moved HPJ.out (p' := { p with ns := wL p.m p.s.n xi xv p.ns, wr := wW p.m p.s.n xi p.wr }) HP8.out HR8.out rfl rfl rfl rfl
                        have HIWn := Lib.hid hmv.1
                        have HBn : Hid (Below w.heap.size w W8) := Rng.below (HB5.out.trans (HDR.out.mono HB5.out.size)) HR8.out (Nat.le_trans HB5.out.size HDR.out.size) (Nat.le_trans HLO.out (HHI.out p HPM.out).2)
                        have HRDn : Hid (RD W8 H l V7 (out.set j (⟨p.s, rB, rbc, p.m, p.st, p.ca, N', nc, wL p.m p.s.n xi xv p.ns, wW p.m p.s.n xi p.wr⟩ : RX))) := (HRD7.out.keep (⟨rfl, rfl, rfl, Nat.le_refl _, fun _ _ => rfl⟩ : Below W7.heap.size W7 W7.drew)).pr (PR.of_rng HPM.out HR8.out) (fun q hq => (HHI.out q hq).1) HOK.out HBn.out
                        have HLOSn := Lib.hid (set_los (p' := { p with ns := wL p.m p.s.n xi xv p.ns, wr := wW p.m p.s.n xi p.wr }) HLOS.out HPJ.out rfl rfl)
                        have HSSn : Hid ((L.set j { p with ns := wL p.m p.s.n xi xv p.ns, wr := wW p.m p.s.n xi p.wr }).map CP.s = l.map AP.s) := by
                          show _ = _
                          rw [← HSS.out, List.map_set]
                          exact RD.put.set_same (by rw [List.getElem?_map, HPJ.out]; rfl)
                        have HOQn := Lib.hid (set_qs (j := j) (p' := { p with ns := wL p.m p.s.n xi xv p.ns, wr := wW p.m p.s.n xi p.wr }) (r' := (⟨p.s, rB, rbc, p.m, p.st, p.ca, N', nc, wL p.m p.s.n xi xv p.ns, wW p.m p.s.n xi p.wr⟩ : RX)) HOQ.out rfl)
                        have HBDn := Lib.hid (set_bd (j := j) (p' := { p with ns := wL p.m p.s.n xi xv p.ns, wr := wW p.m p.s.n xi p.wr }) HBD.out ⟨HBDJ.out.1, HBDJ.out.more.2.1, wW_in HBDJ.out.2.2⟩)
                        have HHn : Hid (H ≤ W8.heap.size) := by show _ ≤ _; have := HHW5.out; have h1 := HDR.out.size; have h2 : W7.drew.heap.size ≤ W8.heap.size := HR8.out.size; omega
                        obtain ⟨L2, hL2⟩ : ∃ L2, L.set j { p with ns := wL p.m p.s.n xi xv p.ns, wr := wW p.m p.s.n xi p.wr } = L2 := ⟨_, rfl⟩
                        obtain ⟨o2, ho2⟩ : ∃ o2, out.set j (⟨p.s, rB, rbc, p.m, p.st, p.ca, N', nc, wL p.m p.s.n xi xv p.ns, wW p.m p.s.n xi p.wr⟩ : RX) = o2 := ⟨_, rfl⟩
                        rw [hL2] at HIWn HLOSn HSSn HOQn HBDn
                        rw [ho2] at HRDn HOQn
                        clear hmv hL2 ho2 HP8 HR8 HKP HIW7 HRD7 HPT7 HIW5 HRD5
                        have HNLn : Hid (L2.length = n0) := by
                          show _ = _
                          have h1 := congrArg List.length HSSn.out
                          rw [List.length_map, List.length_map] at h1
                          rw [h1]; exact HN0.out
                        have HNOn : Hid (o2.length = n0) := by
                          show _ = _
                          have h1 := congrArg List.length HOQn.out
                          rw [List.length_map, List.length_map] at h1
                          rw [h1]; exact HNLn.out
                        have hsh := shots_any HIWn.out (by have := HNLn.out; have := HN20.out; omega)
                        rw [HNLn.out] at hsh
                        have HSH := Lib.hid hsh
                        clear hsh
                        go_wp2_with fail
                        refine HSH.out.mono ?_
                        rintro e wS ⟨R1, D1, rfl, -, hbr1, hdl1, hsd1, hbS⟩
                        have hun := unlike22_any (c := n0) hsd1 hbr1 (by rw [hdl1, HNLn.out]) (HRDn.out.keep hbS).row HOQn.out (by have := HNLn.out; have := HN20.out; omega)
                        rw [HNLn.out] at hun
                        have HUN := Lib.hid hun
                        have HbS := Lib.hid hbS
                        clear hun hbr1 hdl1 hsd1 hbS HSH
                        go_wp2_with fail
                        refine HUN.out.mono ?_
                        rintro e wU ⟨rfl, hbU⟩
                        have HSU := Lib.hid (HbS.out.trans (hbU.mono HbS.out.size))
                        have tE : ((⟨#[]⟩ : ByteArray) != ⟨#[]⟩) = false := by decide
                        have hk1 := HK1.out
                        clear hbU HUN
                        go_wp2
                        go_roundw
                        case rel => exact ⟨k + 1, L2, o2, HLT.out, by go_num, HIWn.out.keep HSU.out, HLOSn.out, HSSn.out, HRDn.out.keep HSU.out, HOQn.out, HBDn.out, Nat.le_trans HHn.out HSU.out.size, HBn.out.trans (HSU.out.mono HBn.out.size)⟩
                        case measure => have := HLT.out; simp [intOf]; omega
                  · as_aux_lemma =>
                      clear hf ha hget hatr hp hr hrq hid
                      go_wp2_with (first
                        | (go_at_call 12; refine HGET.out.mono ?_; rintro e wA ⟨rfl, rfl⟩)
                        | (go_at_call 13; refine HATR.out.mono ?_; rintro e wB ⟨rfl, hbA⟩; have HBA := Lib.hid hbA; obtain ⟨b0, b1, b3, b4⟩ := HQK.out wB hbA; clear hbA q0 q1 q2 q3 q4))
                      have HIWn := Lib.hid (HIW5.out.keep HBA.out)
                      have HRDn := Lib.hid (HRD5.out.keep HBA.out)
                      have HLOSn := HLOS
                      have HSSn := HSS
                      have HOQn := HOQ
                      have HBDn : Hid (∀ p ∈ L, Bd p.m p.st p.wr (k + 1 + 1)) := fun p hp => by
                        obtain ⟨h1, h2, h3⟩ := HBD.out p hp
                        exact ⟨h1, ⟨h2.1, by have := h2.2; omega⟩, h3.1, by have := h3.2; omega⟩
                      have HHn : Hid (H ≤ wB.heap.size) := Nat.le_trans HHW5.out HBA.out.size
                      have HBn := Lib.hid (HB5.out.trans (HBA.out.mono HB5.out.size))

                      have HNLn : Hid (L.length = n0) := by
                        show _ = _
                        have h1 := congrArg List.length HSSn.out
                        rw [List.length_map, List.length_map] at h1
                        rw [h1]; exact HN0.out
                      have HNOn : Hid (out.length = n0) := by
                        show _ = _
                        have h1 := congrArg List.length HOQn.out
                        rw [List.length_map, List.length_map] at h1
                        rw [h1]; exact HNLn.out
                      have hsh := shots_any HIWn.out (by have := HNLn.out; have := HN20.out; omega)
                      rw [HNLn.out] at hsh
                      have HSH := Lib.hid hsh
                      clear hsh
                      go_wp2_with fail
                      refine HSH.out.mono ?_
                      rintro e wS ⟨R1, D1, rfl, -, hbr1, hdl1, hsd1, hbS⟩
                      have hun := unlike22_any (c := n0) hsd1 hbr1 (by rw [hdl1, HNLn.out]) (HRDn.out.keep hbS).row HOQn.out (by have := HNLn.out; have := HN20.out; omega)
                      rw [HNLn.out] at hun
                      have HUN := Lib.hid hun
                      have HbS := Lib.hid hbS
                      clear hun hbr1 hdl1 hsd1 hbS HSH
                      go_wp2_with fail
                      refine HUN.out.mono ?_
                      rintro e wU ⟨rfl, hbU⟩
                      have HSU := Lib.hid (HbS.out.trans (hbU.mono HbS.out.size))
                      have tE : ((⟨#[]⟩ : ByteArray) != ⟨#[]⟩) = false := by decide
                      have hk1 := HK1.out
                      clear hbU HUN
                      go_wp2
                      go_roundw
                      case rel => exact ⟨k + 1, L, out, HLT.out, by go_num, HIWn.out.keep HSU.out, HLOSn.out, HSSn.out, HRDn.out.keep HSU.out, HOQn.out, HBDn.out, Nat.le_trans HHn.out HSU.out.size, HBn.out.trans (HSU.out.mono HBn.out.size)⟩
                      case measure => have := HLT.out; simp [intOf]; omega
                  · as_aux_lemma =>
                      clear hf ha hget hatr hp hr hrq hid
                      go_wp2_with (first
                        | (go_at_call 12; refine HGET.out.mono ?_; rintro e wA ⟨rfl, rfl⟩)
                        | (go_at_call 13; refine HATR.out.mono ?_; rintro e wB ⟨rfl, hbA⟩; have HBA := Lib.hid hbA; obtain ⟨b0, b1, b3, b4⟩ := HQK.out wB hbA; clear hbA q0 q1 q2 q3 q4))
                      have HBW : Hid (Below w.heap.size w wB) := HB5.out.trans (HBA.out.mono HB5.out.size)
                      have HIWB := Lib.hid (HIW5.out.keep HBA.out)
                      have HRDB := Lib.hid (HRD5.out.keep HBA.out)
                      have hrc := rchange_any HRDB.out.row (by have := HNO.out; have := HN20.out; omega) (fun r hr => ⟨(HOST.out r hr).2.1.1, by have := (HOST.out r hr).2.1.2; have := HL2.out; have := HLT.out; omega⟩) a1 cap1 ac xs (HAC.out.kept HBW.out) (by rw [HAL.out]; have := HL1.out; omega)
                      rw [HAL.out] at hrc
                      have HRC := Lib.hid hrc
                      clear hrc HIW5 HRD5
                      go_wp2_with fail
                      refine HRC.out.mono ?_
                      rintro e W6 ⟨V6, out6, U6, rfl, hrow6, hoq6, hbc6, hU6, hnn6, hb6⟩
                      obtain ⟨AU, cU, rfl⟩ := own_slice hU6
                      rw [HNO.out] at hU6 ⊢
                      have HB6 := Lib.hid hb6
                      have HIW6 := Lib.hid (HIWB.out.keep hb6)
                      have HBW6 : Hid (Below w.heap.size w W6) := HBW.out.trans (hb6.mono HBW.out.size)
                      have hch := change_any HIW6.out (by have := HNL.out; have := HN20.out; omega) (fun q hq => ⟨(HBD.out q hq).2.1.1, by have := (HBD.out q hq).2.1.2; have := HL2.out; have := HLT.out; omega⟩) a1 cap1 ac xs (HAC.out.kept HBW6.out) HACN.out (by rw [HAL.out]; exact HACC.out) (by rw [HAL.out]; have := HL1.out; omega)
                      rw [HAL.out, HNL.out] at hch
                      have HCH := Lib.hid hch
                      have HFO := Lib.hid (fun (W : World) (b : Below w.heap.size w W) (p : Int) => Srt.rforq_any a1 cap1 ac xs p W (HAC.out.kept b) (by rw [HAL.out]; have := HL1.out; omega))
                      rw [HAL.out] at HFO
                      obtain ⟨f, hf⟩ : ∃ f, forN ac xs = f := ⟨_, rfl⟩
                      rw [hf] at HCH HFO hoq6 hU6
                      have HROW6 := Lib.hid hrow6
                      have HOQ6 := Lib.hid hoq6
                      have HBC6 := Lib.hid hbc6
                      have HU6 := Lib.hid hU6
                      have HNN6 := Lib.hid hnn6
                      have hq6 := (HQK.out W6 (HBA.out.trans (HB6.out.mono HBA.out.size))).2.1
                      clear hch hrow6 hoq6 hbc6 hU6 hnn6 hb6 HRC hf
                      go_wp2_with fail
                      refine HCH.out.mono ?_
                      rintro e W7 ⟨G, rfl, hG, hbrG, hiw7, hpr7⟩
                      have HBG := Lib.hid hbrG
                      have HIW7 := Lib.hid hiw7
                      have HBW7 : Hid (Below w.heap.size w W7) := PR.below HBW6.out hpr7 HBW6.out.size (fun p hp => Nat.le_trans HLO.out (HHI.out p hp).2)
                      have HPB : Hid (∀ p ∈ L, p.hi ≤ wB.heap.size) := fun p hp => (HIWB.out.pt p hp).1.hs
                      have HU7 := Lib.hid (own_pr HU6.out hpr7 HPB.out)
                      have HRO7 : Hid (RD W7 H l (.slice AX n0 cX) out) := (HRDB.out.keep HB6.out).pr hpr7 (fun q hq => (HHI.out q hq).1) HOK.out HBW7.out
                      have HHB : Hid (H ≤ wB.heap.size) := Nat.le_trans HHW5.out HBA.out.size
                      have HRN7 : Hid (RD W7 H l V6 out6) := (RD.made (H := H) (l := l) HROW6.out HHB.out (fun r' hr' hne y hy => by
                        rcases HNN6.out r' hr' hne y hy with h | ⟨r, hr, h1, h2⟩
                        · exact Nat.le_trans HHB.out h
                        · exact HRDB.out.num r hr h1 y h2) (by
                        rw [HBC6.out]
                        have := congrArg (List.map Prod.fst) HRDB.out.bc
                        rw [List.map_map, List.map_map] at this
                        exact this) (by
                        have h1 := congrArg (List.map QS.s) HOQ6.out
                        rw [List.map_map, List.map_map] at h1
                        have h2 := congrArg (List.map Prod.snd) HRDB.out.bc
                        rw [List.map_map, List.map_map] at h2
                        exact h1.trans h2)).pr hpr7 (fun q hq => (HHI.out q hq).1) HOK.out HBW7.out
                      have HOQ7 : Hid (out6.map RX.q = (L.map (actP f)).map CP.q) := by
                        show _ = _
                        rw [HOQ6.out, List.map_map]
                        have := congrArg (List.map (actQ f)) HOQ.out
                        rw [List.map_map, List.map_map] at this
                        exact this
                      have HQ7 : Hid (∀ wx, Below W7.heap.size W7 wx → wx.cell? ⟨Q, 1, none⟩ = some (.int .i64 xs)) := fun wx b => by
                        have h0 := (HBA.out.block _ (lt_of_block HX5.out)).trans HX5.out
                        have h1 := (HB6.out.block _ (lt_of_block h0)).trans h0
                        have h2 := (hpr7.block _ (lt_of_block h1) (fun q hq => .inr (HHI4.out q hq))).trans h1
                        have h := (b.block _ (lt_of_block h2)).trans h2
                        rw [cell_of_row wx _ _ _ _ _ h]; rfl
                      have HPI : Hid (∀ (W : World), Below w.heap.size w W → ∀ (k : Nat) (p : CP), L[k]? = some p → ∃ y, a0 = some y ∧ W.cell? (y.add (k * 4)) = some (.int .i64 p.s.id)) := fun W b k p hp => by
                        have h1 : (l.map AP.s)[k]? = some p.s := by rw [← HSS.out, List.getElem?_map, hp]; rfl
                        rw [List.getElem?_map] at h1
                        obtain ⟨x, hx, hxs⟩ := Option.map_eq_some_iff.1 h1
                        obtain ⟨y, hy, e1, -, -, -⟩ := (HPA.out.kept b) k x hx
                        exact ⟨y, hy, by rw [← hxs]; exact e1⟩
                      have HJ0 : Hid (JRel n0 W7 (.int .i64 0) W7) := ⟨0, Nat.zero_le _, rfl, Below.refl _ _⟩
                      have HSZ : Hid (H ≤ W7.heap.size) := Nat.le_trans HHB.out (Nat.le_trans HB6.out.size hpr7.size)
                      clear hG hbrG hiw7 hpr7 HROW6 HBC6 HU6 HNN6 HB6 HIW6 HBW6 HRDB HIWB HBW HCH hq6 b0 b1 b3 b4
                      go_wp2_with fail
                      go_loopw [211] (fun i W' => JRel n0 W7 i W') (fun i _ => n0 - (intOf i).toNat)
                      case atStart => exact HJ0.out
                      case round =>
                        rename World => W8
                        obtain ⟨k3, hk3, rfl, hb8⟩ := hrel
                        have HB8 := Lib.hid hb8
                        clear hb8 HJ0
                        by_cases hlt3 : k3 < n0
                        · obtain ⟨p, hp⟩ : ∃ p, L[k3]? = some p := ⟨_, List.getElem?_eq_getElem (by rw [HNL.out]; exact hlt3)⟩
                          obtain ⟨r, hr⟩ : ∃ r, out[k3]? = some r := ⟨_, List.getElem?_eq_getElem (by rw [HNO.out]; exact hlt3)⟩
                          have hrq : r.q = p.q := by
                            have h1 := congrArg (·[k3]?) HOQ.out
                            simp only [List.getElem?_map, hp, hr] at h1
                            exact Option.some.inj h1
                          have hbw8 := HBW7.out.trans (HB8.out.mono HBW7.out.size)
                          obtain ⟨y, rfl, e1⟩ := HPI.out W8 hbw8 k3 p hp
                          obtain ⟨gu, rfl, eu⟩ := own_cells1 (own_keep HU7.out HB8.out) (i := k3) (v := .bool (didQ f r.q)) (by rw [List.getElem?_map, hr]; rfl)
                          obtain ⟨g3, c3, hv, hc⟩ := (HRO7.out.row.keep HB8.out).cells hr
                          injection hv with hv1 hv2 hv3
                          subst hv1
                          have em : W8.cell? ⟨g3, k3 * 10 + 4, none⟩ = some (.int .i64 r.m) := hc 4 (by omega)
                          have hall : ∀ z ∈ L.map (didB f), z.length = 3 := fun z hz => by obtain ⟨q', _, rfl⟩ := List.mem_map.1 hz; rfl
                          have hdk : (L.map (didB f))[k3]? = some (didB f p) := by rw [List.getElem?_map, hp]; rfl
                          have hbd := HBG.out.keep HB8.out
                          have f0 : W8.cell? ⟨G, k3 * 3, none⟩ = some (.int .i64 p.s.id) := hbd.cell 3 hall hdk (j := 0) rfl
                          have f1 : W8.cell? ⟨G, k3 * 3 + 1, none⟩ = some (.int .i64 (f p.s.id)) := hbd.cell 3 hall hdk (j := 1) rfl
                          have f2 : W8.cell? ⟨G, k3 * 3 + 2, none⟩ = some (.bool (goes (actS p.m (f p.s.id)))) := hbd.cell 3 hall hdk (j := 2) rfl
                          have eu2 : W8.cell? ⟨gu, k3, none⟩ = some (.bool (goes (actS p.m (f p.s.id)))) := by rw [eu, hrq]; rfl
                          have em2 : W8.cell? ⟨g3, k3 * 10 + 4, none⟩ = some (.int .i64 p.m) := by rw [em]; exact congrArg (fun q : QS => some (Value.int .i64 q.m)) hrq
                          have eq1 := HQ7.out W8 HB8.out
                          have hgo : goes (actS p.m (f p.s.id)) = true → p.m ≠ 0 ∧ f p.s.id ≠ 0 := goes_both
                          have HFI := Lib.hid (fun (W : World) (b : Below w.heap.size w W) => HFO.out W b p.s.id)
                          obtain ⟨id, hid⟩ : ∃ id, p.s.id = id := ⟨_, rfl⟩
                          obtain ⟨av, hav⟩ : ∃ av, f id = av := ⟨_, rfl⟩
                          obtain ⟨mv, hmv⟩ : ∃ mv, p.m = mv := ⟨_, rfl⟩
                          rw [hid] at f0 f1 f2 e1 eu2 hgo HFI
                          rw [hav] at f1 f2 eu2 hgo HFI
                          rw [hmv] at f2 eu2 em2 hgo
                          obtain ⟨bv, hbv⟩ : ∃ bv, goes (actS mv av) = bv := ⟨_, rfl⟩
                          rw [hbv] at f2 eu2 hgo
                          have s39 := run_stD W8 id av bv
                          have hb9 : Below W8.heap.size W8 (W8.alloc (.cells #[.int .i64 id, .int .i64 av, .bool bv] 70)) := (Below.refl _ _).alloc (Nat.le_refl _) _
                          have hx9 := heap_alloc_new W8 (.cells #[.int .i64 id, .int .i64 av, .bool bv] 70)
                          have HLT3 := Lib.hid hlt3
                          have hkb3 : (k3 : Int) < n0 := by omega
                          have hki3 : (0 : Int) ≤ k3 := by omega
                          have HK3 : Hid (IntKind.i64.wrap ((k3 : Int) + 1) = (k3 : Int) + 1) := IntWalk.i64_in _ (by have := HN20.out; omega)
                          have heq : ∀ wx : World, (Op.equalIn 10000 70 (.agg #[.int .i64 id, .int .i64 av, .bool bv]) (.agg #[.int .i64 id, .int .i64 av, .bool bv])).run Try.prog wx = .ok true wx := eq_did id av bv
                          have HE1 := Lib.hid e1
                          have HEU := Lib.hid eu2
                          have HEM := Lib.hid em2
                          have HEQ := Lib.hid eq1
                          have HB9 := Lib.hid (HB8.out.trans (hb9.mono HB8.out.size))
                          have HBW9 := Lib.hid (hbw8.trans (hb9.mono hbw8.size))
                          clear hp hr hrq hbw8 eu hv2 hv3 hc em hall hdk hbd hlt3 hk3 hid hav hmv hbv e1 eu2 em2 eq1 HPI HU7 HRO7
                          go_upto_region 40 with fail
                          obtain ⟨W9, hW9⟩ : ∃ W', W8.alloc (.cells #[.int .i64 id, .int .i64 av, .bool bv] 70) = W' := ⟨_, rfl⟩
                          obtain ⟨Q2, hQ2⟩ : ∃ Q2, W8.heap.size = Q2 := ⟨_, rfl⟩
                          have hb9' : Below W8.heap.size W8 W9 := by rw [← hW9]; exact hb9
                          rw [hW9, hQ2] at hx9
                          rw [hW9] at HB9 HBW9
                          rw [hW9, hQ2]
                          have HX9 := Lib.hid hx9
                          have HS9 : Hid (∀ wx, Below W9.heap.size W9 wx → wx.cell? ⟨Q2, 0, none⟩ = some (.int .i64 id) ∧ wx.cell? ⟨Q2, 1, none⟩ = some (.int .i64 av) ∧ wx.cell? ⟨Q2, 2, none⟩ = some (.bool bv) ∧ wx.cell? (y.add (k3 * 4)) = some (.int .i64 id) ∧ wx.cell? ⟨Q, 1, none⟩ = some (.int .i64 xs) ∧ wx.cell? ⟨gu, k3, none⟩ = some (.bool bv) ∧ wx.cell? ⟨g3, k3 * 10 + 4, none⟩ = some (.int .i64 mv)) := fun wx b => by
                            have hbb : Below W8.heap.size W8 wx := hb9'.trans (b.mono hb9'.size)
                            have h := (b.block _ (lt_of_block HX9.out)).trans HX9.out
                            refine ⟨?_, ?_, ?_, (hbb.cell (Go.block_lt_of_cell HE1.out)).trans HE1.out, (hbb.cell (Go.block_lt_of_cell HEQ.out)).trans HEQ.out, (hbb.cell (Go.block_lt_of_cell HEU.out)).trans HEU.out, (hbb.cell (Go.block_lt_of_cell HEM.out)).trans HEM.out⟩ <;> rw [cell_of_row wx _ _ _ _ _ h] <;> rfl
                          have HD0 : Hid (Below W9.heap.size W9 W9.drew) := ⟨rfl, rfl, rfl, Nat.le_refl _, fun _ _ => rfl⟩
                          have HKP0 := Lib.hid (HS9.out _ HD0.out)
                          clear hb9 hx9 hW9 hQ2 hb9' f0 f1 f2 s39
                          have hcs : (bv = false) ∨ (bv = true ∧ (mv == 0) = false ∧ (av == 0) = false) := by
                            cases hb : bv with
                            | false => exact .inl rfl
                            | true => obtain ⟨h1, h2⟩ := hgo hb; exact .inr ⟨rfl, by simp [h1], by simp [h2]⟩
                          clear hgo
                          have HFQ := Lib.hid (fun n : Nat => HFI.out (W9.drewN n) (HBW9.out.trans ⟨rfl, rfl, rfl, Nat.le_refl _, fun _ _ => rfl⟩))
                          have hk3 := HK3.out
                          obtain ⟨z0, z1, z2, z3, z4, z5, z6⟩ := HS9.out W9 (Below.refl _ _)
                          clear HKP0 HD0
                          rcases hcs with rfl | ⟨rfl, c1, c2⟩
                          all_goals
                            go_quiet (first | (go_at_call 21; exact Calls.quiet_of (HFQ.out _)) | fail)
                            go_wp2
                            go_roundw
                            case rel => exact ⟨k3 + 1, HLT3.out, by go_num, HB9.out.trans ⟨rfl, rfl, rfl, Nat.le_refl _, fun _ _ => rfl⟩⟩
                            case measure => have := HLT3.out; simp [intOf]; omega
                        · obtain rfl : n0 = k3 := by omega
                          have HIWn := Lib.hid (HIW7.out.keep HB8.out)
                          have HRDn := Lib.hid (HRN7.out.keep HB8.out)
                          have HLOSn : Hid ((L.map (actP f)).map (fun p => (p.lo, p.hi)) = los) := (act_los f L).trans HLOS.out
                          have HSSn : Hid ((L.map (actP f)).map CP.s = l.map AP.s) := by
                            show _ = _
                            rw [← HSS.out, List.map_map]
                            rfl
                          have HOQn := HOQ7
                          have HBDn : Hid (∀ p ∈ L.map (actP f), Bd p.m p.st p.wr (k + 1 + 1)) := fun p hp => by
                            obtain ⟨q, hq, rfl⟩ := List.mem_map.1 hp
                            have h := HBD.out q hq
                            exact ⟨actM_in h.1, goN_in h.2.1, goW_in h.2.2⟩
                          have HBn := Lib.hid (HBW7.out.trans (HB8.out.mono HBW7.out.size))
                          have HHn : Hid (H ≤ W8.heap.size) := Nat.le_trans HSZ.out HB8.out.size
                          obtain ⟨L2, hL2⟩ : ∃ L2, L.map (actP f) = L2 := ⟨_, rfl⟩
                          rw [hL2] at HIWn HLOSn HSSn HOQn HBDn
                          clear hlt3 hk3 hL2 HIW7 HRN7 HB8 HBW7 HU7 HRO7 HPI HQ7 HFO
                          have HNLn : Hid (L2.length = n0) := by
                            show _ = _
                            have h1 := congrArg List.length HSSn.out
                            rw [List.length_map, List.length_map] at h1
                            rw [h1]; exact HN0.out
                          have HNOn : Hid (out6.length = n0) := by
                            show _ = _
                            have h1 := congrArg List.length HOQn.out
                            rw [List.length_map, List.length_map] at h1
                            rw [h1]; exact HNLn.out
                          have hsh := shots_any HIWn.out (by have := HNLn.out; have := HN20.out; omega)
                          rw [HNLn.out] at hsh
                          have HSH := Lib.hid hsh
                          clear hsh
                          go_wp2_with fail
                          refine HSH.out.mono ?_
                          rintro e wS ⟨R1, D1, rfl, -, hbr1, hdl1, hsd1, hbS⟩
                          have hun := unlike22_any (c := n0) hsd1 hbr1 (by rw [hdl1, HNLn.out]) (HRDn.out.keep hbS).row HOQn.out (by have := HNLn.out; have := HN20.out; omega)
                          rw [HNLn.out] at hun
                          have HUN := Lib.hid hun
                          have HbS := Lib.hid hbS
                          clear hun hbr1 hdl1 hsd1 hbS HSH
                          go_wp2_with fail
                          refine HUN.out.mono ?_
                          rintro e wU ⟨rfl, hbU⟩
                          have HSU := Lib.hid (HbS.out.trans (hbU.mono HbS.out.size))
                          have tE : ((⟨#[]⟩ : ByteArray) != ⟨#[]⟩) = false := by decide
                          have hk1 := HK1.out
                          clear hbU HUN
                          go_wp2
                          go_roundw
                          case rel => exact ⟨k + 1, L2, out6, HLT.out, by go_num, HIWn.out.keep HSU.out, HLOSn.out, HSSn.out, HRDn.out.keep HSU.out, HOQn.out, HBDn.out, Nat.le_trans HHn.out HSU.out.size, HBn.out.trans (HSU.out.mono HBn.out.size)⟩
                          case measure => have := HLT.out; simp [intOf]; omega
                · have HGET : Hid _ := Lib.hid hget
                  rw [hf] at HGET
                  simp only [Option.map_none, Option.getD_none, Option.isSome_none] at HGET
                  have HATR := Lib.hid hatr
                  rw [ha] at HATR
                  clear hf ha hget hatr
                  rcases HKIND.out with ⟨k1, k2, k0⟩ | ⟨k1, k2, k0⟩ | ⟨k1, k2, k0⟩ | ⟨k1, k2, k0⟩
                  · as_aux_lemma =>
                      go_wp2_with (first
                        | (go_at_call 12; refine HGET.out.mono ?_; rintro e wA ⟨rfl, rfl⟩)
                        | (go_at_call 13; refine HATR.out.mono ?_; rintro e wB ⟨rfl, hbA⟩; have HBA := Lib.hid hbA; obtain ⟨b0, b1, b3, b4⟩ := HQK.out wB hbA; clear hbA q0 q1 q2 q3 q4))
                      have HIWn := Lib.hid (HIW5.out.keep HBA.out)
                      have HRDn := Lib.hid (HRD5.out.keep HBA.out)
                      have HLOSn := HLOS
                      have HSSn := HSS
                      have HOQn := HOQ
                      have HBDn : Hid (∀ p ∈ L, Bd p.m p.st p.wr (k + 1 + 1)) := fun p hp => by
                        obtain ⟨h1, h2, h3⟩ := HBD.out p hp
                        exact ⟨h1, ⟨h2.1, by have := h2.2; omega⟩, h3.1, by have := h3.2; omega⟩
                      have HHn : Hid (H ≤ wB.heap.size) := Nat.le_trans HHW5.out HBA.out.size
                      have HBn := Lib.hid (HB5.out.trans (HBA.out.mono HB5.out.size))

                      have HNLn : Hid (L.length = n0) := by
                        show _ = _
                        have h1 := congrArg List.length HSSn.out
                        rw [List.length_map, List.length_map] at h1
                        rw [h1]; exact HN0.out
                      have HNOn : Hid (out.length = n0) := by
                        show _ = _
                        have h1 := congrArg List.length HOQn.out
                        rw [List.length_map, List.length_map] at h1
                        rw [h1]; exact HNLn.out
                      have hsh := shots_any HIWn.out (by have := HNLn.out; have := HN20.out; omega)
                      rw [HNLn.out] at hsh
                      have HSH := Lib.hid hsh
                      clear hsh
                      go_wp2_with fail
                      refine HSH.out.mono ?_
                      rintro e wS ⟨R1, D1, rfl, -, hbr1, hdl1, hsd1, hbS⟩
                      have hun := unlike22_any (c := n0) hsd1 hbr1 (by rw [hdl1, HNLn.out]) (HRDn.out.keep hbS).row HOQn.out (by have := HNLn.out; have := HN20.out; omega)
                      rw [HNLn.out] at hun
                      have HUN := Lib.hid hun
                      have HbS := Lib.hid hbS
                      clear hun hbr1 hdl1 hsd1 hbS HSH
                      go_wp2_with fail
                      refine HUN.out.mono ?_
                      rintro e wU ⟨rfl, hbU⟩
                      have HSU := Lib.hid (HbS.out.trans (hbU.mono HbS.out.size))
                      have tE : ((⟨#[]⟩ : ByteArray) != ⟨#[]⟩) = false := by decide
                      have hk1 := HK1.out
                      clear hbU HUN
                      go_wp2
                      go_roundw
                      case rel => exact ⟨k + 1, L, out, HLT.out, by go_num, HIWn.out.keep HSU.out, HLOSn.out, HSSn.out, HRDn.out.keep HSU.out, HOQn.out, HBDn.out, Nat.le_trans HHn.out HSU.out.size, HBn.out.trans (HSU.out.mono HBn.out.size)⟩
                      case measure => have := HLT.out; simp [intOf]; omega
                  · as_aux_lemma =>
                      go_wp2_with (first
                        | (go_at_call 12; refine HGET.out.mono ?_; rintro e wA ⟨rfl, rfl⟩)
                        | (go_at_call 13; refine HATR.out.mono ?_; rintro e wB ⟨rfl, hbA⟩; have HBA := Lib.hid hbA; obtain ⟨b0, b1, b3, b4⟩ := HQK.out wB hbA; clear hbA q0 q1 q2 q3 q4))
                      have HIWn := Lib.hid (HIW5.out.keep HBA.out)
                      have HRDn := Lib.hid (HRD5.out.keep HBA.out)
                      have HLOSn := HLOS
                      have HSSn := HSS
                      have HOQn := HOQ
                      have HBDn : Hid (∀ p ∈ L, Bd p.m p.st p.wr (k + 1 + 1)) := fun p hp => by
                        obtain ⟨h1, h2, h3⟩ := HBD.out p hp
                        exact ⟨h1, ⟨h2.1, by have := h2.2; omega⟩, h3.1, by have := h3.2; omega⟩
                      have HHn : Hid (H ≤ wB.heap.size) := Nat.le_trans HHW5.out HBA.out.size
                      have HBn := Lib.hid (HB5.out.trans (HBA.out.mono HB5.out.size))

                      have HNLn : Hid (L.length = n0) := by
                        show _ = _
                        have h1 := congrArg List.length HSSn.out
                        rw [List.length_map, List.length_map] at h1
                        rw [h1]; exact HN0.out
                      have HNOn : Hid (out.length = n0) := by
                        show _ = _
                        have h1 := congrArg List.length HOQn.out
                        rw [List.length_map, List.length_map] at h1
                        rw [h1]; exact HNLn.out
                      have hsh := shots_any HIWn.out (by have := HNLn.out; have := HN20.out; omega)
                      rw [HNLn.out] at hsh
                      have HSH := Lib.hid hsh
                      clear hsh
                      go_wp2_with fail
                      refine HSH.out.mono ?_
                      rintro e wS ⟨R1, D1, rfl, -, hbr1, hdl1, hsd1, hbS⟩
                      have hun := unlike22_any (c := n0) hsd1 hbr1 (by rw [hdl1, HNLn.out]) (HRDn.out.keep hbS).row HOQn.out (by have := HNLn.out; have := HN20.out; omega)
                      rw [HNLn.out] at hun
                      have HUN := Lib.hid hun
                      have HbS := Lib.hid hbS
                      clear hun hbr1 hdl1 hsd1 hbS HSH
                      go_wp2_with fail
                      refine HUN.out.mono ?_
                      rintro e wU ⟨rfl, hbU⟩
                      have HSU := Lib.hid (HbS.out.trans (hbU.mono HbS.out.size))
                      have tE : ((⟨#[]⟩ : ByteArray) != ⟨#[]⟩) = false := by decide
                      have hk1 := HK1.out
                      clear hbU HUN
                      go_wp2
                      go_roundw
                      case rel => exact ⟨k + 1, L, out, HLT.out, by go_num, HIWn.out.keep HSU.out, HLOSn.out, HSSn.out, HRDn.out.keep HSU.out, HOQn.out, HBDn.out, Nat.le_trans HHn.out HSU.out.size, HBn.out.trans (HSU.out.mono HBn.out.size)⟩
                      case measure => have := HLT.out; simp [intOf]; omega
                  · as_aux_lemma =>
                      go_wp2_with (first
                        | (go_at_call 12; refine HGET.out.mono ?_; rintro e wA ⟨rfl, rfl⟩)
                        | (go_at_call 13; refine HATR.out.mono ?_; rintro e wB ⟨rfl, hbA⟩; have HBA := Lib.hid hbA; obtain ⟨b0, b1, b3, b4⟩ := HQK.out wB hbA; clear hbA q0 q1 q2 q3 q4))
                      have HIWn := Lib.hid (HIW5.out.keep HBA.out)
                      have HRDn := Lib.hid (HRD5.out.keep HBA.out)
                      have HLOSn := HLOS
                      have HSSn := HSS
                      have HOQn := HOQ
                      have HBDn : Hid (∀ p ∈ L, Bd p.m p.st p.wr (k + 1 + 1)) := fun p hp => by
                        obtain ⟨h1, h2, h3⟩ := HBD.out p hp
                        exact ⟨h1, ⟨h2.1, by have := h2.2; omega⟩, h3.1, by have := h3.2; omega⟩
                      have HHn : Hid (H ≤ wB.heap.size) := Nat.le_trans HHW5.out HBA.out.size
                      have HBn := Lib.hid (HB5.out.trans (HBA.out.mono HB5.out.size))

                      have HNLn : Hid (L.length = n0) := by
                        show _ = _
                        have h1 := congrArg List.length HSSn.out
                        rw [List.length_map, List.length_map] at h1
                        rw [h1]; exact HN0.out
                      have HNOn : Hid (out.length = n0) := by
                        show _ = _
                        have h1 := congrArg List.length HOQn.out
                        rw [List.length_map, List.length_map] at h1
                        rw [h1]; exact HNLn.out
                      have hsh := shots_any HIWn.out (by have := HNLn.out; have := HN20.out; omega)
                      rw [HNLn.out] at hsh
                      have HSH := Lib.hid hsh
                      clear hsh
                      go_wp2_with fail
                      refine HSH.out.mono ?_
                      rintro e wS ⟨R1, D1, rfl, -, hbr1, hdl1, hsd1, hbS⟩
                      have hun := unlike22_any (c := n0) hsd1 hbr1 (by rw [hdl1, HNLn.out]) (HRDn.out.keep hbS).row HOQn.out (by have := HNLn.out; have := HN20.out; omega)
                      rw [HNLn.out] at hun
                      have HUN := Lib.hid hun
                      have HbS := Lib.hid hbS
                      clear hun hbr1 hdl1 hsd1 hbS HSH
                      go_wp2_with fail
                      refine HUN.out.mono ?_
                      rintro e wU ⟨rfl, hbU⟩
                      have HSU := Lib.hid (HbS.out.trans (hbU.mono HbS.out.size))
                      have tE : ((⟨#[]⟩ : ByteArray) != ⟨#[]⟩) = false := by decide
                      have hk1 := HK1.out
                      clear hbU HUN
                      go_wp2
                      go_roundw
                      case rel => exact ⟨k + 1, L, out, HLT.out, by go_num, HIWn.out.keep HSU.out, HLOSn.out, HSSn.out, HRDn.out.keep HSU.out, HOQn.out, HBDn.out, Nat.le_trans HHn.out HSU.out.size, HBn.out.trans (HSU.out.mono HBn.out.size)⟩
                      case measure => have := HLT.out; simp [intOf]; omega
                  · as_aux_lemma =>
                      go_wp2_with (first
                        | (go_at_call 12; refine HGET.out.mono ?_; rintro e wA ⟨rfl, rfl⟩)
                        | (go_at_call 13; refine HATR.out.mono ?_; rintro e wB ⟨rfl, hbA⟩; have HBA := Lib.hid hbA; obtain ⟨b0, b1, b3, b4⟩ := HQK.out wB hbA; clear hbA q0 q1 q2 q3 q4))
                      have HBW : Hid (Below w.heap.size w wB) := HB5.out.trans (HBA.out.mono HB5.out.size)
                      have HIWB := Lib.hid (HIW5.out.keep HBA.out)
                      have HRDB := Lib.hid (HRD5.out.keep HBA.out)
                      have hrc := rchange_any HRDB.out.row (by have := HNO.out; have := HN20.out; omega) (fun r hr => ⟨(HOST.out r hr).2.1.1, by have := (HOST.out r hr).2.1.2; have := HL2.out; have := HLT.out; omega⟩) a1 cap1 ac xs (HAC.out.kept HBW.out) (by rw [HAL.out]; have := HL1.out; omega)
                      rw [HAL.out] at hrc
                      have HRC := Lib.hid hrc
                      clear hrc HIW5 HRD5
                      go_wp2_with fail
                      refine HRC.out.mono ?_
                      rintro e W6 ⟨V6, out6, U6, rfl, hrow6, hoq6, hbc6, hU6, hnn6, hb6⟩
                      obtain ⟨AU, cU, rfl⟩ := own_slice hU6
                      rw [HNO.out] at hU6 ⊢
                      have HB6 := Lib.hid hb6
                      have HIW6 := Lib.hid (HIWB.out.keep hb6)
                      have HBW6 : Hid (Below w.heap.size w W6) := HBW.out.trans (hb6.mono HBW.out.size)
                      have hch := change_any HIW6.out (by have := HNL.out; have := HN20.out; omega) (fun q hq => ⟨(HBD.out q hq).2.1.1, by have := (HBD.out q hq).2.1.2; have := HL2.out; have := HLT.out; omega⟩) a1 cap1 ac xs (HAC.out.kept HBW6.out) HACN.out (by rw [HAL.out]; exact HACC.out) (by rw [HAL.out]; have := HL1.out; omega)
                      rw [HAL.out, HNL.out] at hch
                      have HCH := Lib.hid hch
                      have HFO := Lib.hid (fun (W : World) (b : Below w.heap.size w W) (p : Int) => Srt.rforq_any a1 cap1 ac xs p W (HAC.out.kept b) (by rw [HAL.out]; have := HL1.out; omega))
                      rw [HAL.out] at HFO
                      obtain ⟨f, hf⟩ : ∃ f, forN ac xs = f := ⟨_, rfl⟩
                      rw [hf] at HCH HFO hoq6 hU6
                      have HROW6 := Lib.hid hrow6
                      have HOQ6 := Lib.hid hoq6
                      have HBC6 := Lib.hid hbc6
                      have HU6 := Lib.hid hU6
                      have HNN6 := Lib.hid hnn6
                      have hq6 := (HQK.out W6 (HBA.out.trans (HB6.out.mono HBA.out.size))).2.1
                      clear hch hrow6 hoq6 hbc6 hU6 hnn6 hb6 HRC hf
                      go_wp2_with fail
                      refine HCH.out.mono ?_
                      rintro e W7 ⟨G, rfl, hG, hbrG, hiw7, hpr7⟩
                      have HBG := Lib.hid hbrG
                      have HIW7 := Lib.hid hiw7
                      have HBW7 : Hid (Below w.heap.size w W7) := PR.below HBW6.out hpr7 HBW6.out.size (fun p hp => Nat.le_trans HLO.out (HHI.out p hp).2)
                      have HPB : Hid (∀ p ∈ L, p.hi ≤ wB.heap.size) := fun p hp => (HIWB.out.pt p hp).1.hs
                      have HU7 := Lib.hid (own_pr HU6.out hpr7 HPB.out)
                      have HRO7 : Hid (RD W7 H l (.slice AX n0 cX) out) := (HRDB.out.keep HB6.out).pr hpr7 (fun q hq => (HHI.out q hq).1) HOK.out HBW7.out
                      have HHB : Hid (H ≤ wB.heap.size) := Nat.le_trans HHW5.out HBA.out.size
                      have HRN7 : Hid (RD W7 H l V6 out6) := (RD.made (H := H) (l := l) HROW6.out HHB.out (fun r' hr' hne y hy => by
                        rcases HNN6.out r' hr' hne y hy with h | ⟨r, hr, h1, h2⟩
                        · exact Nat.le_trans HHB.out h
                        · exact HRDB.out.num r hr h1 y h2) (by
                        rw [HBC6.out]
                        have := congrArg (List.map Prod.fst) HRDB.out.bc
                        rw [List.map_map, List.map_map] at this
                        exact this) (by
                        have h1 := congrArg (List.map QS.s) HOQ6.out
                        rw [List.map_map, List.map_map] at h1
                        have h2 := congrArg (List.map Prod.snd) HRDB.out.bc
                        rw [List.map_map, List.map_map] at h2
                        exact h1.trans h2)).pr hpr7 (fun q hq => (HHI.out q hq).1) HOK.out HBW7.out
                      have HOQ7 : Hid (out6.map RX.q = (L.map (actP f)).map CP.q) := by
                        show _ = _
                        rw [HOQ6.out, List.map_map]
                        have := congrArg (List.map (actQ f)) HOQ.out
                        rw [List.map_map, List.map_map] at this
                        exact this
                      have HQ7 : Hid (∀ wx, Below W7.heap.size W7 wx → wx.cell? ⟨Q, 1, none⟩ = some (.int .i64 xs)) := fun wx b => by
                        have h0 := (HBA.out.block _ (lt_of_block HX5.out)).trans HX5.out
                        have h1 := (HB6.out.block _ (lt_of_block h0)).trans h0
                        have h2 := (hpr7.block _ (lt_of_block h1) (fun q hq => .inr (HHI4.out q hq))).trans h1
                        have h := (b.block _ (lt_of_block h2)).trans h2
                        rw [cell_of_row wx _ _ _ _ _ h]; rfl
                      have HPI : Hid (∀ (W : World), Below w.heap.size w W → ∀ (k : Nat) (p : CP), L[k]? = some p → ∃ y, a0 = some y ∧ W.cell? (y.add (k * 4)) = some (.int .i64 p.s.id)) := fun W b k p hp => by
                        have h1 : (l.map AP.s)[k]? = some p.s := by rw [← HSS.out, List.getElem?_map, hp]; rfl
                        rw [List.getElem?_map] at h1
                        obtain ⟨x, hx, hxs⟩ := Option.map_eq_some_iff.1 h1
                        obtain ⟨y, hy, e1, -, -, -⟩ := (HPA.out.kept b) k x hx
                        exact ⟨y, hy, by rw [← hxs]; exact e1⟩
                      have HJ0 : Hid (JRel n0 W7 (.int .i64 0) W7) := ⟨0, Nat.zero_le _, rfl, Below.refl _ _⟩
                      have HSZ : Hid (H ≤ W7.heap.size) := Nat.le_trans HHB.out (Nat.le_trans HB6.out.size hpr7.size)
                      clear hG hbrG hiw7 hpr7 HROW6 HBC6 HU6 HNN6 HB6 HIW6 HBW6 HRDB HIWB HBW HCH hq6 b0 b1 b3 b4
                      go_wp2_with fail
                      go_loopw [211] (fun i W' => JRel n0 W7 i W') (fun i _ => n0 - (intOf i).toNat)
                      case atStart => exact HJ0.out
                      case round =>
                        rename World => W8
                        obtain ⟨k3, hk3, rfl, hb8⟩ := hrel
                        have HB8 := Lib.hid hb8
                        clear hb8 HJ0
                        by_cases hlt3 : k3 < n0
                        · obtain ⟨p, hp⟩ : ∃ p, L[k3]? = some p := ⟨_, List.getElem?_eq_getElem (by rw [HNL.out]; exact hlt3)⟩
                          obtain ⟨r, hr⟩ : ∃ r, out[k3]? = some r := ⟨_, List.getElem?_eq_getElem (by rw [HNO.out]; exact hlt3)⟩
                          have hrq : r.q = p.q := by
                            have h1 := congrArg (·[k3]?) HOQ.out
                            simp only [List.getElem?_map, hp, hr] at h1
                            exact Option.some.inj h1
                          have hbw8 := HBW7.out.trans (HB8.out.mono HBW7.out.size)
                          obtain ⟨y, rfl, e1⟩ := HPI.out W8 hbw8 k3 p hp
                          obtain ⟨gu, rfl, eu⟩ := own_cells1 (own_keep HU7.out HB8.out) (i := k3) (v := .bool (didQ f r.q)) (by rw [List.getElem?_map, hr]; rfl)
                          obtain ⟨g3, c3, hv, hc⟩ := (HRO7.out.row.keep HB8.out).cells hr
                          injection hv with hv1 hv2 hv3
                          subst hv1
                          have em : W8.cell? ⟨g3, k3 * 10 + 4, none⟩ = some (.int .i64 r.m) := hc 4 (by omega)
                          have hall : ∀ z ∈ L.map (didB f), z.length = 3 := fun z hz => by obtain ⟨q', _, rfl⟩ := List.mem_map.1 hz; rfl
                          have hdk : (L.map (didB f))[k3]? = some (didB f p) := by rw [List.getElem?_map, hp]; rfl
                          have hbd := HBG.out.keep HB8.out
                          have f0 : W8.cell? ⟨G, k3 * 3, none⟩ = some (.int .i64 p.s.id) := hbd.cell 3 hall hdk (j := 0) rfl
                          have f1 : W8.cell? ⟨G, k3 * 3 + 1, none⟩ = some (.int .i64 (f p.s.id)) := hbd.cell 3 hall hdk (j := 1) rfl
                          have f2 : W8.cell? ⟨G, k3 * 3 + 2, none⟩ = some (.bool (goes (actS p.m (f p.s.id)))) := hbd.cell 3 hall hdk (j := 2) rfl
                          have eu2 : W8.cell? ⟨gu, k3, none⟩ = some (.bool (goes (actS p.m (f p.s.id)))) := by rw [eu, hrq]; rfl
                          have em2 : W8.cell? ⟨g3, k3 * 10 + 4, none⟩ = some (.int .i64 p.m) := by rw [em]; exact congrArg (fun q : QS => some (Value.int .i64 q.m)) hrq
                          have eq1 := HQ7.out W8 HB8.out
                          have hgo : goes (actS p.m (f p.s.id)) = true → p.m ≠ 0 ∧ f p.s.id ≠ 0 := goes_both
                          have HFI := Lib.hid (fun (W : World) (b : Below w.heap.size w W) => HFO.out W b p.s.id)
                          obtain ⟨id, hid⟩ : ∃ id, p.s.id = id := ⟨_, rfl⟩
                          obtain ⟨av, hav⟩ : ∃ av, f id = av := ⟨_, rfl⟩
                          obtain ⟨mv, hmv⟩ : ∃ mv, p.m = mv := ⟨_, rfl⟩
                          rw [hid] at f0 f1 f2 e1 eu2 hgo HFI
                          rw [hav] at f1 f2 eu2 hgo HFI
                          rw [hmv] at f2 eu2 em2 hgo
                          obtain ⟨bv, hbv⟩ : ∃ bv, goes (actS mv av) = bv := ⟨_, rfl⟩
                          rw [hbv] at f2 eu2 hgo
                          have s39 := run_stD W8 id av bv
                          have hb9 : Below W8.heap.size W8 (W8.alloc (.cells #[.int .i64 id, .int .i64 av, .bool bv] 70)) := (Below.refl _ _).alloc (Nat.le_refl _) _
                          have hx9 := heap_alloc_new W8 (.cells #[.int .i64 id, .int .i64 av, .bool bv] 70)
                          have HLT3 := Lib.hid hlt3
                          have hkb3 : (k3 : Int) < n0 := by omega
                          have hki3 : (0 : Int) ≤ k3 := by omega
                          have HK3 : Hid (IntKind.i64.wrap ((k3 : Int) + 1) = (k3 : Int) + 1) := IntWalk.i64_in _ (by have := HN20.out; omega)
                          have heq : ∀ wx : World, (Op.equalIn 10000 70 (.agg #[.int .i64 id, .int .i64 av, .bool bv]) (.agg #[.int .i64 id, .int .i64 av, .bool bv])).run Try.prog wx = .ok true wx := eq_did id av bv
                          have HE1 := Lib.hid e1
                          have HEU := Lib.hid eu2
                          have HEM := Lib.hid em2
                          have HEQ := Lib.hid eq1
                          have HB9 := Lib.hid (HB8.out.trans (hb9.mono HB8.out.size))
                          have HBW9 := Lib.hid (hbw8.trans (hb9.mono hbw8.size))
                          clear hp hr hrq hbw8 eu hv2 hv3 hc em hall hdk hbd hlt3 hk3 hid hav hmv hbv e1 eu2 em2 eq1 HPI HU7 HRO7
                          go_upto_region 40 with fail
                          obtain ⟨W9, hW9⟩ : ∃ W', W8.alloc (.cells #[.int .i64 id, .int .i64 av, .bool bv] 70) = W' := ⟨_, rfl⟩
                          obtain ⟨Q2, hQ2⟩ : ∃ Q2, W8.heap.size = Q2 := ⟨_, rfl⟩
                          have hb9' : Below W8.heap.size W8 W9 := by rw [← hW9]; exact hb9
                          rw [hW9, hQ2] at hx9
                          rw [hW9] at HB9 HBW9
                          rw [hW9, hQ2]
                          have HX9 := Lib.hid hx9
                          have HS9 : Hid (∀ wx, Below W9.heap.size W9 wx → wx.cell? ⟨Q2, 0, none⟩ = some (.int .i64 id) ∧ wx.cell? ⟨Q2, 1, none⟩ = some (.int .i64 av) ∧ wx.cell? ⟨Q2, 2, none⟩ = some (.bool bv) ∧ wx.cell? (y.add (k3 * 4)) = some (.int .i64 id) ∧ wx.cell? ⟨Q, 1, none⟩ = some (.int .i64 xs) ∧ wx.cell? ⟨gu, k3, none⟩ = some (.bool bv) ∧ wx.cell? ⟨g3, k3 * 10 + 4, none⟩ = some (.int .i64 mv)) := fun wx b => by
                            have hbb : Below W8.heap.size W8 wx := hb9'.trans (b.mono hb9'.size)
                            have h := (b.block _ (lt_of_block HX9.out)).trans HX9.out
                            refine ⟨?_, ?_, ?_, (hbb.cell (Go.block_lt_of_cell HE1.out)).trans HE1.out, (hbb.cell (Go.block_lt_of_cell HEQ.out)).trans HEQ.out, (hbb.cell (Go.block_lt_of_cell HEU.out)).trans HEU.out, (hbb.cell (Go.block_lt_of_cell HEM.out)).trans HEM.out⟩ <;> rw [cell_of_row wx _ _ _ _ _ h] <;> rfl
                          have HD0 : Hid (Below W9.heap.size W9 W9.drew) := ⟨rfl, rfl, rfl, Nat.le_refl _, fun _ _ => rfl⟩
                          have HKP0 := Lib.hid (HS9.out _ HD0.out)
                          clear hb9 hx9 hW9 hQ2 hb9' f0 f1 f2 s39
                          have hcs : (bv = false) ∨ (bv = true ∧ (mv == 0) = false ∧ (av == 0) = false) := by
                            cases hb : bv with
                            | false => exact .inl rfl
                            | true => obtain ⟨h1, h2⟩ := hgo hb; exact .inr ⟨rfl, by simp [h1], by simp [h2]⟩
                          clear hgo
                          have HFQ := Lib.hid (fun n : Nat => HFI.out (W9.drewN n) (HBW9.out.trans ⟨rfl, rfl, rfl, Nat.le_refl _, fun _ _ => rfl⟩))
                          have hk3 := HK3.out
                          obtain ⟨z0, z1, z2, z3, z4, z5, z6⟩ := HS9.out W9 (Below.refl _ _)
                          clear HKP0 HD0
                          rcases hcs with rfl | ⟨rfl, c1, c2⟩
                          all_goals
                            go_quiet (first | (go_at_call 21; exact Calls.quiet_of (HFQ.out _)) | fail)
                            go_wp2
                            go_roundw
                            case rel => exact ⟨k3 + 1, HLT3.out, by go_num, HB9.out.trans ⟨rfl, rfl, rfl, Nat.le_refl _, fun _ _ => rfl⟩⟩
                            case measure => have := HLT3.out; simp [intOf]; omega
                        · obtain rfl : n0 = k3 := by omega
                          have HIWn := Lib.hid (HIW7.out.keep HB8.out)
                          have HRDn := Lib.hid (HRN7.out.keep HB8.out)
                          have HLOSn : Hid ((L.map (actP f)).map (fun p => (p.lo, p.hi)) = los) := (act_los f L).trans HLOS.out
                          have HSSn : Hid ((L.map (actP f)).map CP.s = l.map AP.s) := by
                            show _ = _
                            rw [← HSS.out, List.map_map]
                            rfl
                          have HOQn := HOQ7
                          have HBDn : Hid (∀ p ∈ L.map (actP f), Bd p.m p.st p.wr (k + 1 + 1)) := fun p hp => by
                            obtain ⟨q, hq, rfl⟩ := List.mem_map.1 hp
                            have h := HBD.out q hq
                            exact ⟨actM_in h.1, goN_in h.2.1, goW_in h.2.2⟩
                          have HBn := Lib.hid (HBW7.out.trans (HB8.out.mono HBW7.out.size))
                          have HHn : Hid (H ≤ W8.heap.size) := Nat.le_trans HSZ.out HB8.out.size
                          obtain ⟨L2, hL2⟩ : ∃ L2, L.map (actP f) = L2 := ⟨_, rfl⟩
                          rw [hL2] at HIWn HLOSn HSSn HOQn HBDn
                          clear hlt3 hk3 hL2 HIW7 HRN7 HB8 HBW7 HU7 HRO7 HPI HQ7 HFO
                          have HNLn : Hid (L2.length = n0) := by
                            show _ = _
                            have h1 := congrArg List.length HSSn.out
                            rw [List.length_map, List.length_map] at h1
                            rw [h1]; exact HN0.out
                          have HNOn : Hid (out6.length = n0) := by
                            show _ = _
                            have h1 := congrArg List.length HOQn.out
                            rw [List.length_map, List.length_map] at h1
                            rw [h1]; exact HNLn.out
                          have hsh := shots_any HIWn.out (by have := HNLn.out; have := HN20.out; omega)
                          rw [HNLn.out] at hsh
                          have HSH := Lib.hid hsh
                          clear hsh
                          go_wp2_with fail
                          refine HSH.out.mono ?_
                          rintro e wS ⟨R1, D1, rfl, -, hbr1, hdl1, hsd1, hbS⟩
                          have hun := unlike22_any (c := n0) hsd1 hbr1 (by rw [hdl1, HNLn.out]) (HRDn.out.keep hbS).row HOQn.out (by have := HNLn.out; have := HN20.out; omega)
                          rw [HNLn.out] at hun
                          have HUN := Lib.hid hun
                          have HbS := Lib.hid hbS
                          clear hun hbr1 hdl1 hsd1 hbS HSH
                          go_wp2_with fail
                          refine HUN.out.mono ?_
                          rintro e wU ⟨rfl, hbU⟩
                          have HSU := Lib.hid (HbS.out.trans (hbU.mono HbS.out.size))
                          have tE : ((⟨#[]⟩ : ByteArray) != ⟨#[]⟩) = false := by decide
                          have hk1 := HK1.out
                          clear hbU HUN
                          go_wp2
                          go_roundw
                          case rel => exact ⟨k + 1, L2, out6, HLT.out, by go_num, HIWn.out.keep HSU.out, HLOSn.out, HSSn.out, HRDn.out.keep HSU.out, HOQn.out, HBDn.out, Nat.le_trans HHn.out HSU.out.size, HBn.out.trans (HSU.out.mono HBn.out.size)⟩
                          case measure => have := HLT.out; simp [intOf]; omega
              · obtain rfl : len2 = k := by omega
                clear hlt hk
                as_aux_lemma =>
                  have hmo := modes_any HIW.out (by have := HNL.out; have := HN20.out; omega)
                  rw [HNL.out] at hmo
                  have HMO := Lib.hid hmo
                  clear hmo
                  go_wp2_with fail
                  refine HMO.out.mono ?_
                  rintro e W5 ⟨R, rfl, -, hri, hb5⟩
                  have HRI := Lib.hid hri
                  have HB5 := Lib.hid hb5
                  have HJ0 : Hid (JRel n0 W5 (.int .i64 0) W5) := ⟨0, Nat.zero_le _, rfl, Below.refl _ _⟩
                  clear hri hb5 HMO
                  go_wp2_with fail
                  go_loopw [265] (fun i W' => JRel n0 W5 i W') (fun i _ => n0 - (intOf i).toNat)
                  case atStart => exact HJ0.out
                  case round =>
                    rename World => W6
                    obtain ⟨k4, hk4, rfl, hb6⟩ := hrel
                    have HB6 : Hid (Below W4.heap.size W4 W6) := HB5.out.trans (hb6.mono HB5.out.size)
                    have HBJ := Lib.hid hb6
                    clear hb6 HJ0
                    by_cases hlt4 : k4 < n0
                    · obtain ⟨p, hp⟩ : ∃ p, L[k4]? = some p := ⟨_, List.getElem?_eq_getElem (by rw [HNL.out]; exact hlt4)⟩
                      obtain ⟨r, hr⟩ : ∃ r, out[k4]? = some r := ⟨_, List.getElem?_eq_getElem (by rw [HNO.out]; exact hlt4)⟩
                      have hrq : r.q = p.q := by
                        have h1 := congrArg (·[k4]?) HOQ.out
                        simp only [List.getElem?_map, hp, hr] at h1
                        exact Option.some.inj h1
                      obtain ⟨g3, c3, hv, hc⟩ := (HRD.out.row.keep HB6.out).cells hr
                      injection hv with hv1 hv2 hv3
                      subst hv1
                      have em : W6.cell? ⟨g3, k4 * 10 + 4, none⟩ = some (.int .i64 p.m) := (hc 4 (by omega)).trans (congrArg (fun q : QS => some (Value.int .i64 q.m)) hrq)
                      have er := (HRI.out.keep HBJ.out).cell (i := k4) (x := p.m) (by rw [List.getElem?_map, hp]; rfl)
                      have HLT4 := Lib.hid hlt4
                      have hkb4 : (k4 : Int) < n0 := by omega
                      have hki4 : (0 : Int) ≤ k4 := by omega
                      have hk41 : IntKind.i64.wrap ((k4 : Int) + 1) = (k4 : Int) + 1 := IntWalk.i64_in _ (by have := HN20.out; omega)
                      obtain ⟨mv, hmv⟩ : ∃ mv, p.m = mv := ⟨_, rfl⟩
                      rw [hmv] at em er
                      have t0 : (mv != mv) = false := by simp
                      clear hp hr hrq hv2 hv3 hc hlt4 hk4 hmv
                      go_wp2
                      go_roundw
                      case rel => exact ⟨k4 + 1, HLT4.out, by go_num, HBJ.out⟩
                      case measure => have := HLT4.out; simp [intOf]; omega
                    · obtain rfl : n0 = k4 := by omega
                      clear hlt4 hk4
                      have HIW6 := Lib.hid (HIW.out.keep HB6.out)
                      have HRD6 := Lib.hid (HRD.out.keep HB6.out)
                      have HBW6 := Lib.hid (HB.out.trans (HB6.out.mono HB.out.size))
                      have HCC := Lib.hid (ccopy_any HIW6.out (by have := HNL.out; have := HN20.out; omega))
                      clear HIW HRD HB HRI HBJ HB6 HB5
                      go_wp2_with fail
                      refine HCC.out.mono ?_
                      rintro e W7 ⟨gd, mbd, Vd, D, rfl, hiwd, hdq, hb7⟩
                      have HDQ := Lib.hid hdq
                      have hdl : D.length = n0 := by have := congrArg List.length hdq; rw [List.length_map, List.length_map] at this; rw [this]; exact HNL.out
                      have HDL := Lib.hid hdl
                      have HID7 := Lib.hid hiwd
                      have HB7 := Lib.hid hb7
                      have HIW7 := Lib.hid (HIW6.out.keep hb7)
                      have hsh := shots_any HIW7.out (by have := HNL.out; have := HN20.out; omega)
                      rw [HNL.out] at hsh
                      have HSH := Lib.hid hsh
                      have HNSL : Hid (∀ q ∈ L, q.ns.length = q.s.n ∧ q.s.n ≤ 1000) := fun q hq => ⟨(HIW7.out.pt q hq).1.ic.nlen, (HIW7.out.pt q hq).2.2.2.2.2.2⟩
                      have HNSD : Hid (∀ q ∈ D, q.ns.length = q.s.n ∧ q.s.n ≤ 1000) := fun q hq => ⟨(HID7.out.pt q hq).1.ic.nlen, (HID7.out.pt q hq).2.2.2.2.2.2⟩
                      have HDST : Hid (∀ p ∈ D, 0 ≤ p.st ∧ p.st ≤ 100) := fun p hp => by
                        have h1 : p.q ∈ L.map CP.q := by rw [← hdq]; exact List.mem_map.2 ⟨p, hp, rfl⟩
                        obtain ⟨z, hz, hzq⟩ := List.mem_map.1 h1
                        have h2 := (HBD.out z hz).2.1
                        rw [show z.st = p.st from congrArg QS.st hzq] at h2
                        exact ⟨h2.1, by have := h2.2; have := HL2.out; omega⟩
                      clear hiwd hdq hdl hb7 hsh HCC
                      go_wp2_with fail
                      refine HSH.out.mono ?_
                      rintro e W8 ⟨R1, D1, rfl, -, hbr1, hdl1, hsd1, hb8⟩
                      have hsh := shots_any (HID7.out.keep hb8) (by have := HDL.out; have := HN20.out; omega)
                      rw [HDL.out] at hsh
                      have HSH2 := Lib.hid hsh
                      have HBR1 := Lib.hid hbr1
                      have HSD1 := Lib.hid hsd1
                      have HDL1 := Lib.hid hdl1
                      have HB8 := Lib.hid (HB7.out.trans (hb8.mono HB7.out.size))
                      have HID8 := Lib.hid (HID7.out.keep hb8)
                      clear hsh hbr1 hdl1 hsd1 hb8 HSH HID7
                      go_wp2_with fail
                      refine HSH2.out.mono ?_
                      rintro e W9 ⟨R2, D2, rfl, -, hbr2, hdl2, hsd2, hb9⟩
                      have hs2 := hsd2.ss hbr2 (by rw [hdl2, HDL.out]) (fun q hq => (HNSD.out q hq).1)
                      have hs1 := (HSD1.out.keep hb9).ss (HBR1.out.keep hb9) (by rw [HDL1.out, HNL.out]) (fun q hq => (HNSL.out q hq).1)
                      have hsh : D.map CP.sh = L.map CP.sh := by
                        have := congrArg (List.map (fun q : QS => (⟨q.s.id, q.m, q.st, q.ca, q.ns⟩ : Sh))) HDQ.out
                        rw [List.map_map, List.map_map] at this
                        exact this
                      rw [hsh] at hs2
                      have HSM := Lib.hid (same_any _ _ n0 n0 n0 n0 (L.map CP.sh) (L.map CP.sh) W9 hs1 hs2 (by rw [List.length_map]; exact HNL.out) (by rw [List.length_map]; exact HNL.out) (by have := HN20.out; omega) (fun z hz => by
                        obtain ⟨q, hq, rfl⟩ := List.mem_map.1 hz
                        have := HNSL.out q hq
                        show q.ns.length ≤ 1000
                        omega))
                      rw [sameL_refl] at HSM
                      have HB9 := Lib.hid (HB8.out.trans (hb9.mono HB8.out.size))
                      have HID9 := Lib.hid (HID8.out.keep hb9)
                      clear hbr2 hdl2 hsd2 hb9 hs1 hs2 hsh HSH2 HB8 HID8 HBR1 HSD1
                      go_wp2_with fail
                      refine HSM.out.mono ?_
                      rintro e W10 ⟨rfl, hb10⟩
                      have HB10 := Lib.hid (HB9.out.trans (hb10.mono HB9.out.size))
                      have hb11 : Below W10.heap.size W10 (W10.alloc (.cells #[] 84)) := (Below.refl _ _).alloc (Nat.le_refl _) _
                      have HID11 := Lib.hid ((HID9.out.keep hb10).keep hb11)
                      have HB11 := Lib.hid (HB10.out.trans (hb11.mono HB10.out.size))
                      have hch := change_any HID11.out (by have := HDL.out; have := HN20.out; omega) (fun q hq => ⟨(HDST.out q hq).1, by have := (HDST.out q hq).2; omega⟩) (some ⟨W10.heap.size, 0, none⟩) 0 [] 0 (fun i x hx => by simp at hx) (fun h => by cases h) (Nat.le_refl _) (by simp)
                      rw [HDL.out, List.length_nil] at hch
                      have HCH := Lib.hid hch
                      clear hb10 hb11 hch HB9 HID9 HSM
                      go_wp2_with fail
                      refine HCH.out.mono ?_
                      rintro e W12 ⟨G, rfl, hG, hbrG, hiw12, hpr12⟩
                      have hmm : D.map (actP (forN [] 0)) = D := by
                        have : actP (forN [] 0) = id := funext act_none
                        rw [this, List.map_id]
                      rw [hmm] at hiw12
                      have HID12 := Lib.hid hiw12
                      have HB12 : Hid (Below W6.heap.size W6 W12) := PR.below HB11.out hpr12 HB11.out.size (fun q hq => (HID11.out.pt q hq).2.1)
                      have hids := ids_any HID12.out (by have := HDL.out; have := HN20.out; omega)
                      rw [HDL.out] at hids
                      have HIDS := Lib.hid hids
                      have HPD : Hid (∀ p ∈ D, p.hi ≤ W12.heap.size) := fun p hp => (HID12.out.pt p hp).1.hs
                      clear hG hbrG hiw12 hpr12 hmm hids HCH HID11 HB11 HB10
                      go_wp2_with fail
                      refine HIDS.out.mono ?_
                      rintro e W13 ⟨RI, rfl, hRI, hri, hb13⟩
                      have HRI : Hid (W12.heap.size ≤ RI) := hRI
                      have HS5 : Hid (QRel W6.heap.size gd mbd Vd D n0 RI W6 (.int .i64 0) W13) := ⟨0, D, Nat.zero_le _, rfl, HID12.out.keep hb13, rfl, rfl, fun p hp => ⟨(HDST.out p hp).1, by have := (HDST.out p hp).2; omega⟩, hri, HB12.out.trans (hb13.mono HB12.out.size)⟩
                      clear hRI hri hb13 HIDS HB12 HID12
                      obtain ⟨BD, hBD⟩ : ∃ BD, W6.heap.size = BD := ⟨_, rfl⟩
                      go_wp2_with fail
                      go_loopw [296] (fun i W => QRel W6.heap.size gd mbd Vd D n0 RI W6 i W) (fun i _ => n0 - (intOf i).toNat)
                      case atStart => exact HS5.out
                      case round =>
                        rename World => W
                        obtain ⟨k5, M, hk5, rfl, hiw, hlo5, hs5, hst5, hri5, hb5⟩ := hrel
                        have HIM := Lib.hid hiw
                        have HLO5 := Lib.hid hlo5
                        have HS55 := Lib.hid hs5
                        have HST5 := Lib.hid hst5
                        have HRI5 := Lib.hid hri5
                        have HB5 := Lib.hid hb5
                        have hml : M.length = n0 := by have := congrArg List.length hs5; rw [List.length_map, List.length_map] at this; rw [this]; exact HDL.out
                        have HML := Lib.hid hml
                        clear hiw hlo5 hs5 hst5 hri5 hb5 hml HS5
                        by_cases hlt5 : k5 < n0
                        · obtain ⟨q, hq⟩ : ∃ q, M[k5]? = some q := ⟨_, List.getElem?_eq_getElem (by rw [HML.out]; exact hlt5)⟩
                          obtain ⟨p, hp⟩ : ∃ p, D[k5]? = some p := ⟨_, List.getElem?_eq_getElem (by rw [HDL.out]; exact hlt5)⟩
                          have hqs : q.s = p.s := by
                            have h1 : (M.map CP.s)[k5]? = some q.s := by rw [List.getElem?_map, hq]; rfl
                            rw [HS55.out, List.getElem?_map, hp] at h1
                            exact (Option.some.inj h1).symm
                          have hrc := HRI5.out.cell (i := k5) (x := q.s.id) (by rw [List.getElem?_map, hp, hqs]; rfl)
                          have hqm : q ∈ M := List.mem_of_getElem? hq
                          have hpt := HIM.out.pt q hqm
                          have hget := get_any HIM.out q.s.id hpt.2.2.2.2.2.1
                          rw [fnd_at HIM.out.up hq] at hget
                          have HGET := Lib.hid hget
                          have HQK := Lib.hid hq
                          have HQM := Lib.hid hqm
                          have HPT := Lib.hid hpt
                          have HLT5 := Lib.hid hlt5
                          have hkb5 : (k5 : Int) < n0 := by omega
                          have hki5 : (0 : Int) ≤ k5 := by omega
                          have HK5 : Hid (IntKind.i64.wrap ((k5 : Int) + 1) = (k5 : Int) + 1) := IntWalk.i64_in _ (by have := HN20.out; omega)
                          have hk51 := HK5.out
                          have HSM := Lib.hid (setmode_any HPT.out.1 HPT.out.2.2.2.2.2.2 ⟨(HST5.out q hqm).1, by have := (HST5.out q hqm).2; have := hlt5; have := HN20.out; omega⟩ 1)
                          clear hq hp hqs hqm hpt hget hk5 hlt5
                          go_wp2_with (first
                            | (go_at_call 12; refine HGET.out.mono ?_; rintro e W1 ⟨rfl, rfl⟩; simp only [Option.map_some, Option.getD_some, Option.isSome_some, CP.ptr])
                            | (go_at_call 16; refine HSM.out.mono ?_; rintro e W2 ⟨rfl, hp2, hr2⟩; have HP2 := Lib.hid hp2; have HR2 := Lib.hid hr2; clear hp2 hr2))
                          have hmv := HIM.out.moved HQK.out (p' := { q with m := setM q.m 1, st := goN (setS q.m 1) q.st, ca := goC (setS q.m 1) 1 q.ca, ns := goL (setS q.m 1) q.s.fs q.ns, wr := goW (setS q.m 1) q.wr }) HP2.out HR2.out rfl rfl rfl rfl
                          have hr9 : RowI RI (D.map fun p => p.s.id) W2 := (HR2.out.block RI (lt_of_block HRI5.out) (.inr (by
                            have h1 : (q.lo, q.hi) ∈ D.map fun p => (p.lo, p.hi) := by rw [← HLO5.out]; exact List.mem_map.2 ⟨q, HQM.out, rfl⟩
                            obtain ⟨z, hz, hze⟩ := List.mem_map.1 h1
                            injection hze with e1 e2
                            have := HPD.out z hz
                            have := HRI.out
                            omega))).trans HRI5.out
                          have HB2 : Hid (Below W6.heap.size W6 W2) := Rng.below HB5.out HR2.out HB5.out.size HPT.out.2.1
                          have HNX : Hid (∃ M', IsW W2 W6.heap.size gd mbd Vd M' ∧ M'.map (fun p => (p.lo, p.hi)) = D.map (fun p => (p.lo, p.hi)) ∧ M'.map CP.s = D.map CP.s ∧ (∀ p ∈ M', 0 ≤ p.st ∧ p.st ≤ ((k5 + 1 : Nat) : Int) + 200) ∧ RowI RI (D.map fun p => p.s.id) W2) := by
                            refine ⟨_, hmv.1, ?_, ?_, ?_, hr9⟩
                            · rw [← HLO5.out, List.map_set]
                              exact RD.put.set_same (by rw [List.getElem?_map, HQK.out]; rfl)
                            · rw [← HS55.out, List.map_set]
                              exact RD.put.set_same (by rw [List.getElem?_map, HQK.out]; rfl)
                            · intro z hz
                              rcases List.mem_or_eq_of_mem_set hz with hz | rfl
                              · have := HST5.out z hz; omega
                              · have h1 := HST5.out q HQM.out
                                show 0 ≤ goN (setS q.m 1) q.st ∧ goN (setS q.m 1) q.st ≤ _
                                unfold goN
                                split <;> omega
                          clear hmv hr9 HP2 HR2 HRI5 HIM HPT HGET
                          go_wp2
                          go_roundw
                          case rel =>
                            obtain ⟨M', h1, h2, h3, h4, h5⟩ := HNX.out
                            exact ⟨k5 + 1, M', HLT5.out, by go_num, h1, h2, h3, h4, h5, HB2.out⟩
                          case measure => have := HLT5.out; simp [intOf]; omega
                        · obtain rfl : n0 = k5 := by omega
                          clear hlt5 hk5
                          have hsh := shots_any (HIW6.out.keep HB5.out) (by have := HNL.out; have := HN20.out; omega)
                          rw [HNL.out] at hsh
                          have HSH := Lib.hid hsh
                          have HRD13 := Lib.hid (HRD6.out.keep HB5.out)
                          have HBW13 := Lib.hid (HBW6.out.trans (HB5.out.mono HBW6.out.size))
                          clear hsh HIM HRI5 HIW6 HRD6 HIW7
                          go_wp2_with fail
                          refine HSH.out.mono ?_
                          rintro e W14 ⟨R3, D3, rfl, -, hbr3, hdl3, hsd3, hb14⟩
                          have hun := unlike22_any (c := n0) hsd3 hbr3 (by rw [hdl3, HNL.out]) (HRD13.out.keep hb14).row HOQ.out (by have := HNL.out; have := HN20.out; omega)
                          rw [HNL.out] at hun
                          have HUN := Lib.hid hun
                          have HB14 := Lib.hid (HBW13.out.trans (hb14.mono HBW13.out.size))
                          have tE : ((⟨#[]⟩ : ByteArray) == ⟨#[]⟩) = true := by decide
                          clear hun hbr3 hdl3 hsd3 hb14 HSH
                          go_wp2_with fail
                          refine HUN.out.mono ?_
                          rintro e W15 ⟨rfl, hb15⟩
                          have HB15 := Lib.hid (HB14.out.trans (hb15.mono HB14.out.size))
                          clear hb15 HUN
                          go_wp2_with (go_at_call 7; refine (awake_any _).mono ?_; rintro e W16 ⟨rfl, hb16⟩; have HB16 := Lib.hid (HB15.out.trans (hb16.mono HB15.out.size)); clear hb16)
                          go_ret
                          exact ⟨rfl, HB16.out⟩
      · exact absurd HRIS.out hno
    · have HNO := Lib.hid hno
      clear hno
      go_wp2_with fail
      refine (HRN.out _ HB2.out).mono ?_
      rintro e w3 ⟨hb3, hor⟩
      have HB3 := Lib.hid (HB2.out.trans (hb3.mono HB2.out.size))
      clear HRN hb3 HB2
      rcases hor with ⟨hris, -⟩ | ⟨hno, rfl⟩
      · exact absurd hris HNO.out
      · clear hno
        go_wp2_with (go_at_call 7; refine (awake_any _).mono ?_; rintro e w4 ⟨rfl, hb4⟩; have HB4 := Lib.hid (HB3.out.trans (hb4.mono HB3.out.size)); clear hb4)
        go_ret
        exact ⟨rfl, HB4.out⟩
end

end Go.Proofs.Ytjdgpbjjhgfikaa.crewPlays
