
/- Acts in their order: where an act stands in a row that is sorted (slices.BinarySearchFunc). Condition: at most a million acts. Acts: a row of the call's own, as another one is (slices.Clone). Condition: at most 2 to the power 40 acts. A row of acts of the call's own: of likes side by side the first alone stays (slices.CompactFunc). Condition: at most a million acts. Acts in their order, the first of each alone: what that is, and that the document and a stable sort tell one. It says nothing of the program. No condition. -/

import Derived.Test.YtjdgpbjjhgfikaaSrtA

import Derived.Laws.AppendOwn

namespace Go.Proofs.Ytjdgpbjjhgfikaa.Srt

open Go.RowKit Go.PlainAid

open Go.Proofs.Ytjdgpbjjhgfikaa.Cel (Two two_below)

set_option linter.unusedVariables false

set_option linter.unusedSimpArgs false

theorem half_factsI {u v : Nat} (h : u + v ≤ 4000000) : IntKind.i64.wrap ((u : Int) + (v : Int)) = ((u + v : Nat) : Int) ∧ IntKind.u64.wrap (((u + v : Nat) : Nat) : Int) = ((u + v : Nat) : Int) := by
  constructor
  · rw [Int.natCast_add]; exact IntWalk.i64_in _ (by omega)
  · rw [IntKind.wrap_u64]; omega
/-- sort's closure: are two acts of one schedule and partition? -/
theorem same_any (x y : A3) (w : World) :
    Calls Try.prog 83 #[.agg #[.int .i64 x.s, .int .i64 x.p, .int .i64 x.a], .agg #[.int .i64 y.s, .int .i64 y.p, .int .i64 y.a]] w fun e w' => e = .returned (.bool (decide (same x y))) ∧ Below w.heap.size w w' := by
  obtain ⟨W, hW⟩ : ∃ W, (w.alloc (.cells #[.int .i64 x.s, .int .i64 x.p, .int .i64 x.a] 84)).alloc (.cells #[.int .i64 y.s, .int .i64 y.p, .int .i64 y.a] 84) = W := ⟨_, rfl⟩
  have hb : Below w.heap.size w W := by rw [← hW]; exact al_two w _ _
  have h1 : W.heap[w.heap.size]? = some (.cells #[.int .i64 x.s, .int .i64 x.p, .int .i64 x.a] 84 (0, 0)) := by rw [← hW, heap_alloc_old _ _ (by simp)]; exact heap_alloc_new _ _
  have h2 : W.heap[w.heap.size + 1]? = some (.cells #[.int .i64 y.s, .int .i64 y.p, .int .i64 y.a] 84 (0, 0)) := by rw [← hW]; exact second_new w _ _
  have HW := Lib.hid hW
  have HB := Lib.hid hb
  have H1 := Lib.hid h1
  have H2 := Lib.hid h2
  have HCM : Hid (Calls Try.prog 68 #[.agg #[.int .i64 x.s, .int .i64 x.p, .int .i64 x.a], .agg #[.int .i64 y.s, .int .i64 y.p, .int .i64 y.a]] W fun e w' => e = .returned (.int .i64 (cmpA x y)) ∧ Below W.heap.size W w') := compare_any x y W
  have HCL : Hid (decide (same x y) = (cmpA x y == 0)) := by
    show _ = _
    rw [Bool.eq_iff_iff, decide_eq_true_iff, beq_iff_eq]
    exact (cmp_same x y).symm
  rw [HCL.out]
  obtain ⟨c, hc⟩ : ∃ c, cmpA x y = c := ⟨_, rfl⟩
  rw [hc] at HCM
  rw [hc]
  clear hW hb h1 h2 hc HCL
  go_enter Try.func83, Try.ntmps83
  go_upto_region 1 with fail
  rw [HW.out]
  go_wp2_with (first
    | ((with_reducible show wpList _ _ _ _ _ _); refine wpList_load_row rfl 84 (.tmp 2) rfl w.heap.size rfl 84 _ (0, 0) _ H1.out Try.underlying84 rfl size_act ?_)
    | ((with_reducible show wpList _ _ _ _ _ _); refine wpList_load_row rfl 84 (.tmp 3) rfl (w.heap.size + 1) rfl 84 _ (0, 0) _ H2.out Try.underlying84 rfl size_act ?_))
  refine HCM.out.mono ?_
  rintro e w6 ⟨rfl, hb6⟩
  have HB6 := Lib.hid (HB.out.trans (hb6.mono HB.out.size))
  clear hb6
  go_wp2
  go_ret
  exact ⟨rfl, HB6.out⟩
/-- The place i: below it all stand ahead of t, from it on none does. -/
def AtP (L : List A3) (t : A3) (i : Nat) : Prop := i ≤ L.length ∧ (∀ y, 0 < i → L[i - 1]? = some y → lt y t) ∧ (∀ y, L[i]? = some y → ¬ lt y t)
def isAt (L : List A3) (t : A3) (i : Nat) : Bool := match L[i]? with
  | some y => decide (same y t)
  | none => false
def BiRel (L : List A3) (t : A3) (g : Nat) (tl : List Value) (w W0 : World) (i j : Value) (W : World) : Prop :=
  ∃ (p q : Nat), p ≤ q ∧ q ≤ L.length ∧ i = .int .i64 (p : Int) ∧ j = .int .i64 (q : Int) ∧ (∀ y, 0 < p → L[p - 1]? = some y → lt y t) ∧ (∀ y, L[q]? = some y → ¬ lt y t) ∧ Below W0.heap.size W0 W
section
attribute [-go_sem] storeVar loadVar
set_option maxRecDepth 8000 in
set_option maxHeartbeats 6400000 in
theorem search_any (L : List A3) (t : A3) (g n cap : Nat) (tl : List Value) (w : World) (hr : Row g tl L w) (hn : L.length = n) (hl : n ≤ 1000000) :
    Calls Try.prog 67 #[.slice (some ⟨g, 0, none⟩) n cap, .agg #[.int .i64 t.s, .int .i64 t.p, .int .i64 t.a], .func (.func 68) #[] #[]] w fun e w' => ∃ i : Nat, e = .returned (.tuple #[.int .i64 (i : Int), .bool (isAt L t i)]) ∧ AtP L t i ∧ Below w.heap.size w w' := by
  have hb0 : Below w.heap.size w (w.alloc (.cells #[.int .i64 t.s, .int .i64 t.p, .int .i64 t.a] 84)) := (Below.refl _ _).alloc (Nat.le_refl _) _
  have hx0 := heap_alloc_new w (.cells #[.int .i64 t.s, .int .i64 t.p, .int .i64 t.a] 84)
  obtain ⟨W0, hW0⟩ : ∃ W, w.alloc (.cells #[.int .i64 t.s, .int .i64 t.p, .int .i64 t.a] 84) = W := ⟨_, rfl⟩
  rw [hW0] at hb0 hx0
  obtain ⟨X, hX⟩ : ∃ X, w.heap.size = X := ⟨_, rfl⟩
  rw [hX] at hx0
  have HW0 := Lib.hid hW0
  have HXX := Lib.hid hX
  have HX0 := Lib.hid hx0
  have HB0 := Lib.hid hb0
  have HR0 := Lib.hid (hr.keep hb0)
  have HN : Hid (L.length = n ∧ n ≤ 1000000) := ⟨hn, hl⟩
  have HLT : Hid (∀ W, Below W0.heap.size W0 W → Sem.run Try.prog (loadVar 84 ⟨X, 0, none⟩) W = .ok (.agg #[.int .i64 t.s, .int .i64 t.p, .int .i64 t.a]) W) := fun W b => run_loadVar_row W X _ _ _ (0, 0) _ ((b.block _ (lt_of_block hx0)).trans hx0) Try.underlying84 rfl size_act
  have HST : Hid (∀ x : Nat, x = 0 → BiRel L t g tl w W0 (.int .i64 (x : Int)) (.int .i64 (n : Int)) W0) := fun x hx => ⟨x, n, by omega, by omega, rfl, rfl, fun y h _ => by omega, fun y h => (by rw [List.getElem?_eq_none (by omega)] at h; cases h), Below.refl _ _⟩
  clear hb0 hx0 hW0 hX hr hn hl
  go_enter Try.func67, Try.ntmps67
  go_upto_region 1 with fail
  rw [HW0.out, HXX.out]
  go_wp2_with fail
  go_loopw [9, 10] (fun i j W => BiRel L t g tl w W0 i j W) (fun i j _ => (intOf j).toNat - (intOf i).toNat)
  case atStart => exact HST.out 0 rfl
  case round =>
    rename World => W
    clear HST
    obtain ⟨p, q, hpq, hqb, rfl, rfl, hlo, hhi, hbw⟩ := hrel
    have HBW := Lib.hid hbw
    have HLO := Lib.hid hlo
    have HHI := Lib.hid hhi
    clear hbw hlo hhi
    have hnn := HN.out
    have HBD : Hid (Below W0.heap.size W0 W.drew) := below_drewS HBW.out
    have lt0 := HLT.out _ HBD.out
    by_cases hlt : p < q
    · have tpq : decide ((p : Int) < (q : Int)) = true := decide_eq_true (by omega)
      have tpqn : decide (p < q) = true := decide_eq_true hlt
      obtain ⟨hw1, hw2⟩ := half_factsI (u := p) (v := q) (by omega)
      obtain ⟨pq, hpqs⟩ : ∃ pq, p + q = pq := ⟨_, rfl⟩
      rw [hpqs] at hw1 hw2
      obtain ⟨h, hh⟩ : ∃ h, pq / 2 = h := ⟨_, rfl⟩
      have hhI : ((pq : Int) / 2) = (h : Int) := by omega
      have hhw : IntKind.i64.wrap (h : Int) = (h : Int) := IntWalk.i64_in _ (by omega)
      obtain ⟨y, hy⟩ : ∃ y, L[h]? = some y := ⟨_, List.getElem?_eq_getElem (by omega)⟩
      have hrd : Row g tl L W.drew := HR0.out.keep HBD.out
      have l0 := hrd.load hy
      have bh0 : (0 : Int) ≤ h := by omega
      have bh1 : (h : Int) < n := by omega
      have HCM : Hid (∀ W, Calls Try.prog 68 #[.agg #[.int .i64 y.s, .int .i64 y.p, .int .i64 y.a], .agg #[.int .i64 t.s, .int .i64 t.p, .int .i64 t.a]] W fun e w' => e = .returned (.int .i64 (cmpA y t)) ∧ Below W.heap.size W w') := fun W => compare_any y t W
      have HCL : Hid (cmpA y t < 0 ↔ lt y t) := cmp_less y t
      obtain ⟨c, hcc⟩ : ∃ c, cmpA y t = c := ⟨_, rfl⟩
      rw [hcc] at HCM HCL
      have HYY := Lib.hid hy
      have HPH : Hid (p ≤ h ∧ h < q ∧ q ≤ L.length) := by show _ ∧ _; omega
      have wh : IntKind.i64.wrap ((h : Int) + 1) = ((h + 1 : Nat) : Int) := by rw [Int.natCast_add]; exact IntWalk.i64_in _ (by omega)
      clear hcc hy hrd hh hpqs hnn hlt hpq hqb
      go_upto_region 5 with fail
      try rw [hhI]
      clear hw1 hw2 hhI hhw
      go_region_held3 (fun wx => Sem.run Try.prog (loadVar 84 ⟨g, h * 3, none⟩) wx = .ok (.agg #[.int .i64 y.s, .int .i64 y.p, .int .i64 y.a]) wx ∧ Sem.run Try.prog (loadVar 84 ⟨X, 0, none⟩) wx = .ok (.agg #[.int .i64 t.s, .int .i64 t.p, .int .i64 t.a]) wx)
        (first | exact HKP.out | (refine ⟨?_, ?_⟩ <;> assumption) | (go_keep; done))
        (first
          | (go_at_call 68; refine (HCM.out _).mono ?_; rintro e V2 ⟨rfl, hb⟩; have hb2 : Below W0.heap.size W0 V2 := HBD.out.trans (hb.mono HBD.out.size); have HB2 := Lib.hid hb2; have HKP : Hid (Sem.run Try.prog (loadVar 84 ⟨g, h * 3, none⟩) V2 = .ok (.agg #[.int .i64 y.s, .int .i64 y.p, .int .i64 y.a]) V2 ∧ Sem.run Try.prog (loadVar 84 ⟨X, 0, none⟩) V2 = .ok (.agg #[.int .i64 t.s, .int .i64 t.p, .int .i64 t.a]) V2) := ⟨(HR0.out.keep hb2).load HYY.out, HLT.out _ hb2⟩; clear hb hb2))
      obtain ⟨bc, hbc⟩ : ∃ bc, decide (c < 0) = bc := ⟨_, rfl⟩
      rw [hbc]
      cases bc with
      | true =>
        have hc0 : c < 0 := of_decide_eq_true hbc
        clear hbc
        have HNX : Hid (BiRel L t g tl w W0 (.int .i64 ((h + 1 : Nat) : Int)) (.int .i64 (q : Int)) V2) := ⟨h + 1, q, HPH.out.2.1, HPH.out.2.2, rfl, rfl, fun z _ hz => by
          rw [Nat.add_sub_cancel, HYY.out] at hz
          obtain rfl := Option.some.inj hz
          exact HCL.out.1 hc0, HHI.out, HB2.out⟩
        clear HKP HCM HCL hc0 lt0
        go_wp2
        go_roundw
        case rel => exact HNX.out
        case measure => have := HPH.out; simp [intOf]; omega
      | false =>
        have hc0 : ¬ c < 0 := of_decide_eq_false hbc
        clear hbc
        have HNX : Hid (BiRel L t g tl w W0 (.int .i64 (p : Int)) (.int .i64 (h : Int)) V2) := ⟨p, h, HPH.out.1, by have := HPH.out; omega, rfl, rfl, HLO.out, fun z hz => by
          rw [HYY.out] at hz
          obtain rfl := Option.some.inj hz
          exact fun hl => hc0 (HCL.out.2 hl), HB2.out⟩
        clear HKP HCM HCL hc0 lt0
        go_wp2
        go_roundw
        case rel => exact HNX.out
        case measure => have := HPH.out; simp [intOf]; omega
    · obtain rfl : p = q := by omega
      have tpq : decide ((p : Int) < (p : Int)) = false := decide_eq_false (by omega)
      have HAT : Hid (AtP L t p) := ⟨hqb, HLO.out, HHI.out⟩
      by_cases hpn : p < n
      · have tp : decide ((p : Int) < (n : Int)) = true := decide_eq_true (by omega)
        have tpn : decide (p < n) = true := decide_eq_true hpn
        obtain ⟨y, hy⟩ : ∃ y, L[p]? = some y := ⟨_, List.getElem?_eq_getElem (by omega)⟩
        have hrd : Row g tl L W.drew := HR0.out.keep HBD.out
        have l0 := hrd.load hy
        have bh0 : (0 : Int) ≤ p := by omega
        have bh1 : (p : Int) < n := by omega
        have HCM : Hid (∀ W, Calls Try.prog 68 #[.agg #[.int .i64 y.s, .int .i64 y.p, .int .i64 y.a], .agg #[.int .i64 t.s, .int .i64 t.p, .int .i64 t.a]] W fun e w' => e = .returned (.int .i64 (cmpA y t)) ∧ Below W.heap.size W w') := fun W => compare_any y t W
        have HCL : Hid (isAt L t p = (cmpA y t == 0)) := by
          show _ = _
          unfold isAt
          rw [hy]
          rw [Bool.eq_iff_iff, decide_eq_true_iff, beq_iff_eq]
          exact (cmp_same y t).symm
        obtain ⟨c, hcc⟩ : ∃ c, cmpA y t = c := ⟨_, rfl⟩
        rw [hcc] at HCM HCL
        have HYY := Lib.hid hy
        clear hcc hy hrd hnn hlt hpq hqb hpn
        go_wp2_with fail
        go_region_held3 (fun wx => Sem.run Try.prog (loadVar 84 ⟨g, p * 3, none⟩) wx = .ok (.agg #[.int .i64 y.s, .int .i64 y.p, .int .i64 y.a]) wx ∧ Sem.run Try.prog (loadVar 84 ⟨X, 0, none⟩) wx = .ok (.agg #[.int .i64 t.s, .int .i64 t.p, .int .i64 t.a]) wx)
          (first | exact HKP.out | (refine ⟨?_, ?_⟩ <;> assumption) | (go_keep; done))
          (first
            | (go_at_call 68; refine (HCM.out _).mono ?_; rintro e V2 ⟨rfl, hb⟩; have hb2 : Below W0.heap.size W0 V2 := HBD.out.trans (hb.mono HBD.out.size); have HB2 := Lib.hid hb2; have HKP : Hid (Sem.run Try.prog (loadVar 84 ⟨g, p * 3, none⟩) V2 = .ok (.agg #[.int .i64 y.s, .int .i64 y.p, .int .i64 y.a]) V2 ∧ Sem.run Try.prog (loadVar 84 ⟨X, 0, none⟩) V2 = .ok (.agg #[.int .i64 t.s, .int .i64 t.p, .int .i64 t.a]) V2) := ⟨(HR0.out.keep hb2).load HYY.out, HLT.out _ hb2⟩; clear hb hb2))
        obtain ⟨bz, hbz⟩ : ∃ bz, (c == 0) = bz := ⟨_, rfl⟩
        rw [hbz] at HCL
        try rw [hbz]
        clear HKP HCM lt0 l0
        go_wp2
        go_ret2
        exact ⟨p, by rw [HCL.out]; first | rfl | (rw [← hbz]; rfl) | (rw [← hbz]; simp), HAT.out, HB0.out.trans (HB2.out.mono HB0.out.size)⟩
      · have tp : decide ((p : Int) < (n : Int)) = false := decide_eq_false (by omega)
        have tpn : decide (p < n) = false := decide_eq_false hpn
        have HCL : Hid (isAt L t p = false) := by
          show _ = _
          unfold isAt
          rw [List.getElem?_eq_none (by omega)]
        have HBF : Hid (∀ k, Below w.heap.size w (W.drewN k)) := fun k => (HB0.out.trans (HBW.out.mono HB0.out.size)).trans ⟨rfl, rfl, rfl, Nat.le_refl _, fun _ _ => rfl⟩
        have HBF1 : Hid (Below w.heap.size w W.drew) := HBF.out 1
        clear hnn hlt hpq hqb hpn lt0
        go_wp2_with fail
        go_region
        go_wp2
        go_ret2
        exact ⟨p, by rw [HCL.out]; rfl, HAT.out, HBF1.out⟩
end

end Go.Proofs.Ytjdgpbjjhgfikaa.Srt

namespace Go.Proofs.Ytjdgpbjjhgfikaa.Srt

open Go.RowKit Go.PlainAid

open Go.Proofs.Ytjdgpbjjhgfikaa.Cel (Two two_below own_at own_slice own_keep own_base)

set_option linter.unusedVariables false

set_option linter.unusedSimpArgs false

/-- Acts lie at an address, cell by cell. -/
def FlatAt (w : World) (A : Option Addr) (L : List A3) : Prop := ∀ y, A = some y → ∀ j v, (flatA L)[j]? = some v → w.cell? (y.add j) = some v
theorem FlatAt.kept {w w' : World} {A : Option Addr} {L : List A3} (h : FlatAt w A L) (b : Below w.heap.size w w') : FlatAt w' A L := fun y hy j v hj => by
  have hc := h y hy j v hj
  exact (b.cell (Go.block_lt_of_cell hc)).trans hc
theorem flatA_one (l : List A3) : ∀ v ∈ flatA l, v.oneCell' = true := by
  intro v hv
  obtain ⟨x, _, hx⟩ := List.mem_flatMap.1 hv
  simp [actL] at hx
  rcases hx with rfl | rfl | rfl <;> rfl
theorem infoAct : (Try.prog.info? 84).map (fun i => (i.zero, i.size, i.bytes)) = some (some (.agg #[.int .i64 0, .int .i64 0, .int .i64 0]), 3, 24) := by kernel_rfl
def ClPost (l : List A3) (w : World) (e : Ending) (w' : World) : Prop := ∃ V, e = .returned V ∧ w'.ownsRow w.heap.size 84 3 V l.length (flatA l) ∧ Below w.heap.size w w'
set_option maxRecDepth 4000 in
set_option maxHeartbeats 800000 in
theorem clone_any (A : Option Addr) (cap : Nat) (l : List A3) (w : World) (hx : FlatAt w A l) (hnil : A = none → cap = 0) (hlc : l.length ≤ cap) (hl : l.length ≤ 1099511627776) :
    Calls Try.prog 80 #[.slice A l.length cap] w (ClPost l w) := by
  obtain ⟨i0, hi, hz0, hz1, hz2⟩ := info_parts infoAct
  cases A with
  | none =>
    obtain rfl := hnil rfl
    obtain rfl : l = [] := List.eq_nil_of_length_eq_zero (by omega)
    have he : ∀ W, (binOp .eql 23 (.slice none 0 0) (.slice none 0 0)).run Try.prog W = .ok (.bool true) W := fun W => Lib.run_eql_slice_nil W _ _ none 0 0 0 0 Try.underlying23
    clear hx hnil hl hi
    go_enter Try.func80, Try.ntmps80
    go_wp2
    go_ret
    exact ⟨_, rfl, World.ownsRow_nil _ _ _ _, Below.refl _ _⟩
  | some a =>
    have hb0 : Below w.heap.size w (w.alloc (.cells #[] 84)) := (Below.refl _ _).alloc (Nat.le_refl _) _
    have HX := Lib.hid ((hx.kept hb0) a rfl)
    have HB := Lib.hid hb0
    have HO : Hid ((w.alloc (.cells #[] 84)).ownsRow w.heap.size 84 3 (.slice (some ⟨w.heap.size, 0, none⟩) 0 0) 0 []) := World.ownsRow_lit w #[] 0 (Nat.le_refl _) (Nat.zero_le _) rfl
    have HFL := Lib.hid (flatA_len l)
    have HON := Lib.hid (flatA_one l)
    obtain ⟨LL, hLL⟩ : ∃ LL, l.length = LL := ⟨_, rfl⟩
    have HLL := Lib.hid hLL
    rw [hLL] at hl hlc HFL
    rw [hLL]
    clear hx hnil hb0 hLL
    obtain ⟨ab, ao, asp⟩ := a
    have he : ∀ W, (binOp .eql 23 (.slice (some ⟨ab, ao, asp⟩) LL cap) (.slice none 0 0)).run Try.prog W = .ok (.bool false) W := fun W => Lib.run_eql_slice_nil W _ _ (some ⟨ab, ao, asp⟩) LL cap 0 0 Try.underlying23
    go_enter Try.func80, Try.ntmps80
    go_wp2_with (at_builtin; refine wpList_append_own _ rfl _ _ 23 rfl w.heap.size 84 i0 (.agg #[.int .i64 0, .int .i64 0, .int .i64 0]) 3 24 Try.underlying23 hi hz0 hz1 hz2 rfl (by decide) _ 0 [] rfl HO.out ⟨ab, ao, asp⟩ LL cap (flatA l) rfl ?c1 ?c2 ?c3 ?c4 ?c5 ?c6 ?_)
    case c1 => exact HFL.out
    case c2 => exact HX.out
    case c3 => exact HON.out
    case c4 => unfold maxLen; omega
    case c5 => omega
    case c6 => simp
    intro v' w2 ho2 hg2 _
    have hb2 := HB.out.grown hg2 (by simp) (fun j hj => by first | (simp [Value.ownBlock] at hj; omega) | exact (ho2.lt j hj).1)
    clear hg2
    go_wp2
    go_ret
    exact ⟨v', rfl, by rw [HLL.out]; simpa using ho2, hb2⟩
/-- A row of the call's own is a block of acts, with what lies behind them. -/
theorem own_row {w : World} {B n c : Nat} {A : Option Addr} {l : List A3} (h : w.ownsRow B 84 3 (.slice A n c) n (flatA l)) (hl : l.length = n) : (A = none ∧ n = 0 ∧ c = 0) ∨ ∃ g tl, A = some ⟨g, 0, none⟩ ∧ B ≤ g ∧ n ≤ c ∧ c ≤ maxLen ∧ Row g tl l w := by
  rcases h.2 with ⟨h0, h1⟩ | ⟨g, c', cur, h0, hg1, hg2, hg3, hg4, hg5⟩
  · injection h0 with h2 h3 h4
    exact .inl ⟨h2, h1, h4⟩
  · injection h0 with h2 h3 h4
    subst h2 h4
    right
    refine ⟨g, cur.toList.drop (l.length * 3), rfl, hg1, hg3, hg4, ?_⟩
    show w.heap[g]? = _
    rw [hg2, ← hg5.2, hl, List.take_append_drop]
end Go.Proofs.Ytjdgpbjjhgfikaa.Srt

namespace Go.Proofs.Ytjdgpbjjhgfikaa.Srt

open Go.RowKit Go.PlainAid

open Go.Proofs.Ytjdgpbjjhgfikaa.Cel (Two two_below)

set_option linter.unusedVariables false

set_option linter.unusedSimpArgs false

def cmpR (p : A3) : List A3 → List A3
  | [] => []
  | x :: l => if same x p then cmpR x l else x :: cmpR x l
/-- The first of each run of likes. -/
def compL : List A3 → List A3
  | [] => []
  | x :: l => x :: cmpR x l
theorem cmpR_snoc (u : A3) : ∀ (l : List A3) (p v : A3), (p :: l).getLast? = some v → cmpR p (l ++ [u]) = cmpR p l ++ (if same u v then [] else [u])
  | [], p, v, h => by
    obtain rfl : p = v := by simpa using h
    simp only [List.nil_append, cmpR]
  | x :: l, p, v, h => by
    have h' : (x :: l).getLast? = some v := by simpa [List.getLast?_cons_cons] using h
    have ih := cmpR_snoc u l x v h'
    simp only [List.cons_append, cmpR]
    split
    · exact ih
    · rw [ih]; rfl
theorem compL_succ {L : List A3} {i : Nat} {u v : A3} (hi : 1 ≤ i) (hu : L[i]? = some u) (hv : L[i - 1]? = some v) : compL (L.take (i + 1)) = compL (L.take i) ++ (if same u v then [] else [u]) := by
  have hil := (List.getElem?_eq_some_iff.1 hu).1
  have e : L.take (i + 1) = L.take i ++ [u] := by rw [List.take_add_one, hu]; rfl
  rw [e]
  cases hL : L with
  | nil => rw [hL] at hil; simp at hil
  | cons x l =>
    obtain ⟨j, rfl⟩ : ∃ j, i = j + 1 := ⟨i - 1, by omega⟩
    rw [List.take_succ_cons]
    show x :: cmpR x (l.take j ++ [u]) = x :: (cmpR x (l.take j) ++ _)
    rw [cmpR_snoc u (l.take j) x v]
    have h1 : (x :: l.take j) = L.take (j + 1) := by rw [hL, List.take_succ_cons]
    rw [h1, List.getLast?_eq_getElem?, List.length_take, Nat.min_eq_left (by omega), List.getElem?_take, if_pos (by omega)]
    exact hv
def CpRel (L : List A3) (w : World) (i : Value) (W : World) : Prop :=
  ∃ k : Nat, 1 ≤ k ∧ k ≤ L.length ∧ i = .int .i64 (k : Int) ∧ compL (L.take k) = L.take k ∧ Below w.heap.size w W
def CqRel (L : List A3) (k0 g : Nat) (tl : List Value) (w : World) (i j : Value) (W : World) : Prop :=
  ∃ (K : List A3) (kk k2 : Nat), i = .int .i64 (kk : Int) ∧ j = .int .i64 (k2 : Int) ∧ 1 ≤ k2 ∧ k0 + k2 ≤ L.length ∧ kk < k0 + k2 ∧ K.length = L.length ∧ K.take kk = compL (L.take (k0 + k2)) ∧ K.drop (k0 + k2 - 1) = L.drop (k0 + k2 - 1) ∧ Row g tl K W ∧ Two g none w W
section
attribute [-go_sem] storeVar loadVar
set_option maxRecDepth 8000 in
set_option maxHeartbeats 6400000 in
theorem compact_any (L : List A3) (g n cap : Nat) (tl : List Value) (w : World) (hr : Row g tl L w) (hn : L.length = n) (hc : n ≤ cap) (hl : n ≤ 1000000) (hcl : ∀ (W : World) (k m c : Nat) (cur : Array Value), 0 < m → W.heap[g]? = some (.cells cur 84 (0, 0)) → k * 3 + m * 3 ≤ cur.size → ∃ zs : List Value, zs.length = m * 3 ∧ ∀ ty, (Builtin.clear_ #[23] ty #[.slice (some ⟨g, k * 3, none⟩) m c]).run Try.prog W = .ok (.tuple #[]) (W.setRow g (splice cur.toList (k * 3) zs).toArray)) :
    Calls Try.prog 82 #[.slice (some ⟨g, 0, none⟩) n cap, .func (.func 83) #[] #[]] w fun e w' => e = .returned (.slice (some ⟨g, 0, none⟩) (compL L).length cap) ∧ (∃ tl', Row g tl' (compL L) w') ∧ Two g none w w' := by
  by_cases h2 : n < 2
  · have e : compL L = L := by
      match L, hn with
      | [], _ => rfl
      | [x], _ => rfl
      | x :: y :: l, hn => simp at hn; omega
    have t0 : decide ((n : Int) < 2) = true := decide_eq_true (by omega)
    have t0n : decide (n < 2) = true := decide_eq_true h2
    rw [e, hn]
    clear hcl hc hl
    go_enter Try.func82, Try.ntmps82
    go_wp2
    go_ret
    exact ⟨rfl, ⟨tl, hr⟩, Two.refl _ _ _⟩
  · have t0 : decide ((n : Int) < 2) = false := decide_eq_false (by omega)
    have t0n : decide (n < 2) = false := decide_eq_false h2
    have HST : Hid (∀ x : Nat, x = 1 → CpRel L w (.int .i64 (x : Int)) w) := fun x hx => by
      refine ⟨x, by omega, by omega, rfl, ?_, Below.refl _ _⟩
      rw [hx]
      cases L with
      | nil => rfl
      | cons y l => simp [compL, cmpR]
    have HR := Lib.hid hr
    have HN : Hid (L.length = n ∧ n ≤ cap ∧ n ≤ 1000000 ∧ 2 ≤ n) := ⟨hn, hc, hl, by omega⟩
    have HCL := Lib.hid hcl
    clear hr hn hc hl hcl h2
    go_enter Try.func82, Try.ntmps82
    go_wp2_with fail
    go_loopw [5] (fun i W => CpRel L w i W) (fun i _ => (n + 1) - (intOf i).toNat)
    case atStart => exact HST.out 1 rfl
    case round =>
      rename World => W
      clear HST t0 t0n
      obtain ⟨k, hk1, hkn, rfl, hcp, hbw⟩ := hrel
      have HCP := Lib.hid hcp
      have HBW := Lib.hid hbw
      clear hcp hbw
      have hnn := HN.out
      by_cases hlt : k < n
      · have t1 : decide ((k : Int) < (n : Int)) = true := decide_eq_true (by omega)
        have t1n : decide (k < n) = true := decide_eq_true hlt
        obtain ⟨m, hm⟩ : ∃ m, k - 1 = m := ⟨_, rfl⟩
        have wm : IntKind.i64.wrap ((k : Int) - 1) = (m : Int) := by rw [show (k : Int) - 1 = (m : Int) by omega]; exact IntWalk.i64_in _ (by omega)
        obtain ⟨u, hu⟩ : ∃ u, L[k]? = some u := ⟨_, List.getElem?_eq_getElem (by omega)⟩
        obtain ⟨v, hv⟩ : ∃ v, L[m]? = some v := ⟨_, List.getElem?_eq_getElem (by omega)⟩
        have hsu := compL_succ hk1 hu (by rw [hm]; exact hv)
        have HBD : Hid (Below w.heap.size w W.drew) := below_drewS HBW.out
        have hrd : Row g tl L W.drew := HR.out.keep HBD.out
        have l0 := hrd.load hu
        have l1 := hrd.load hv
        have b0 : (0 : Int) ≤ k := by omega
        have b1 : (k : Int) < n := by omega
        have b2 : (0 : Int) ≤ m := by omega
        have b3 : (m : Int) < n := by omega
        have HSM : Hid (∀ W, Calls Try.prog 83 #[.agg #[.int .i64 u.s, .int .i64 u.p, .int .i64 u.a], .agg #[.int .i64 v.s, .int .i64 v.p, .int .i64 v.a]] W fun e w' => e = .returned (.bool (decide (same u v))) ∧ Below W.heap.size W w') := fun W => same_any u v W
        have HUV : Hid (L[k]? = some u ∧ L[m]? = some v) := ⟨hu, hv⟩
        have wk : IntKind.i64.wrap ((k : Int) + 1) = ((k + 1 : Nat) : Int) := by rw [Int.natCast_add]; exact IntWalk.i64_in _ (by omega)
        obtain ⟨d, hd⟩ : ∃ d, decide (same u v) = d := ⟨_, rfl⟩
        rw [hd] at HSM
        have HD := Lib.hid hd
        have HSU := Lib.hid hsu
        have HKN : Hid (1 ≤ k ∧ k < n) := ⟨hk1, hlt⟩
        clear hsu hu hv hrd hd hnn hm hlt hk1 hkn
        go_wp2_with fail
        go_region_held3 (fun wx => Sem.run Try.prog (loadVar 84 ⟨g, k * 3, none⟩) wx = .ok (.agg #[.int .i64 u.s, .int .i64 u.p, .int .i64 u.a]) wx ∧ Sem.run Try.prog (loadVar 84 ⟨g, m * 3, none⟩) wx = .ok (.agg #[.int .i64 v.s, .int .i64 v.p, .int .i64 v.a]) wx)
          (first | exact HKP.out | (refine ⟨?_, ?_⟩ <;> assumption) | (go_keep; done))
          (first
            | (go_at_call 83; refine (HSM.out _).mono ?_; rintro e V2 ⟨rfl, hb⟩; have hb2 : Below w.heap.size w V2 := HBD.out.trans (hb.mono HBD.out.size); have HB2 := Lib.hid hb2; have HKP : Hid (Sem.run Try.prog (loadVar 84 ⟨g, k * 3, none⟩) V2 = .ok (.agg #[.int .i64 u.s, .int .i64 u.p, .int .i64 u.a]) V2 ∧ Sem.run Try.prog (loadVar 84 ⟨g, m * 3, none⟩) V2 = .ok (.agg #[.int .i64 v.s, .int .i64 v.p, .int .i64 v.a]) V2) := ⟨(HR.out.keep hb2).load HUV.out.1, (HR.out.keep hb2).load HUV.out.2⟩; clear hb hb2))
        cases d with
        | false =>
          have HNX : Hid (CpRel L w (.int .i64 ((k + 1 : Nat) : Int)) V2) := ⟨k + 1, by omega, by have := HKN.out; have := HN.out; omega, rfl, by
            rw [HSU.out, if_neg (of_decide_eq_false HD.out), HCP.out, List.take_add_one, HUV.out.1]; rfl, HB2.out⟩
          clear HKP HSM
          go_wp2
          go_roundw
          case rel => exact HNX.out
          case measure => have := HKN.out; simp [intOf]; omega
        | true =>
          have HR2 : Hid (Row g tl L V2) := HR.out.keep HB2.out
          have hnn := HN.out
          have hkn := HKN.out
          obtain ⟨r, hr⟩ : ∃ r, n - k = r := ⟨_, rfl⟩
          have c0 : (k : Int) ≤ n := by omega
          have c1 : (k : Int) ≤ cap := by omega
          have c2 : (n : Int) ≤ cap := by omega
          have c3 : ¬ cap = k := by omega
          have c4 : ¬ cap - k = 0 := by omega
          have c5 : n - k = r := hr
          have HI0 : Hid (∀ x y : Nat, x = k → y = 1 → CqRel L k g tl w (.int .i64 (x : Int)) (.int .i64 (y : Int)) V2) := fun x y hx hy => by
            refine ⟨L, x, y, rfl, rfl, by omega, by omega, by omega, rfl, ?_, rfl, HR2.out, two_below HB2.out⟩
            rw [hx, hy, HSU.out, if_pos (of_decide_eq_true HD.out), List.append_nil, HCP.out]
          clear HKP HSM hnn hkn hr
          have HKK := Lib.hid c5
          go_upto_region 9 with fail
          clear c0 c1 c2 c3 c4 c5 wk wm l0 l1 b0 b1 b2 b3
          go_loopw [5, 7] (fun i j W => CqRel L k g tl w i j W) (fun i j _ => (r + 1) - (intOf j).toNat)
          case atStart => exact HI0.out k 1 rfl rfl
          case round =>
            rename World => V
            clear HI0
            obtain ⟨K, kk, k2, rfl, rfl, h1, h2, h3, hKl, hKt, hKd, hrow, htw⟩ := hrel
            have HROW := Lib.hid hrow
            have HTW := Lib.hid htw
            have HKT := Lib.hid hKt
            have HKD := Lib.hid hKd
            clear hrow htw hKt hKd
            have hnn := HN.out
            have hkr := HKK.out
            have hkn := HKN.out
            by_cases hl2 : k2 < r
            · have t2 : decide ((k2 : Int) < (r : Int)) = true := decide_eq_true (by omega)
              have t2n : decide (k2 < r) = true := decide_eq_true hl2
              obtain ⟨m2, hm2⟩ : ∃ m2, k2 - 1 = m2 := ⟨_, rfl⟩
              have wm2 : IntKind.i64.wrap ((k2 : Int) - 1) = (m2 : Int) := by rw [show (k2 : Int) - 1 = (m2 : Int) by omega]; exact IntWalk.i64_in _ (by omega)
              obtain ⟨x, hx⟩ : ∃ x, L[k + k2]? = some x := ⟨_, List.getElem?_eq_getElem (by omega)⟩
              obtain ⟨y, hy⟩ : ∃ y, L[k + m2]? = some y := ⟨_, List.getElem?_eq_getElem (by omega)⟩
              have hKx : K[k + k2]? = some x := by
                have h : (K.drop (k + k2 - 1))[1]? = (L.drop (k + k2 - 1))[1]? := by rw [HKD.out]
                rw [List.getElem?_drop, List.getElem?_drop, show k + k2 - 1 + 1 = k + k2 by omega, hx] at h
                exact h
              have hKy : K[k + m2]? = some y := by
                have h : (K.drop (k + k2 - 1))[0]? = (L.drop (k + k2 - 1))[0]? := by rw [HKD.out]
                rw [List.getElem?_drop, List.getElem?_drop, show k + k2 - 1 + 0 = k + m2 by omega, hy] at h
                exact h
              have hsu := compL_succ (L := L) (i := k + k2) (by omega) hx (by rw [show k + k2 - 1 = k + m2 by omega]; exact hy)
              have HBD : Hid (Two g none w V.drew) := HTW.out.trans (two_drew g V)
              have hrd : Row g tl K V.drew := HROW.out
              have l0 := hrd.load hKx
              have l1 := hrd.load hKy
              rw [Nat.add_mul] at l0 l1
              have b0 : (0 : Int) ≤ k2 := by omega
              have b1 : (k2 : Int) < r := by omega
              have b2 : (0 : Int) ≤ m2 := by omega
              have b3 : (m2 : Int) < r := by omega
              have b4 : (0 : Int) ≤ kk := by omega
              have b5 : (kk : Int) < n := by omega
              have HSX : Hid (∀ W, Calls Try.prog 83 #[.agg #[.int .i64 x.s, .int .i64 x.p, .int .i64 x.a], .agg #[.int .i64 y.s, .int .i64 y.p, .int .i64 y.a]] W fun e w' => e = .returned (.bool (decide (same x y))) ∧ Below W.heap.size W w') := fun W => same_any x y W
              have wk2 : IntKind.i64.wrap ((k2 : Int) + 1) = ((k2 + 1 : Nat) : Int) := by rw [Int.natCast_add]; exact IntWalk.i64_in _ (by omega)
              have wkk : IntKind.i64.wrap ((kk : Int) + 1) = ((kk + 1 : Nat) : Int) := by rw [Int.natCast_add]; exact IntWalk.i64_in _ (by omega)
              obtain ⟨d2, hd2⟩ : ∃ d2, decide (same x y) = d2 := ⟨_, rfl⟩
              rw [hd2] at HSX
              have HD2 := Lib.hid hd2
              have HSU2 := Lib.hid hsu
              have HXY : Hid (K[k + k2]? = some x ∧ K[k + m2]? = some y) := ⟨hKx, hKy⟩
              have HNS : Hid (1 ≤ k2 ∧ k + k2 < n ∧ kk < k + k2 ∧ K.length = n ∧ L.length = n ∧ k2 < r) := by show _ ∧ _; omega
              have HRD := Lib.hid hrd
              clear hx hy hKx hKy hsu hrd hd2 hm2 hnn hkr hkn h1 h2 h3 hKl hl2
              go_wp2_with fail
              go_region_held3 (fun wx => Sem.run Try.prog (loadVar 84 ⟨g, k * 3 + k2 * 3, none⟩) wx = .ok (.agg #[.int .i64 x.s, .int .i64 x.p, .int .i64 x.a]) wx ∧ Sem.run Try.prog (loadVar 84 ⟨g, k * 3 + m2 * 3, none⟩) wx = .ok (.agg #[.int .i64 y.s, .int .i64 y.p, .int .i64 y.a]) wx)
                (first | exact HKP.out | (refine ⟨?_, ?_⟩ <;> assumption) | (go_keep; done))
                (first
                  | (go_at_call 83; refine (HSX.out _).mono ?_; rintro e V3 ⟨rfl, hb⟩; have hr3 : Row g tl K V3 := HRD.out.keep hb; have HR3 := Lib.hid hr3; have HT3 := Lib.hid (HBD.out.trans (two_below hb)); have g0 := hr3.load HXY.out.1; have g1 := hr3.load HXY.out.2; rw [Nat.add_mul] at g0 g1; have HKP : Hid (Sem.run Try.prog (loadVar 84 ⟨g, k * 3 + k2 * 3, none⟩) V3 = .ok (.agg #[.int .i64 x.s, .int .i64 x.p, .int .i64 x.a]) V3 ∧ Sem.run Try.prog (loadVar 84 ⟨g, k * 3 + m2 * 3, none⟩) V3 = .ok (.agg #[.int .i64 y.s, .int .i64 y.p, .int .i64 y.a]) V3) := ⟨g0, g1⟩; clear hb hr3 g0 g1))
              cases d2 with
              | true =>
                have HNX : Hid (CqRel L k g tl w (.int .i64 (kk : Int)) (.int .i64 ((k2 + 1 : Nat) : Int)) V3) := by
                  have h := HNS.out
                  refine ⟨K, kk, k2 + 1, rfl, rfl, by omega, by omega, by omega, by omega, ?_, ?_, HR3.out, HT3.out⟩
                  · rw [show k + (k2 + 1) = k + k2 + 1 by omega, HSU2.out, if_pos (of_decide_eq_true HD2.out), List.append_nil]; exact HKT.out
                  · have hd := HKD.out
                    have e1 : K.drop (k + (k2 + 1) - 1) = (K.drop (k + k2 - 1)).drop 1 := by rw [List.drop_drop]; congr 1; omega
                    have e2 : L.drop (k + (k2 + 1) - 1) = (L.drop (k + k2 - 1)).drop 1 := by rw [List.drop_drop]; congr 1; omega
                    rw [e1, e2, hd]
                clear HKP HSX HRD HBD
                go_wp2
                go_roundw
                case rel => exact HNX.out
                case measure => have := HNS.out; simp [intOf]; omega
              | false =>
                have hns := HNS.out
                have hr3 : Row g tl K V3 := HR3.out
                have q0 := hr3.load HXY.out.1
                rw [Nat.add_mul] at q0
                have s0 := hr3.store (i := kk) (by omega) x
                have hr4 : Row g tl (K.set kk x) (V3.setRow g (flatA (K.set kk x) ++ tl).toArray) := hr3.set _
                have HNX : Hid (CqRel L k g tl w (.int .i64 ((kk + 1 : Nat) : Int)) (.int .i64 ((k2 + 1 : Nat) : Int)) (V3.setRow g (flatA (K.set kk x) ++ tl).toArray)) := by
                  refine ⟨K.set kk x, kk + 1, k2 + 1, rfl, rfl, by omega, by omega, by omega, by rw [List.length_set]; omega, ?_, ?_, hr4, HT3.out.trans (two_row g _ _)⟩
                  · rw [show k + (k2 + 1) = k + k2 + 1 by omega, HSU2.out, if_neg (of_decide_eq_false HD2.out), ← HKT.out, List.take_add_one, List.getElem?_set, if_pos rfl, if_pos (by omega), List.take_set_of_le (Nat.le_refl _)]; rfl
                  · have hd := HKD.out
                    have e1 : (K.set kk x).drop (k + (k2 + 1) - 1) = K.drop (k + (k2 + 1) - 1) := List.drop_set_of_lt (by omega)
                    have e3 : K.drop (k + (k2 + 1) - 1) = (K.drop (k + k2 - 1)).drop 1 := by rw [List.drop_drop]; congr 1; omega
                    have e2 : L.drop (k + (k2 + 1) - 1) = (L.drop (k + k2 - 1)).drop 1 := by rw [List.drop_drop]; congr 1; omega
                    rw [e1, e3, e2, hd]
                clear hns hr3 hr4 HKP HSX HRD HBD l0 l1
                go_wp2
                go_roundw
                case rel => exact HNX.out
                case measure => have := HNS.out; simp [intOf]; omega
            · have t2 : decide ((k2 : Int) < (r : Int)) = false := decide_eq_false (by omega)
              have t2n : decide (k2 < r) = false := decide_eq_false hl2
              have hee : k + k2 = n := by omega
              have hct : K.take kk = compL L := by rw [HKT.out, hee, List.take_of_length_le (by omega)]
              have hcl2 : (compL L).length = kk := by rw [← hct, List.length_take]; omega
              have hfit : kk * 3 + (n - kk) * 3 ≤ (flatA K ++ tl).toArray.size := by rw [List.size_toArray, List.length_append, flatA_len]; omega
              obtain ⟨zs, hz, hcr⟩ := HCL.out V kk (n - kk) (cap - kk) _ (by omega) HROW.out hfit
              have HF : Hid ((∃ tl', Row g tl' (compL L) (V.setRow g (splice (flatA K ++ tl).toArray.toList (kk * 3) zs).toArray)) ∧ Two g none w (V.setRow g (splice (flatA K ++ tl).toArray.toList (kk * 3) zs).toArray)) := by
                refine ⟨⟨zs ++ (flatA K ++ tl).drop (kk * 3 + zs.length), ?_⟩, HTW.out.trans (two_row g _ _)⟩
                have hh := setRow_heap V g _ (splice (flatA K ++ tl).toArray.toList (kk * 3) zs).toArray 84 (0, 0) HROW.out
                show _ = _
                rw [hh, ← hct, ← flatA_take]
                unfold splice
                rw [List.take_append_of_le_length (by rw [flatA_len]; omega)]
                try simp
              have c0 : (kk : Int) ≤ n := by omega
              have c1 : (kk : Int) ≤ cap := by omega
              have c2 : (n : Int) ≤ cap := by omega
              have c3 : ¬ cap = kk := by omega
              have c4 : ¬ cap - kk = 0 := by omega
              have c6 : (0 : Int) ≤ kk := by omega
              have HLK : Hid ((compL L).length = kk) := hcl2
              clear hee hct hcl2 hfit hz hnn hkr hkn h1 h2 h3 hKl hl2 HROW HTW HKT HKD
              go_wp2
              go_ret
              rw [HLK.out]
              exact ⟨rfl, HF.out⟩
      · obtain rfl : k = n := by omega
        have t1 : decide ((k : Int) < (k : Int)) = false := decide_eq_false (by omega)
        have HE : Hid (compL L = L) := by have h := HCP.out; rw [List.take_of_length_le (by omega)] at h; exact h
        have HF : Hid ((∃ tl', Row g tl' L W) ∧ Two g none w W) := ⟨⟨tl, HR.out.keep HBW.out⟩, two_below HBW.out⟩
        have HLE : Hid (L.length = k) := hnn.1
        clear hnn hlt hk1 hkn
        go_wp2
        go_ret
        rw [HE.out, HLE.out]
        exact ⟨rfl, HF.out⟩
end

end Go.Proofs.Ytjdgpbjjhgfikaa.Srt

namespace Go.Proofs.Ytjdgpbjjhgfikaa.Srt

set_option linter.unusedVariables false

set_option linter.unusedSimpArgs false

/-- Of each schedule and partition the first alone, in order. -/
def Fst (L C : List A3) : Prop := C.Pairwise lt ∧ ∀ s p, cls s p C = (cls s p L).take 1
theorem lt_irr {x y : A3} (h : lt x y) : ¬ same x y ∧ ¬ lt y x := by unfold lt same at *; omega
theorem cls_pos {s p : Int} {x : A3} {l : List A3} (h : x.s = s ∧ x.p = p) : cls s p (x :: l) = x :: cls s p l := by
  unfold cls; rw [List.filter_cons_of_pos]; simp [h.1, h.2]
theorem cls_neg {s p : Int} {x : A3} {l : List A3} (h : ¬ (x.s = s ∧ x.p = p)) : cls s p (x :: l) = cls s p l := by
  unfold cls; rw [List.filter_cons_of_neg]; simp; intro h1 h2; exact h ⟨h1, h2⟩
theorem rise_cls {C : List A3} (h : C.Pairwise lt) (s p : Int) : (cls s p C).length ≤ 1 := by
  induction C with
  | nil => simp [cls]
  | cons x C ih =>
    rw [List.pairwise_cons] at h
    by_cases hx : x.s = s ∧ x.p = p
    · rw [cls_pos hx]
      have : cls s p C = [] := by
        apply List.eq_nil_iff_forall_not_mem.2
        intro y hy
        obtain ⟨h1, h2, h3⟩ := mem_cls.1 hy
        have := h.1 y h1
        unfold lt at this
        omega
      rw [this]; simp
    · rw [cls_neg hx]; exact ih h.2
/-- Two rising rows with the same acts are one. -/
theorem rise_unique : ∀ (C D : List A3), C.Pairwise lt → D.Pairwise lt → (∀ x, x ∈ C ↔ x ∈ D) → C = D
  | [], [], _, _, _ => rfl
  | [], y :: D, _, _, h => by have := (h y).2 (by simp); simp at this
  | x :: C, [], _, _, h => by have := (h x).1 (by simp); simp at this
  | x :: C, y :: D, hc, hd, h => by
    rw [List.pairwise_cons] at hc hd
    have e : x = y := by
      have h1 := (h x).1 (by simp)
      have h2 := (h y).2 (by simp)
      rcases List.mem_cons.1 h1 with h1 | h1
      · exact h1
      rcases List.mem_cons.1 h2 with h2 | h2
      · exact h2.symm
      exact absurd (hc.1 y h2) (lt_irr (hd.1 x h1)).2
    subst e
    congr 1
    refine rise_unique C D hc.2 hd.2 fun z => ?_
    constructor
    · intro hz
      rcases List.mem_cons.1 ((h z).1 (by simp [hz])) with h1 | h1
      · subst h1; exact absurd (hc.1 z hz) (by unfold lt; omega)
      · exact h1
    · intro hz
      rcases List.mem_cons.1 ((h z).2 (by simp [hz])) with h1 | h1
      · subst h1; exact absurd (hd.1 z hz) (by unfold lt; omega)
      · exact h1
theorem mem_of_cls {L : List A3} {x : A3} : x ∈ L ↔ x ∈ cls x.s x.p L := by
  constructor
  · intro h; exact mem_cls.2 ⟨h, rfl, rfl⟩
  · intro h; exact (mem_cls.1 h).1
theorem Fst.unique {L C D : List A3} (h : Fst L C) (k : Fst L D) : C = D :=
  rise_unique C D h.1 k.1 fun x => by rw [mem_of_cls, h.2, ← k.2, ← mem_of_cls]
theorem Fst.forN {L C : List A3} (h : Fst L C) (s p : Int) : forN C s p = forN L s p := by
  unfold Srt.forN
  rw [h.2]
  cases cls s p L with
  | nil => rfl
  | cons x l => rfl
/-- What stands behind an act in a sorted row, without its likes: rising, and above it. -/
theorem cmpR_ok : ∀ (l : List A3) (q : A3), Srt (q :: l) → (q :: cmpR q l).Pairwise lt ∧ ∀ s p, cls s p (q :: cmpR q l) = (cls s p (q :: l)).take 1
  | [], q, h => by
    refine ⟨by simp [cmpR], fun s p => ?_⟩
    by_cases hq : q.s = s ∧ q.p = p
    · rw [show cmpR q [] = [] from rfl, cls_pos hq]; rfl
    · rw [show cmpR q [] = [] from rfl, cls_neg hq]; rfl
  | x :: l, q, h => by
    have hqx : le q x := (List.pairwise_cons.1 h).1 x (by simp)
    have hs : Srt (x :: l) := (List.pairwise_cons.1 h).2
    have hql : Srt (q :: l) := by
      rw [Srt, List.pairwise_cons] at h ⊢
      exact ⟨fun y hy => h.1 y (by simp [hy]), (List.pairwise_cons.1 h.2).2⟩
    by_cases hsm : same x q
    · have e : cmpR q (x :: l) = cmpR x l := by simp [cmpR, hsm]
      obtain ⟨i1, i2⟩ := cmpR_ok l x hs
      rw [e]
      have hk : ∀ (s p : Int), (x.s = s ∧ x.p = p) ↔ (q.s = s ∧ q.p = p) := by intro s p; unfold same at hsm; omega
      have hl : ∀ y, lt x y ↔ lt q y := by intro y; unfold same at hsm; unfold lt; omega
      refine ⟨?_, fun s p => ?_⟩
      · rw [List.pairwise_cons] at i1 ⊢
        exact ⟨fun y hy => (hl y).1 (i1.1 y hy), i1.2⟩
      · have hh := i2 s p
        by_cases hq : q.s = s ∧ q.p = p
        · rw [cls_pos ((hk s p).2 hq)] at hh
          rw [cls_pos ((hk s p).2 hq)] at hh
          rw [cls_pos hq, cls_pos hq]
          simp at hh
          simp [hh]
        · rw [cls_neg (fun h => hq ((hk s p).1 h)), cls_neg (fun h => hq ((hk s p).1 h))] at hh
          rw [cls_neg hq, cls_neg hq, cls_neg (fun h => hq ((hk s p).1 h))]
          exact hh
    · have e : cmpR q (x :: l) = x :: cmpR x l := by simp [cmpR, hsm]
      obtain ⟨i1, i2⟩ := cmpR_ok l x hs
      rw [e]
      have hlt : lt q x := by unfold le lt at hqx; unfold same at hsm; unfold lt; omega
      have hall : ∀ y ∈ x :: cmpR x l, lt q y := by
        intro y hy
        rcases List.mem_cons.1 hy with rfl | hy
        · exact hlt
        · have := (List.pairwise_cons.1 i1).1 y hy
          unfold lt at *; omega
      have hall2 : ∀ y ∈ x :: l, lt q y := by
        intro y hy
        rcases List.mem_cons.1 hy with rfl | hy
        · exact hlt
        · exact lt_le_trans hlt ((List.pairwise_cons.1 hs).1 y hy)
      refine ⟨List.pairwise_cons.2 ⟨hall, i1⟩, fun s p => ?_⟩
      by_cases hq : q.s = s ∧ q.p = p
      · have z : ∀ m : List A3, (∀ y ∈ m, lt q y) → cls s p m = [] := by
          intro m hm
          apply List.eq_nil_iff_forall_not_mem.2
          intro y hy
          obtain ⟨h1, h2, h3⟩ := mem_cls.1 hy
          have := hm y h1
          unfold lt at this; omega
        rw [cls_pos hq, cls_pos hq, z _ hall, z _ hall2]; rfl
      · rw [cls_neg hq, cls_neg hq]; exact i2 s p
theorem comp_fst {L M : List A3} (h : Stab L M) : Fst L (compL M) := by
  have hf : Fst M (compL M) := by
    cases M with
    | nil => exact ⟨by simp [compL], fun s p => by simp [compL, cls]⟩
    | cons x l => exact cmpR_ok l x h.1
  exact ⟨hf.1, fun s p => by rw [hf.2, h.2]⟩
/-- Where a rising row has an act of a schedule and partition, by its place. -/
theorem at_for {C : List A3} (hC : C.Pairwise lt) {t : A3} {i : Nat} (ha : AtP C t i) :
    (isAt C t i = true ∧ ∃ y, C[i]? = some y ∧ forN C t.s t.p = y.a) ∨ (isAt C t i = false ∧ forN C t.s t.p = 0) := by
  obtain ⟨h1, h2, h3⟩ := ha
  have hget : ∀ j y, C[j]? = some y → same y t → j = i := by
    intro j y hj hy
    have hjl := (List.getElem?_eq_some_iff.1 hj).1
    rcases Nat.lt_trichotomy j i with h | h | h
    · -- below i all are ahead of t
      obtain ⟨z, hz⟩ : ∃ z, C[i - 1]? = some z := ⟨_, List.getElem?_eq_getElem (by omega)⟩
      have hzt := h2 z (by omega) hz
      have hyz : y = z ∨ lt y z := by
        rcases Nat.lt_or_ge j (i - 1) with hlt | hge
        · right
          have := List.pairwise_iff_getElem.1 hC j (i - 1) hjl (by omega) hlt
          rw [List.getElem?_eq_getElem hjl] at hj
          rw [List.getElem?_eq_getElem (by omega)] at hz
          rw [← Option.some.inj hj, ← Option.some.inj hz]; exact this
        · left
          have : j = i - 1 := by omega
          subst this
          rw [hj] at hz; exact Option.some.inj hz
      exfalso
      rcases hyz with rfl | hyz
      · exact (lt_irr hzt).1 hy
      · unfold lt same at *; omega
    · exact h
    · obtain ⟨z, hz⟩ : ∃ z, C[i]? = some z := ⟨_, List.getElem?_eq_getElem (by omega)⟩
      have hzt := h3 z hz
      have hzy : lt z y := by
        have := List.pairwise_iff_getElem.1 hC i j (by omega) hjl h
        rw [List.getElem?_eq_getElem hjl] at hj
        rw [List.getElem?_eq_getElem (by omega)] at hz
        rw [← Option.some.inj hj, ← Option.some.inj hz]; exact this
      exfalso
      unfold lt same at *; omega
  cases hb : isAt C t i with
  | true =>
    left
    refine ⟨rfl, ?_⟩
    unfold isAt at hb
    cases hy : C[i]? with
    | none => rw [hy] at hb; simp at hb
    | some y =>
      rw [hy] at hb
      have hs : same y t := by simpa using hb
      refine ⟨y, rfl, ?_⟩
      have hm : y ∈ cls t.s t.p C := mem_cls.2 ⟨List.mem_of_getElem? hy, hs.1, hs.2⟩
      have hl := rise_cls hC t.s t.p
      unfold forN
      cases hc : cls t.s t.p C with
      | nil => rw [hc] at hm; simp at hm
      | cons z l =>
        rw [hc] at hm hl
        have : l = [] := List.eq_nil_of_length_eq_zero (by simp at hl; simp [hl])
        subst this
        simp at hm
        rw [hm]
  | false =>
    right
    refine ⟨rfl, ?_⟩
    unfold forN
    cases hc : cls t.s t.p C with
    | nil => rfl
    | cons z l =>
      exfalso
      have hz : z ∈ cls t.s t.p C := by rw [hc]; simp
      obtain ⟨z1, z2, z3⟩ := mem_cls.1 hz
      obtain ⟨j, hj⟩ := List.mem_iff_getElem?.1 z1
      have := hget j z hj ⟨z2, z3⟩
      subst this
      unfold isAt at hb
      rw [hj] at hb
      simp at hb
      exact hb ⟨z2, z3⟩
/-- The document's way: an act is put in where it belongs, unless one like it is there. -/
def insD (x : A3) : Bool → List A3 → List A3
  | d, [] => if d then [] else [x]
  | d, y :: l => (if d = false ∧ lt x y then [x] else []) ++ y :: insD x (d || decide (lt x y) || (!decide (lt x y) && !decide (lt y x))) l
theorem insD_done (x : A3) : ∀ l, insD x true l = l
  | [] => rfl
  | y :: l => by simp [insD, insD_done x l]
theorem insD_lt {x y : A3} {l : List A3} (h : lt x y) : insD x false (y :: l) = x :: y :: l := by
  simp [insD, h, insD_done]
theorem insD_same {x y : A3} {l : List A3} (h : same x y) : insD x false (y :: l) = y :: l := by
  have h1 : ¬ lt x y := by unfold same at h; unfold lt; omega
  have h2 : ¬ lt y x := by unfold same at h; unfold lt; omega
  simp [insD, h1, h2, insD_done]
theorem insD_gt {x y : A3} {l : List A3} (h : lt y x) : insD x false (y :: l) = y :: insD x false l := by
  have h1 : ¬ lt x y := (lt_irr h).2
  simp [insD, h1, h]
theorem tri (x y : A3) : lt x y ∨ same x y ∨ lt y x := by unfold lt same; omega
theorem insD_mem (x : A3) : ∀ (l : List A3) (y : A3), y ∈ insD x false l → y = x ∨ y ∈ l
  | [], y, h => by simp [insD] at h; exact .inl h
  | z :: l, y, h => by
    rcases tri x z with hz | hz | hz
    · rw [insD_lt hz] at h; rcases List.mem_cons.1 h with h | h
      · exact .inl h
      · exact .inr h
    · rw [insD_same hz] at h; exact .inr h
    · rw [insD_gt hz] at h
      rcases List.mem_cons.1 h with h | h
      · exact .inr (by simp [h])
      · rcases insD_mem x l y h with h | h
        · exact .inl h
        · exact .inr (by simp [h])
theorem insD_ok (x : A3) : ∀ (C : List A3), C.Pairwise lt → (insD x false C).Pairwise lt ∧ ∀ s p, cls s p (insD x false C) = (cls s p C ++ cls s p [x]).take 1
  | [], _ => by
    refine ⟨by simp [insD], fun s p => ?_⟩
    show cls s p [x] = (([] : List A3) ++ cls s p [x]).take 1
    by_cases hx : x.s = s ∧ x.p = p
    · rw [cls_pos hx]; rfl
    · rw [cls_neg hx]; rfl
  | y :: C, h => by
    have hc := List.pairwise_cons.1 h
    have hk : ∀ s p, (cls s p (y :: C)).length ≤ 1 := rise_cls h
    rcases tri x y with hz | hz | hz
    · rw [insD_lt hz]
      have hall : ∀ z ∈ y :: C, lt x z := by
        intro z hzm
        rcases List.mem_cons.1 hzm with rfl | hzm
        · exact hz
        · have := hc.1 z hzm; unfold lt at *; omega
      refine ⟨List.pairwise_cons.2 ⟨hall, h⟩, fun s p => ?_⟩
      by_cases hx : x.s = s ∧ x.p = p
      · have : cls s p (y :: C) = [] := by
          apply List.eq_nil_iff_forall_not_mem.2
          intro z hzm
          obtain ⟨h1, h2, h3⟩ := mem_cls.1 hzm
          have := hall z h1
          unfold lt at this; omega
        rw [cls_pos hx, this, cls_pos hx]; rfl
      · rw [cls_neg hx, cls_neg hx]
        rw [show cls s p [] = ([] : List A3) from rfl, List.append_nil, List.take_of_length_le (hk s p)]
    · rw [insD_same hz]
      refine ⟨h, fun s p => ?_⟩
      by_cases hx : y.s = s ∧ y.p = p
      · have := hk s p
        rw [cls_pos hx] at this ⊢
        have e : cls s p C = [] := List.eq_nil_of_length_eq_zero (by simp at this; simp [this])
        rw [e]; rfl
      · have hx' : ¬ (x.s = s ∧ x.p = p) := by unfold same at hz; omega
        rw [show cls s p [x] = cls s p [] from cls_neg hx', show cls s p [] = ([] : List A3) from rfl, List.append_nil, List.take_of_length_le (hk s p)]
    · rw [insD_gt hz]
      obtain ⟨i1, i2⟩ := insD_ok x C hc.2
      refine ⟨List.pairwise_cons.2 ⟨fun z hzm => ?_, i1⟩, fun s p => ?_⟩
      · rcases insD_mem x C z hzm with rfl | h1
        · exact hz
        · exact hc.1 z h1
      · by_cases hx : y.s = s ∧ y.p = p
        · have hlen := hk s p
          rw [cls_pos hx] at hlen ⊢
          rw [cls_pos hx, i2]
          have e : cls s p C = [] := List.eq_nil_of_length_eq_zero (by simp at hlen; simp [hlen])
          have hx' : ¬ (x.s = s ∧ x.p = p) := by unfold lt at hz; omega
          rw [e, show cls s p [x] = cls s p [] from cls_neg hx']; rfl
        · rw [cls_neg hx, cls_neg hx]; exact i2 s p
/-- The document's sorting. -/
def srtD (L : List A3) : List A3 := L.foldl (fun C x => insD x false C) []
theorem srtD_snoc (L : List A3) (x : A3) : srtD (L ++ [x]) = insD x false (srtD L) := by simp [srtD]
theorem take_one {a b : List A3} : ((a.take 1) ++ b).take 1 = (a ++ b).take 1 := by
  cases a with
  | nil => rfl
  | cons x a => simp
theorem srtD_fst (L : List A3) : ∀ k, k ≤ L.length → Fst (L.take k) (srtD (L.take k))
  | 0, _ => ⟨by simp [srtD], fun s p => by simp [srtD, cls]⟩
  | k + 1, hk => by
    obtain ⟨i1, i2⟩ := srtD_fst L k (by omega)
    have hx : L[k]? = some L[k] := List.getElem?_eq_getElem (by omega)
    have e : L.take (k + 1) = L.take k ++ [L[k]] := by rw [List.take_add_one, hx]; rfl
    rw [e, srtD_snoc]
    obtain ⟨j1, j2⟩ := insD_ok L[k] (srtD (L.take k)) i1
    exact ⟨j1, fun s p => by rw [j2, i2, cls_app, take_one]⟩
theorem srtD_eq {L M : List A3} (h : Stab L M) : compL M = srtD L := by
  have := srtD_fst L L.length (Nat.le_refl _)
  rw [List.take_length] at this
  exact (comp_fst h).unique this
theorem srtD_rise (L : List A3) (k : Nat) (hk : k ≤ L.length) : (srtD (L.take k)).Pairwise lt := (srtD_fst L k hk).1
theorem srtD_len (L : List A3) : (srtD L).length ≤ L.length := by
  have hi : ∀ (x : A3) (C : List A3), (insD x false C).length ≤ C.length + 1 := by
    intro x C
    induction C with
    | nil => simp [insD]
    | cons y C ih =>
      rcases tri x y with hz | hz | hz
      · rw [insD_lt hz]; simp
      · rw [insD_same hz]; simp
      · rw [insD_gt hz]; simp at ih ⊢; exact ih
  have : ∀ (l C : List A3), (l.foldl (fun C x => insD x false C) C).length ≤ C.length + l.length := by
    intro l
    induction l with
    | nil => intro C; simp
    | cons x l ih => intro C; have := ih (insD x false C); have := hi x C; simp at *; omega
  have := this L []
  simpa [srtD] using this
end Go.Proofs.Ytjdgpbjjhgfikaa.Srt
