
/- Cells of a partition: whether they are as at first, whether two have the same numbers, copies. Condition: at most a thousand cells. -/

import Derived.Test.YtnmcmeifbnpdaaaCelD

namespace Go.Proofs.Ytnmcmeifbnpdaaa.Cel

open Go.RowKit Go.PlainAid Go.Proofs.Ytnmcmeifbnpdaaa.Args

set_option linter.unusedVariables false

set_option linter.unusedSimpArgs false

theorem fresh1_any (v : Nat) (k : Bool) (u : Nat) (w : World) :
    Calls Try.prog 42 #[.agg #[.int .u32 (v : Int), .bool k], .int .u32 (u : Int)] w fun e w' => e = .returned (.bool ((v : Int) == (u : Int))) ∧ Below w.heap.size w w' := by
  go_enter Try.func42, Try.ntmps42
  go_wp2
  go_ret
  exact ⟨rfl, (Below.refl _ _).alloc (Nat.le_refl _) _⟩
/-- The first k are as at first. -/
def FreshTo (fs : List C2) (ns : List Nat) (k : Nat) : Prop := ∀ j x v, j < k → fs[j]? = some x → ns[j]? = some v → x.v = v
theorem fresh_all {fs : List C2} {ns : List Nat} {n : Nat} (h1 : fs.length = n) (h2 : ns.length = n) (h : FreshTo fs ns n) : ns = fs.map C2.v := by
  apply List.ext_getElem?
  intro j
  rw [List.getElem?_map]
  rcases Nat.lt_or_ge j n with hj | hj
  · have e1 : fs[j]? = some fs[j] := List.getElem?_eq_getElem (by omega)
    have e2 : ns[j]? = some ns[j] := List.getElem?_eq_getElem (by omega)
    rw [e2, e1]
    exact congrArg some (h j _ _ hj e1 e2).symm
  · rw [List.getElem?_eq_none (by omega), List.getElem?_eq_none (by omega)]; rfl
theorem fresh_no {fs : List C2} {ns : List Nat} {k : Nat} {x : C2} {v : Nat} (h1 : fs[k]? = some x) (h2 : ns[k]? = some v) (h : x.v ≠ v) : ns ≠ fs.map C2.v := fun e => by
  have h3 : (fs.map C2.v)[k]? = some x.v := by rw [List.getElem?_map, h1]; rfl
  rw [← e, h2] at h3
  exact h (Option.some.inj h3).symm
set_option maxRecDepth 4000 in
set_option maxHeartbeats 1600000 in
theorem equalF_any (FA A : Option Addr) (fc c n : Nat) (fs : List C2) (ns : List Nat) (w : World) (h1 : CellsAt w FA fs) (h2 : NumsAt w A ns) (hf : fs.length = n) (hn : ns.length = n) (hl : n ≤ 1000) :
    Calls Try.prog 41 #[.slice FA n fc, .slice A n c, .func (.func 42) #[] #[]] w fun e w' => e = .returned (.bool (decide (ns = fs.map C2.v))) ∧ Below w.heap.size w w' := by
  obtain ⟨b, hb⟩ : ∃ b, decide (ns = fs.map C2.v) = b := ⟨_, rfl⟩
  rw [hb]
  have HB := Lib.hid hb
  have H1 := Lib.hid h1
  have H2 := Lib.hid h2
  have HF := Lib.hid hf
  have HN := Lib.hid hn
  have HL : Hid (n ≤ 1000) := hl
  clear hb h1 h2 hf hn hl
  go_enter Try.func41, Try.ntmps41
  go_wp2_with fail
  go_loopw [17] (fun i wr => ∃ k : Nat, k ≤ n ∧ i = .int .i64 (k : Int) ∧ FreshTo fs ns k ∧ Below w.heap.size w wr) (fun i _ => n - (intOf i).toNat)
  case atStart => exact ⟨0, Nat.zero_le _, rfl, fun j x v hj => by omega, Below.refl _ _⟩
  case round =>
    obtain ⟨k, hk, rfl, hfr, hbw⟩ := hrel
    have HFR := Lib.hid hfr
    have HBW := Lib.hid hbw
    clear hfr hbw
    by_cases hlt : k < n
    · obtain ⟨x, hx⟩ : ∃ x, fs[k]? = some x := ⟨_, List.getElem?_eq_getElem (by rw [HF.out]; exact hlt)⟩
      obtain ⟨u, hu⟩ : ∃ u, ns[k]? = some u := ⟨_, List.getElem?_eq_getElem (by rw [HN.out]; exact hlt)⟩
      obtain ⟨y, rfl, e1, e2⟩ := (H1.out.kept HBW.out) k x hx
      have hb5 : Below wr.heap.size wr (wr.alloc (.cells #[.int .u32 (x.v : Int), .bool x.kept] 51)) := (Below.refl _ _).alloc (Nat.le_refl _) _
      obtain ⟨z, rfl, e3⟩ := (H2.out.kept (HBW.out.trans (hb5.mono HBW.out.size))) k u hu
      have HB5 := Lib.hid (HBW.out.trans (hb5.mono HBW.out.size))
      have hx5 := heap_alloc_new wr (.cells #[.int .u32 (x.v : Int), .bool x.kept] 51)
      have HX := Lib.hid hx
      have HU := Lib.hid hu
      have HLT := Lib.hid hlt
      have hkb : (k : Int) < n := by omega
      have hki : (0 : Int) ≤ k := by omega
      have hnn := HL.out
      have hk1 : IntKind.i64.wrap ((k : Int) + 1) = (k : Int) + 1 := IntWalk.i64_in _ (by omega)
      obtain ⟨xv, xk⟩ := x
      dsimp only at e1 e2 e3 HB5 hx5
      clear hx hu hlt hk hnn hb5
      go_upto_region 6 with fail
      obtain ⟨W, hW⟩ : ∃ W, wr.alloc (.cells #[.int .u32 (xv : Int), .bool xk] 51) = W := ⟨_, rfl⟩
      obtain ⟨X, hX⟩ : ∃ X, wr.heap.size = X := ⟨_, rfl⟩
      rw [hW] at hx5 HB5 e3
      rw [hX] at hx5
      rw [hW, hX]
      have x0 := cell_of_row _ _ 0 _ _ _ hx5
      have x1 := cell_of_row _ _ 1 _ _ _ hx5
      simp only [List.getElem?_toArray, List.getElem?_cons_zero, List.getElem?_cons_succ] at x0 x1
      clear hx5 hW hX e1 e2
      go_wp2_with fail
      refine (fresh1_any xv xk u _).mono ?_
      rintro e w6 ⟨rfl, hb6⟩
      have HB6 := Lib.hid (HB5.out.trans (hb6.mono HB5.out.size))
      clear hb6 x0 x1
      by_cases hq : xv = u
      · have tb : ((xv : Int) == (u : Int)) = true := by simp [hq]
        have HQ := Lib.hid hq
        clear hq
        go_wp2
        go_roundw
        case rel =>
          refine ⟨k + 1, by have := HLT.out; omega, by go_num, fun j x v hj h3 h4 => ?_, HB6.out⟩
          rcases (show j < k ∨ j = k by omega) with h5 | rfl
          · exact HFR.out j x v h5 h3 h4
          · rw [HX.out] at h3
            rw [HU.out] at h4
            obtain rfl := Option.some.inj h3
            obtain rfl := Option.some.inj h4
            exact HQ.out
        case measure => have := HLT.out; simp [intOf]; omega
      · have tb : ((xv : Int) == (u : Int)) = false := by simp; omega
        have HQ : Hid (xv ≠ u) := hq
        clear hq
        have hbf : b = false := by
          rw [← HB.out]
          exact decide_eq_false (fresh_no HX.out HU.out HQ.out)
        subst hbf
        go_wp2
        go_ret
        exact ⟨rfl, HB6.out⟩
    · obtain rfl : k = n := by omega
      have hbt : b = true := by
        rw [← HB.out]
        exact decide_eq_true (fresh_all HF.out HN.out HFR.out)
      subst hbt
      clear hk hlt
      go_wp2
      go_ret
      exact ⟨rfl, HBW.out⟩
section

variable {B : Nat} {FA : Option Addr} {fc : Nat} {fs : List C2} {A : Option Addr} {c : Nat} {ns : List Nat} {n : Nat} {wn : Int}

theorem fresh_any (g : Nat) (w : World) (h : IsC w B g FA fc fs A c ns n wn) (hn : n ≤ 1000) :
    Calls Try.prog 27 #[.pointer (some ⟨g, 0, none⟩)] w fun e w' => e = .returned (.bool (decide (ns = fs.map C2.v))) ∧ Below w.heap.size w w' := by
  obtain ⟨c0, c1, c2⟩ := h.cells
  have HE := Lib.hid (equalF_any FA A fc c n fs ns w.drew h.cellsAt h.numsAt h.flen h.nlen hn)
  obtain ⟨b, hb⟩ : ∃ b, decide (ns = fs.map C2.v) = b := ⟨_, rfl⟩
  rw [hb] at HE
  rw [hb]
  clear h hn hb
  go_enter Try.func27, Try.ntmps27
  go_wp2_with fail
  go_region_held3 (fun wx => wx.cell? ⟨g, 0, none⟩ = some (.slice FA n fc) ∧ wx.cell? ⟨g, 1, none⟩ = some (.slice A n c))
    (first | (refine ⟨?_, ?_⟩ <;> assumption) | (go_keep; done))
    (first
      | (go_at_call 41; refine HE.out.mono ?_; rintro e w3 ⟨rfl, hb⟩; have HB : Hid (Below w.heap.size w w3) := (below_drew (Below.refl _ _)).trans hb; have d0 := (hb.cell (p := ⟨g, 0, none⟩) (Go.block_lt_of_cell c0)).trans c0; have d1 := (hb.cell (p := ⟨g, 1, none⟩) (Go.block_lt_of_cell c1)).trans c1; clear hb))
  all_goals
    go_wp2
    go_ret
    exact ⟨rfl, HB.out⟩
end

end Go.Proofs.Ytnmcmeifbnpdaaa.Cel
