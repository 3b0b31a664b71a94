
/- The document's Right of a schedule. No condition but that its rows are of a slice's length. -/

import Derived.Test.YtofcjkfaccdnjaaDoorActR

import Derived.Laws.AppendOwnNone

import Derived.Deep.CutRange

import Derived.BigQuiet

import Derived.Deep.RegionHeld3

import Derived.OwnWalk

namespace Go.Proofs.YtofcjkfaccdnjaaDoor.Scd

open Go.RowKit Go.PlainAid Go.Proofs.YtofcjkfaccdnjaaDoor.Oct Go.Proofs.YtofcjkfaccdnjaaDoor.Flt Go.Proofs.YtofcjkfaccdnjaaDoor.Rdr Go.Proofs.YtofcjkfaccdnjaaDoor.Act

set_option linter.unusedVariables false

set_option linter.unusedSimpArgs false

structure SC where
  id : Int
  fr : Int
  ws : List A3
  ns : List A3
def tkB (n least : Int) : Bool := decide (least ≤ n) && decide (n ≤ 1048576)
def rowB (x : A3) : Bool := idB x.s && tkB x.p 0 && tkB x.a 0
def rgS (x : SC) : Nat := if (idB x.id && tkB x.fr 1) = false then 18 else if decide (256 < (x.ws.length : Int)) = true then 8 else if (!x.ws.all rowB) = true then 18 else if decide (32 < (x.ns.length : Int)) = true then 8 else if (!x.ns.all rowB) = true then 18 else 0
def scC (x : SC) (B : Option Addr) (cb : Nat) (C : Option Addr) (cc : Nat) : Array Value := #[.int .i64 x.id, .int .i64 x.fr, .slice B x.ws.length cb, .slice C x.ns.length cc]
def inB (v a b : Int) : Bool := decide (a ≤ v) && decide (v ≤ b)
theorem within_any (v a b : Int) (w : World) : Calls Tryd.prog 46 #[.int .i64 v, .int .i64 a, .int .i64 b] w fun e w' => e = .returned (.bool (inB v a b)) ∧ w = w' := by
  unfold inB
  cases h1 : decide (a ≤ v)
  · go_enter Tryd.func46, Tryd.ntmps46
    go_wp2
    go_ret
    exact ⟨rfl, rfl⟩
  · cases h2 : decide (v ≤ b)
    all_goals
      go_enter Tryd.func46, Tryd.ntmps46
      go_wp2
      go_ret
      exact ⟨rfl, rfl⟩
def RRel (l : List A3) (w : World) (c0 : Array Value) (i : Value) (wr : World) : Prop := ∃ k : Nat, k ≤ l.length ∧ i = .int .i64 k ∧ (∀ j x, j < k → l[j]? = some x → rowB x = true) ∧ wr.heap[w.heap.size]? = some (.cells c0 37 (0, 0)) ∧ Below w.heap.size w wr
theorem all_yes {l : List A3} (h : ∀ j x, j < l.length → l[j]? = some x → rowB x = true) : l.all rowB = true := by
  rw [List.all_eq_true]
  intro y hy
  obtain ⟨i, hi, rfl⟩ := List.mem_iff_getElem.1 hy
  exact h i _ hi (List.getElem?_eq_getElem hi)
theorem all_no {l : List A3} {k : Nat} {x : A3} (hx : l[k]? = some x) (h : rowB x = false) : l.all rowB = false := by
  rw [List.all_eq_false]
  exact ⟨x, List.mem_of_getElem? hx, by rw [h]; simp⟩
set_option maxRecDepth 8000 in
set_option maxHeartbeats 6400000 in
theorem sright09_any (x : SC) (B : Option Addr) (cb : Nat) (C : Option Addr) (cc : Nat) (w : World) (hB : ActsAt w B x.ws) (hC : ActsAt w C x.ns) (hlb : x.ws.length ≤ maxLen) (hlc : x.ns.length ≤ maxLen) :
    Calls Tryd.prog 25 #[.agg (scC x B cb C cc)] w fun e w' => e = .returned (.int .i64 (rgS x)) ∧ Below w.heap.size w w' := by
  have HRG0 : Hid (rgS x = if (inB x.id 0 255 && inB x.fr 1 1048576) = false then 18 else if decide (256 < (x.ws.length : Int)) = true then 8 else if (!x.ws.all rowB) = true then 18 else if decide (32 < (x.ns.length : Int)) = true then 8 else if (!x.ns.all rowB) = true then 18 else 0) := rfl
  have HA1 := Lib.hid hB
  have HA2 := Lib.hid hC
  have I4 := Lib.hid (fun w => within_any x.id 0 255 w)
  have I5 := Lib.hid (fun w => within_any x.fr 1 1048576 w)
  unfold scC
  obtain ⟨rgv, hrgv⟩ : ∃ v, rgS x = v := ⟨_, rfl⟩
  rw [hrgv] at HRG0 ⊢
  obtain ⟨id, fr, ws, ns⟩ := x
  dsimp only at *
  obtain ⟨lw, hlw⟩ : ∃ n, ws.length = n := ⟨_, rfl⟩
  obtain ⟨ln, hln⟩ : ∃ n, ns.length = n := ⟨_, rfl⟩
  have HL1 := Lib.hid hlw
  have HL2 := Lib.hid hln
  rw [hlw] at HRG0 hlb ⊢
  rw [hln] at HRG0 hlc ⊢
  unfold maxLen at hlb hlc
  obtain ⟨b4, hb4⟩ : ∃ b, inB id 0 255 = b := ⟨_, rfl⟩
  obtain ⟨b5, hb5⟩ : ∃ b, inB fr 1 1048576 = b := ⟨_, rfl⟩
  rw [hb4] at I4 HRG0
  rw [hb5] at I5 HRG0
  have HB0 : Hid (∀ o, Below w.heap.size w (w.alloc o)) := fun o => (Below.refl _ _).alloc (Nat.le_refl _) o
  have HR1 := Lib.hid (heap_alloc_new w (.cells #[.int .i64 id, .int .i64 fr, .slice B lw cb, .slice C ln cc] 37))
  have HBL1 : Hid (Below w.heap.size w (w.alloc (.cells #[.int .i64 id, .int .i64 fr, .slice B lw cb, .slice C ln cc] 37))) := (Below.refl _ _).alloc (Nat.le_refl _) _
  clear hB hC hrgv hlw hln hb4 hb5
  cases b4 with
  | false =>
    have HG : Hid (rgv = 18) := by show _ = _; rw [HRG0.out]; rfl
    go_enter Tryd.func25, Tryd.ntmps25
    go_wp2_with (go_at_call 46; (with_reducible refine (I4.out _).mono ?_); rintro e w' ⟨rfl, rfl⟩)
    go_ret
    exact ⟨by rw [HG.out]; rfl, HB0.out _⟩
  | true =>
  cases b5 with
  | false =>
    have HG : Hid (rgv = 18) := by show _ = _; rw [HRG0.out]; rfl
    go_enter Tryd.func25, Tryd.ntmps25
    go_wp2_with (go_at_call 46; (with_reducible first | (refine (I4.out _).mono ?_) | (refine (I5.out _).mono ?_)); rintro e w' ⟨rfl, rfl⟩)
    go_ret
    exact ⟨by rw [HG.out]; rfl, HB0.out _⟩
  | true =>
  cases t3 : decide (256 < (lw : Int)) with
  | true =>
    have HG : Hid (rgv = 8) := by show _ = _; rw [HRG0.out, t3]; rfl
    go_enter Tryd.func25, Tryd.ntmps25
    go_wp2_with (go_at_call 46; (with_reducible first | (refine (I4.out _).mono ?_) | (refine (I5.out _).mono ?_)); rintro e w' ⟨rfl, rfl⟩)
    go_ret
    exact ⟨by rw [HG.out]; rfl, HB0.out _⟩
  | false =>
  have HRG : Hid (rgv = if (!ws.all rowB) = true then 18 else if decide (32 < (ln : Int)) = true then 8 else if (!ns.all rowB) = true then 18 else 0) := by show _ = _; rw [HRG0.out, t3]; rfl
  clear HRG0
  go_enter Tryd.func25, Tryd.ntmps25
  go_wp2_with (go_at_call 46; (with_reducible first | (refine (I4.out _).mono ?_) | (refine (I5.out _).mono ?_)); rintro e w' ⟨rfl, rfl⟩)
  go_loopw [3] (fun i wr => RRel ws w #[.int .i64 id, .int .i64 fr, .slice B lw cb, .slice C ln cc] i wr) (fun i _ => lw - (intOf i).toNat)
  case atStart => exact ⟨0, Nat.zero_le _, rfl, fun j x hj => by omega, HR1.out, HBL1.out⟩
  case round =>
    obtain ⟨k, hk, rfl, hall, hrow, hbel⟩ := hrel
    have HALL1 := Lib.hid hall
    have HE := Lib.hid hbel
    have HROW := Lib.hid hrow
    have hka : k ≤ lw := by rw [← HL1.out]; exact hk
    have q2 := cell_of_row wr _ 2 _ _ _ hrow
    have q3 := cell_of_row wr _ 3 _ _ _ hrow
    simp only [List.getElem?_toArray, List.getElem?_cons_zero, List.getElem?_cons_succ] at q2 q3
    clear hall hk hbel hrow HR1 HBL1
    by_cases hlt : k < lw
    · obtain ⟨x, hx⟩ : ∃ x, ws[k]? = some x := ⟨_, List.getElem?_eq_getElem (by rw [HL1.out]; exact hlt)⟩
      obtain ⟨ax, rfl, c1, c2, c3⟩ := (HA1.out.kept HE.out) k x hx
      have HX := Lib.hid hx
      have I1 := Lib.hid (fun w => within_any x.s 0 255 w)
      have I2 := Lib.hid (fun w => within_any x.p 0 1048576 w)
      have I3 := Lib.hid (fun w => within_any x.a 0 1048576 w)
      have HRB : Hid (rowB x = (inB x.s 0 255 && inB x.p 0 1048576 && inB x.a 0 1048576)) := rfl
      obtain ⟨b1, hb1⟩ : ∃ b, inB x.s 0 255 = b := ⟨_, rfl⟩
      obtain ⟨b2, hb2⟩ : ∃ b, inB x.p 0 1048576 = b := ⟨_, rfl⟩
      obtain ⟨b3, hb3⟩ : ∃ b, inB x.a 0 1048576 = b := ⟨_, rfl⟩
      rw [hb1] at I1 HRB
      rw [hb2] at I2 HRB
      rw [hb3] at I3 HRB
      have hki : (0 : Int) ≤ k := by omega
      have hkb : (k : Int) < lw := by omega
      have HB5 := Lib.hid (fun o => HE.out.alloc HE.out.size (o := o))
      have HR5 := Lib.hid (fun o => (heap_alloc_old wr o (lt_of_block HROW.out)).trans HROW.out)
      clear hx hb1 hb2 hb3
      cases b1 with
      | false =>
        have HNO := Lib.hid (all_no HX.out HRB.out)
        go_wp2_with (go_at_call 46; (with_reducible refine (I1.out _).mono ?_); rintro e w' ⟨rfl, rfl⟩)
        go_ret
        exact ⟨by rw [HRG.out, HNO.out]; rfl, HB5.out _⟩
      | true =>
      cases b2 with
      | false =>
        have HNO := Lib.hid (all_no HX.out HRB.out)
        go_wp2_with (go_at_call 46; (with_reducible first | (refine (I1.out _).mono ?_) | (refine (I2.out _).mono ?_)); rintro e w' ⟨rfl, rfl⟩)
        go_ret
        exact ⟨by rw [HRG.out, HNO.out]; rfl, HB5.out _⟩
      | true =>
      cases b3 with
      | false =>
        have HNO := Lib.hid (all_no HX.out HRB.out)
        go_wp2_with (go_at_call 46; (with_reducible first | (refine (I1.out _).mono ?_) | (refine (I2.out _).mono ?_) | (refine (I3.out _).mono ?_)); rintro e w' ⟨rfl, rfl⟩)
        go_ret
        exact ⟨by rw [HRG.out, HNO.out]; rfl, HB5.out _⟩
      | true =>
        go_wp2_with (go_at_call 46; (with_reducible first | (refine (I1.out _).mono ?_) | (refine (I2.out _).mono ?_) | (refine (I3.out _).mono ?_)); rintro e w' ⟨rfl, rfl⟩)
        go_roundw
        case rel => exact ⟨k + 1, by rw [HL1.out]; omega, by go_num, fun j y hj hy => by
          by_cases hjk : j = k
          · subst hjk
            rw [HX.out] at hy
            obtain rfl := Option.some.inj hy
            exact HRB.out
          · exact HALL1.out j y (by omega) hy, HR5.out _, HB5.out _⟩
        case measure => simp [intOf]; omega
    · have hkl : k = lw := by omega
      have HY1 := Lib.hid (all_yes (l := ws) fun j x hj hx => HALL1.out j x (by rw [hkl, ← HL1.out]; exact hj) hx)
      have tk1 : decide ((k : Int) < (lw : Int)) = false := decide_eq_false (by omega)
      have tkn1 : decide (k < lw) = false := decide_eq_false hlt
      clear hkl
      have HR2 := Lib.hid HROW.out
      have HBL2 := Lib.hid HE.out
      cases t4 : decide (32 < (ln : Int)) with
      | true =>
        have HG4 : Hid (rgv = 8) := by show _ = _; rw [HRG.out, HY1.out, t4]; rfl
        go_wp2
        go_ret
        exact ⟨by rw [HG4.out]; rfl, HE.out⟩
      | false =>
        have HT4 := Lib.hid t4
        go_wp2
        go_loopw [5] (fun i wr => RRel ns w #[.int .i64 id, .int .i64 fr, .slice B lw cb, .slice C ln cc] i wr) (fun i _ => ln - (intOf i).toNat)
        case atStart => exact ⟨0, Nat.zero_le _, rfl, fun j x hj => by omega, HR2.out, HBL2.out⟩
        case round =>
          obtain ⟨k, hk, rfl, hall, hrow, hbel⟩ := hrel
          have HALL2 := Lib.hid hall
          have HE := Lib.hid hbel
          have HROW := Lib.hid hrow
          have hka : k ≤ ln := by rw [← HL2.out]; exact hk
          have q2 := cell_of_row wr _ 2 _ _ _ hrow
          have q3 := cell_of_row wr _ 3 _ _ _ hrow
          simp only [List.getElem?_toArray, List.getElem?_cons_zero, List.getElem?_cons_succ] at q2 q3
          clear hall hk hbel hrow HR2 HBL2
          by_cases hlt : k < ln
          · obtain ⟨x, hx⟩ : ∃ x, ns[k]? = some x := ⟨_, List.getElem?_eq_getElem (by rw [HL2.out]; exact hlt)⟩
            obtain ⟨ax, rfl, c1, c2, c3⟩ := (HA2.out.kept HE.out) k x hx
            have HX := Lib.hid hx
            have I1 := Lib.hid (fun w => within_any x.s 0 255 w)
            have I2 := Lib.hid (fun w => within_any x.p 0 1048576 w)
            have I3 := Lib.hid (fun w => within_any x.a 0 1048576 w)
            have HRB : Hid (rowB x = (inB x.s 0 255 && inB x.p 0 1048576 && inB x.a 0 1048576)) := rfl
            obtain ⟨b1, hb1⟩ : ∃ b, inB x.s 0 255 = b := ⟨_, rfl⟩
            obtain ⟨b2, hb2⟩ : ∃ b, inB x.p 0 1048576 = b := ⟨_, rfl⟩
            obtain ⟨b3, hb3⟩ : ∃ b, inB x.a 0 1048576 = b := ⟨_, rfl⟩
            rw [hb1] at I1 HRB
            rw [hb2] at I2 HRB
            rw [hb3] at I3 HRB
            have hki : (0 : Int) ≤ k := by omega
            have hkb : (k : Int) < ln := by omega
            have HB5 := Lib.hid (fun o => HE.out.alloc HE.out.size (o := o))
            have HR5 := Lib.hid (fun o => (heap_alloc_old wr o (lt_of_block HROW.out)).trans HROW.out)
            clear hx hb1 hb2 hb3
            cases b1 with
            | false =>
              have HNO := Lib.hid (all_no HX.out HRB.out)
              go_wp2_with (go_at_call 46; (with_reducible refine (I1.out _).mono ?_); rintro e w' ⟨rfl, rfl⟩)
              go_ret
              exact ⟨by rw [HRG.out, HY1.out, HT4.out, HNO.out]; rfl, HB5.out _⟩
            | true =>
            cases b2 with
            | false =>
              have HNO := Lib.hid (all_no HX.out HRB.out)
              go_wp2_with (go_at_call 46; (with_reducible first | (refine (I1.out _).mono ?_) | (refine (I2.out _).mono ?_)); rintro e w' ⟨rfl, rfl⟩)
              go_ret
              exact ⟨by rw [HRG.out, HY1.out, HT4.out, HNO.out]; rfl, HB5.out _⟩
            | true =>
            cases b3 with
            | false =>
              have HNO := Lib.hid (all_no HX.out HRB.out)
              go_wp2_with (go_at_call 46; (with_reducible first | (refine (I1.out _).mono ?_) | (refine (I2.out _).mono ?_) | (refine (I3.out _).mono ?_)); rintro e w' ⟨rfl, rfl⟩)
              go_ret
              exact ⟨by rw [HRG.out, HY1.out, HT4.out, HNO.out]; rfl, HB5.out _⟩
            | true =>
              go_wp2_with (go_at_call 46; (with_reducible first | (refine (I1.out _).mono ?_) | (refine (I2.out _).mono ?_) | (refine (I3.out _).mono ?_)); rintro e w' ⟨rfl, rfl⟩)
              go_roundw
              case rel => exact ⟨k + 1, by rw [HL2.out]; omega, by go_num, fun j y hj hy => by
                by_cases hjk : j = k
                · subst hjk
                  rw [HX.out] at hy
                  obtain rfl := Option.some.inj hy
                  exact HRB.out
                · exact HALL2.out j y (by omega) hy, HR5.out _, HB5.out _⟩
              case measure => simp [intOf]; omega
          · have hkl : k = ln := by omega
            have HY2 := Lib.hid (all_yes (l := ns) fun j x hj hx => HALL2.out j x (by rw [hkl, ← HL2.out]; exact hj) hx)
            have tk2 : decide ((k : Int) < (ln : Int)) = false := decide_eq_false (by omega)
            have tkn2 : decide (k < ln) = false := decide_eq_false hlt
            clear hkl
            go_wp2
            go_ret
            exact ⟨by rw [HRG.out, HY1.out, HT4.out, HY2.out]; rfl, HE.out⟩
theorem rgS_in {x : SC} (h : rgS x = 0) : (0 ≤ x.id ∧ x.id ≤ 255) ∧ (1 ≤ x.fr ∧ x.fr ≤ 1048576) ∧ x.ws.length ≤ 256 ∧ (∀ y ∈ x.ws, rowB y = true) ∧ x.ns.length ≤ 32 ∧ (∀ y ∈ x.ns, rowB y = true) := by
  unfold rgS at h
  split at h
  · cases h
  · rename_i h1
    split at h
    · cases h
    · rename_i h2
      split at h
      · cases h
      · rename_i h3
        split at h
        · cases h
        · rename_i h4
          split at h
          · cases h
          · rename_i h5
            simp only [Bool.not_eq_true', Bool.not_eq_false, Bool.not_eq_true] at h3 h5
            simp [idB, tkB] at h1 h2 h4
            refine ⟨by omega, by omega, by omega, ?_, by omega, ?_⟩
            · exact List.all_eq_true.1 h3
            · exact List.all_eq_true.1 h5
end Go.Proofs.YtofcjkfaccdnjaaDoor.Scd
