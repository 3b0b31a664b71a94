
/- What schedules' numbers may be, as the program tells it. Condition: their numbers are of 64 bits. What is wrong first with schedules, as both sides tell it. Condition: the variables hold what the program lays there; at most 1,000 schedules, their numbers of 64 bits. The bytes of schedules' numbers and rows, as the program makes them. Condition: the numbers are right. What package scheds' Put lays behind bytes. Condition: the variables hold what the program lays there; at most 1,000 schedules, at most 2 to the power 30 bytes come in. The document's Same of schedules says yes of a row and its like. No condition. The document's bytes of schedules. Condition: they are right, at most 1,000. -/

import Derived.Test.YtbcjkongcnpdlaaDoorPrtD

import Derived.Test.YtbcjkongcnpdlaaDoorPrtF

import Derived.Test.YtbcjkongcnpdlaaDoorRdrR

import Derived.Test.YtbcjkongcnpdlaaDoorPrtI

import Derived.Laws.AppendOwnNone

import Derived.Deep.CutRange

import Derived.BigQuiet

import Derived.Deep.RegionHeld3

namespace Go.Proofs.YtbcjkongcnpdlaaDoor.Scd

open Go.RowKit Go.PlainAid Go.Proofs.YtbcjkongcnpdlaaDoor.Oct Go.Proofs.YtbcjkongcnpdlaaDoor.Flt Go.Proofs.YtbcjkongcnpdlaaDoor.Rdr Go.Proofs.YtbcjkongcnpdlaaDoor.Act

set_option linter.unusedVariables false

set_option linter.unusedSimpArgs false

/-- A schedule: its number, its frame, its windows, its needs. -/
structure SC where
  id : Int
  fr : Int
  ws : List A3
  ns : List A3
def tkB (n least : Int) : Bool := decide (least ≤ n) && decide (n ≤ 1048576)
def rowB (x : A3) : Bool := idB x.s && tkB x.p 0 && tkB x.a 0
def rgS (x : SC) : Nat := if (idB x.id && tkB x.fr 1) = false then 18 else if decide (256 < (x.ws.length : Int)) = true then 8 else if (!x.ws.all rowB) = true then 18 else if decide (32 < (x.ns.length : Int)) = true then 8 else if (!x.ns.all rowB) = true then 18 else 0
theorem isId_any (n : Int) (hn : I64 n) (w : World) : Calls Tryd.prog 42 #[.int .i64 n] w fun e w' => e = .returned (.bool (idB n)) ∧ w = w' := by
  have HF := Lib.hid (fun w => Hdr.fits_first hn w)
  unfold idB
  obtain ⟨b, hb⟩ : ∃ b, (decide (0 ≤ n) && decide (n ≤ 255)) = b := ⟨_, rfl⟩
  rw [hb] at HF ⊢
  clear hb hn
  go_enter Tryd.func42, Tryd.ntmps42
  go_wp2_with (go_at_call 69; refine (HF.out _).mono ?_; rintro e w' ⟨rfl, rfl⟩)
  go_ret
  exact ⟨rfl, rfl⟩
theorem isTicks_any (n least : Int) (w : World) : Calls Tryd.prog 43 #[.int .i64 n, .int .i64 least] w fun e w' => e = .returned (.bool (tkB n least)) ∧ w = w' := by
  unfold tkB
  cases h1 : decide (least ≤ n)
  · go_enter Tryd.func43, Tryd.ntmps43
    go_wp2
    go_ret
    exact ⟨rfl, rfl⟩
  · cases h2 : decide (n ≤ 1048576)
    all_goals
      go_enter Tryd.func43, Tryd.ntmps43
      go_wp2
      go_ret
      exact ⟨rfl, rfl⟩
theorem isRow_any (x : A3) (h1 : I64 x.s) (w : World) : Calls Tryd.prog 46 #[.int .i64 x.s, .int .i64 x.p, .int .i64 x.a] w fun e w' => e = .returned (.bool (rowB x)) ∧ w = w' := by
  have HI := Lib.hid (fun w => isId_any x.s h1 w)
  have HP := Lib.hid (fun w => isTicks_any x.p 0 w)
  have HA := Lib.hid (fun w => isTicks_any x.a 0 w)
  unfold rowB
  clear h1
  cases b1 : idB x.s
  · rw [b1] at HI
    clear b1
    go_enter Tryd.func46, Tryd.ntmps46
    go_wp2_with (go_at_call 42; refine (HI.out _).mono ?_; rintro e w' ⟨rfl, rfl⟩)
    go_ret
    exact ⟨rfl, rfl⟩
  · rw [b1] at HI
    clear b1
    cases b2 : tkB x.p 0
    · rw [b2] at HP
      clear b2
      go_enter Tryd.func46, Tryd.ntmps46
      go_wp2_with (first
        | (go_at_call 42; refine (HI.out _).mono ?_; rintro e w' ⟨rfl, rfl⟩)
        | (go_at_call 43; (with_reducible refine (HP.out _).mono ?_); rintro e w' ⟨rfl, rfl⟩))
      go_ret
      exact ⟨rfl, rfl⟩
    · rw [b2] at HP
      clear b2
      obtain ⟨b3, hb3⟩ : ∃ b, tkB x.a 0 = b := ⟨_, rfl⟩
      rw [hb3] at HA ⊢
      clear hb3
      go_enter Tryd.func46, Tryd.ntmps46
      go_wp2_with (first
        | (go_at_call 42; refine (HI.out _).mono ?_; rintro e w' ⟨rfl, rfl⟩)
        | (go_at_call 43; (with_reducible first | (refine (HP.out _).mono ?_) | (refine (HA.out _).mono ?_)); rintro e w' ⟨rfl, rfl⟩))
      go_ret
      exact ⟨rfl, rfl⟩
theorem predW_any (x : A3) (h1 : I64 x.s) (w : World) :
    Calls Tryd.prog 45 #[.agg #[.int .i64 x.s, .int .i64 x.p, .int .i64 x.a]] w fun e w' => e = .returned (.bool (!rowB x)) ∧ Below w.heap.size w w' := by
  have HB : Hid (∀ o, Below w.heap.size w (w.alloc o)) := fun o => (Below.refl _ _).alloc (Nat.le_refl _) o
  have HR := Lib.hid (fun w => isRow_any x h1 w)
  obtain ⟨s, p, a⟩ := x
  dsimp only at HR ⊢
  obtain ⟨t, ht⟩ : ∃ t, rowB ⟨s, p, a⟩ = t := ⟨_, rfl⟩
  rw [ht] at HR ⊢
  clear ht h1
  go_enter Tryd.func45, Tryd.ntmps45
  go_wp2_with (go_at_call 46; refine (HR.out _).mono ?_; rintro e w' ⟨rfl, rfl⟩)
  go_ret
  exact ⟨rfl, HB.out _⟩
def IRelW (l : List A3) (w : World) (i : Value) (wr : World) : Prop := ∃ k : Nat, k ≤ l.length ∧ i = .int .i64 k ∧ (∀ j x, j < k → l[j]? = some x → rowB x = true) ∧ Below w.heap.size w wr
set_option maxRecDepth 4000 in
set_option maxHeartbeats 1600000 in
theorem indexW_any (A : Option Addr) (cap : Nat) (l : List A3) (w : World) (h1 : ActsAt w A l) (hw : ∀ x ∈ l, I64 x.s) (hl : l.length ≤ maxLen) :
    Calls Tryd.prog 70 #[.slice A l.length cap, .func (.func 45) #[] #[]] w fun e w' => (∃ n : Int, e = .returned (.int .i64 n) ∧ decide (0 ≤ n) = (!l.all rowB)) ∧ Below w.heap.size w w' := by
  unfold maxLen at hl
  have H1 := Lib.hid h1
  have HW := Lib.hid hw
  obtain ⟨a, ha⟩ : ∃ a, l.length = a := ⟨_, rfl⟩
  have HA := Lib.hid ha
  rw [ha] at hl
  rw [ha]
  clear h1 hw ha
  go_enter Tryd.func70, Tryd.ntmps70
  go_wp2
  go_loopw [8] (fun i wr => IRelW l w i wr) (fun i _ => a - (intOf i).toNat)
  case atStart => exact ⟨0, Nat.zero_le _, rfl, fun j x hj => by omega, Below.refl _ _⟩
  case round =>
    obtain ⟨k, hk, rfl, hb, hbel⟩ := hrel
    have HB := Lib.hid hb
    have HE := Lib.hid hbel
    have hka : k ≤ a := by rw [← HA.out]; exact hk
    clear hb hk hbel
    by_cases hlt : k < a
    · obtain ⟨x, hx⟩ : ∃ x, l[k]? = some x := ⟨_, List.getElem?_eq_getElem (by rw [HA.out]; exact hlt)⟩
      obtain ⟨ax, rfl, c1, c2, c3⟩ := (H1.out.kept HE.out) k x hx
      have HX := Lib.hid hx
      have HC := Lib.hid (predW_any x (HW.out x (List.mem_of_getElem? hx)) wr)
      have hki : (0 : Int) ≤ k := by omega
      have hkb : (k : Int) < a := by omega
      obtain ⟨t, ht⟩ : ∃ t, rowB x = t := ⟨_, rfl⟩
      rw [ht] at HC
      have HT := Lib.hid ht
      clear hx ht
      cases t with
      | true =>
        go_wp2_with fail
        refine HC.out.mono ?_
        rintro e w2 ⟨rfl, hb2⟩
        have HB2 := Lib.hid (HE.out.trans (hb2.mono HE.out.size))
        clear hb2
        go_wp2
        go_roundw
        case rel => exact ⟨k + 1, by rw [HA.out]; omega, by go_num, fun j y hj hy => by
          by_cases hjk : j = k
          · subst hjk
            rw [HX.out] at hy
            obtain rfl := Option.some.inj hy
            exact HT.out
          · exact HB.out j y (by omega) hy, HB2.out⟩
        case measure => simp [intOf]; omega
      | false =>
        have HAL : Hid (l.all rowB = false) := by
          show _ = _
          rw [List.all_eq_false]
          exact ⟨x, List.mem_of_getElem? HX.out, by rw [HT.out]; simp⟩
        go_wp2_with fail
        refine HC.out.mono ?_
        rintro e w2 ⟨rfl, hb2⟩
        have HB2 := Lib.hid (HE.out.trans (hb2.mono HE.out.size))
        clear hb2
        go_wp2
        go_ret
        exact ⟨⟨_, rfl, by rw [HAL.out]; simp⟩, HB2.out⟩
    · obtain rfl : k = a := by omega
      have HAL : Hid (l.all rowB = true) := by
        show _ = _
        rw [List.all_eq_true]
        intro y hy
        obtain ⟨i, hi, rfl⟩ := List.mem_iff_getElem.1 hy
        exact HB.out i _ (by rw [← HA.out]; exact hi) (List.getElem?_eq_getElem hi)
      go_wp2
      go_ret
      exact ⟨⟨_, rfl, by rw [HAL.out]; rfl⟩, HE.out⟩
theorem hasW_any (A : Option Addr) (cap : Nat) (l : List A3) (w : World) (h1 : ActsAt w A l) (hw : ∀ x ∈ l, I64 x.s) (hl : l.length ≤ maxLen) :
    Calls Tryd.prog 44 #[.slice A l.length cap, .func (.func 45) #[] #[]] w fun e w' => e = .returned (.bool (!l.all rowB)) ∧ Below w.heap.size w w' := by
  have HI := Lib.hid (indexW_any A cap l w h1 hw hl)
  obtain ⟨a, ha⟩ : ∃ a, l.length = a := ⟨_, rfl⟩
  rw [ha] at HI
  rw [ha]
  obtain ⟨t, ht⟩ : ∃ t, (!l.all rowB) = t := ⟨_, rfl⟩
  rw [ht] at HI ⊢
  clear h1 hw hl ha ht
  go_enter Tryd.func44, Tryd.ntmps44
  go_wp2_with fail
  refine HI.out.mono ?_
  rintro e w2 ⟨⟨n, rfl, hn⟩, hb2⟩
  have HB2 := Lib.hid hb2
  clear hb2
  go_wp2
  go_ret
  exact ⟨rfl, HB2.out⟩
theorem predN_any (x : A3) (h1 : I64 x.s) (w : World) :
    Calls Tryd.prog 48 #[.agg #[.int .i64 x.s, .int .i64 x.p, .int .i64 x.a]] w fun e w' => e = .returned (.bool (!rowB x)) ∧ Below w.heap.size w w' := by
  have HB : Hid (∀ o, Below w.heap.size w (w.alloc o)) := fun o => (Below.refl _ _).alloc (Nat.le_refl _) o
  have HR := Lib.hid (fun w => isRow_any x h1 w)
  obtain ⟨s, p, a⟩ := x
  dsimp only at HR ⊢
  obtain ⟨t, ht⟩ : ∃ t, rowB ⟨s, p, a⟩ = t := ⟨_, rfl⟩
  rw [ht] at HR ⊢
  clear ht h1
  go_enter Tryd.func48, Tryd.ntmps48
  go_wp2_with (go_at_call 46; refine (HR.out _).mono ?_; rintro e w' ⟨rfl, rfl⟩)
  go_ret
  exact ⟨rfl, HB.out _⟩
def IRelN (l : List A3) (w : World) (i : Value) (wr : World) : Prop := ∃ k : Nat, k ≤ l.length ∧ i = .int .i64 k ∧ (∀ j x, j < k → l[j]? = some x → rowB x = true) ∧ Below w.heap.size w wr
set_option maxRecDepth 4000 in
set_option maxHeartbeats 1600000 in
theorem indexN_any (A : Option Addr) (cap : Nat) (l : List A3) (w : World) (h1 : ActsAt w A l) (hw : ∀ x ∈ l, I64 x.s) (hl : l.length ≤ maxLen) :
    Calls Tryd.prog 71 #[.slice A l.length cap, .func (.func 48) #[] #[]] w fun e w' => (∃ n : Int, e = .returned (.int .i64 n) ∧ decide (0 ≤ n) = (!l.all rowB)) ∧ Below w.heap.size w w' := by
  unfold maxLen at hl
  have H1 := Lib.hid h1
  have HW := Lib.hid hw
  obtain ⟨a, ha⟩ : ∃ a, l.length = a := ⟨_, rfl⟩
  have HA := Lib.hid ha
  rw [ha] at hl
  rw [ha]
  clear h1 hw ha
  go_enter Tryd.func71, Tryd.ntmps71
  go_wp2
  go_loopw [8] (fun i wr => IRelN l w i wr) (fun i _ => a - (intOf i).toNat)
  case atStart => exact ⟨0, Nat.zero_le _, rfl, fun j x hj => by omega, Below.refl _ _⟩
  case round =>
    obtain ⟨k, hk, rfl, hb, hbel⟩ := hrel
    have HB := Lib.hid hb
    have HE := Lib.hid hbel
    have hka : k ≤ a := by rw [← HA.out]; exact hk
    clear hb hk hbel
    by_cases hlt : k < a
    · obtain ⟨x, hx⟩ : ∃ x, l[k]? = some x := ⟨_, List.getElem?_eq_getElem (by rw [HA.out]; exact hlt)⟩
      obtain ⟨ax, rfl, c1, c2, c3⟩ := (H1.out.kept HE.out) k x hx
      have HX := Lib.hid hx
      have HC := Lib.hid (predN_any x (HW.out x (List.mem_of_getElem? hx)) wr)
      have hki : (0 : Int) ≤ k := by omega
      have hkb : (k : Int) < a := by omega
      obtain ⟨t, ht⟩ : ∃ t, rowB x = t := ⟨_, rfl⟩
      rw [ht] at HC
      have HT := Lib.hid ht
      clear hx ht
      cases t with
      | true =>
        go_wp2_with fail
        refine HC.out.mono ?_
        rintro e w2 ⟨rfl, hb2⟩
        have HB2 := Lib.hid (HE.out.trans (hb2.mono HE.out.size))
        clear hb2
        go_wp2
        go_roundw
        case rel => exact ⟨k + 1, by rw [HA.out]; omega, by go_num, fun j y hj hy => by
          by_cases hjk : j = k
          · subst hjk
            rw [HX.out] at hy
            obtain rfl := Option.some.inj hy
            exact HT.out
          · exact HB.out j y (by omega) hy, HB2.out⟩
        case measure => simp [intOf]; omega
      | false =>
        have HAL : Hid (l.all rowB = false) := by
          show _ = _
          rw [List.all_eq_false]
          exact ⟨x, List.mem_of_getElem? HX.out, by rw [HT.out]; simp⟩
        go_wp2_with fail
        refine HC.out.mono ?_
        rintro e w2 ⟨rfl, hb2⟩
        have HB2 := Lib.hid (HE.out.trans (hb2.mono HE.out.size))
        clear hb2
        go_wp2
        go_ret
        exact ⟨⟨_, rfl, by rw [HAL.out]; simp⟩, HB2.out⟩
    · obtain rfl : k = a := by omega
      have HAL : Hid (l.all rowB = true) := by
        show _ = _
        rw [List.all_eq_true]
        intro y hy
        obtain ⟨i, hi, rfl⟩ := List.mem_iff_getElem.1 hy
        exact HB.out i _ (by rw [← HA.out]; exact hi) (List.getElem?_eq_getElem hi)
      go_wp2
      go_ret
      exact ⟨⟨_, rfl, by rw [HAL.out]; rfl⟩, HE.out⟩
theorem hasN_any (A : Option Addr) (cap : Nat) (l : List A3) (w : World) (h1 : ActsAt w A l) (hw : ∀ x ∈ l, I64 x.s) (hl : l.length ≤ maxLen) :
    Calls Tryd.prog 47 #[.slice A l.length cap, .func (.func 48) #[] #[]] w fun e w' => e = .returned (.bool (!l.all rowB)) ∧ Below w.heap.size w w' := by
  have HI := Lib.hid (indexN_any A cap l w h1 hw hl)
  obtain ⟨a, ha⟩ : ∃ a, l.length = a := ⟨_, rfl⟩
  rw [ha] at HI
  rw [ha]
  obtain ⟨t, ht⟩ : ∃ t, (!l.all rowB) = t := ⟨_, rfl⟩
  rw [ht] at HI ⊢
  clear h1 hw hl ha ht
  go_enter Tryd.func47, Tryd.ntmps47
  go_wp2_with fail
  refine HI.out.mono ?_
  rintro e w2 ⟨⟨n, rfl, hn⟩, hb2⟩
  have HB2 := Lib.hid hb2
  clear hb2
  go_wp2
  go_ret
  exact ⟨rfl, HB2.out⟩
def scC (x : SC) (B : Option Addr) (cb : Nat) (C : Option Addr) (cc : Nat) : Array Value := #[.int .i64 x.id, .int .i64 x.fr, .slice B x.ws.length cb, .slice C x.ns.length cc]
set_option maxRecDepth 4000 in
set_option maxHeartbeats 1600000 in
theorem sright_any (x : SC) (B : Option Addr) (cb : Nat) (C : Option Addr) (cc : Nat) (w : World) (hid : I64 x.id) (hB : ActsAt w B x.ws) (hC : ActsAt w C x.ns) (hwb : ∀ y ∈ x.ws, I64 y.s) (hwc : ∀ y ∈ x.ns, I64 y.s) (hlb : x.ws.length ≤ maxLen) (hlc : x.ns.length ≤ maxLen) :
    Calls Tryd.prog 20 #[.agg (scC x B cb C cc)] w fun e w' => e = .returned (.int .i64 (rgS x)) ∧ Below w.heap.size w w' := by
  unfold rgS scC
  have HB0 : Hid (∀ o, Below w.heap.size w (w.alloc o)) := fun o => (Below.refl _ _).alloc (Nat.le_refl _) o
  have HN := Lib.hid (fun o => heap_alloc_new w o)
  have HI := Lib.hid (fun w => isId_any x.id hid w)
  have HT := Lib.hid (fun w => isTicks_any x.fr 1 w)
  have HW := Lib.hid (fun W b => hasW_any B cb x.ws W (hB.kept (w' := W) b) hwb hlb)
  have HE := Lib.hid (fun W b => hasN_any C cc x.ns W (hC.kept (w' := W) b) hwc hlc)
  obtain ⟨id, fr, ws, ns⟩ := x
  dsimp only at *
  obtain ⟨lw, hlw⟩ : ∃ n, ws.length = n := ⟨_, rfl⟩
  obtain ⟨ln, hln⟩ : ∃ n, ns.length = n := ⟨_, rfl⟩
  rw [hlw] at HW ⊢
  rw [hln] at HE ⊢
  obtain ⟨bw, hbw⟩ : ∃ b, (!ws.all rowB) = b := ⟨_, rfl⟩
  obtain ⟨bn, hbn⟩ : ∃ b, (!ns.all rowB) = b := ⟨_, rfl⟩
  rw [hbw] at HW ⊢
  rw [hbn] at HE ⊢
  clear hid hB hC hwb hwc hlb hlc hlw hln hbw hbn
  cases t1 : idB id with
  | false =>
    rw [t1] at HI
    clear t1
    go_enter Tryd.func20, Tryd.ntmps20
    go_wp2_with (first
      | (go_at_call 42; refine (HI.out _).mono ?_; rintro e w' ⟨rfl, rfl⟩)
      | (go_at_call 43; refine (HT.out _).mono ?_; rintro e w' ⟨rfl, rfl⟩)
      | (go_at_call 44; refine (HW.out _ (HB0.out _)).mono ?_; rintro e w2 ⟨rfl, hb2⟩; have HB2 := Lib.hid ((HB0.out _).trans (hb2.mono (HB0.out _).size)); have hr2 := (hb2.block _ (lt_of_block (HN.out _))).trans (HN.out _); have e3 := cell_of_row w2 _ 3 _ _ _ hr2; simp only [List.getElem?_toArray, List.getElem?_cons_zero, List.getElem?_cons_succ] at e3; clear hb2 hr2)
      | (go_at_call 47; refine (HE.out _ HB2.out).mono ?_; rintro e w3 ⟨rfl, hb3⟩; have HB3 := Lib.hid (HB2.out.trans (hb3.mono HB2.out.size)); clear hb3))
    go_ret
    exact ⟨rfl, HB0.out _⟩
  | true =>
  rw [t1] at HI
  clear t1
  cases t2 : tkB fr 1 with
  | false =>
    rw [t2] at HT
    clear t2
    go_enter Tryd.func20, Tryd.ntmps20
    go_wp2_with (first
      | (go_at_call 42; refine (HI.out _).mono ?_; rintro e w' ⟨rfl, rfl⟩)
      | (go_at_call 43; refine (HT.out _).mono ?_; rintro e w' ⟨rfl, rfl⟩)
      | (go_at_call 44; refine (HW.out _ (HB0.out _)).mono ?_; rintro e w2 ⟨rfl, hb2⟩; have HB2 := Lib.hid ((HB0.out _).trans (hb2.mono (HB0.out _).size)); have hr2 := (hb2.block _ (lt_of_block (HN.out _))).trans (HN.out _); have e3 := cell_of_row w2 _ 3 _ _ _ hr2; simp only [List.getElem?_toArray, List.getElem?_cons_zero, List.getElem?_cons_succ] at e3; clear hb2 hr2)
      | (go_at_call 47; refine (HE.out _ HB2.out).mono ?_; rintro e w3 ⟨rfl, hb3⟩; have HB3 := Lib.hid (HB2.out.trans (hb3.mono HB2.out.size)); clear hb3))
    go_ret
    exact ⟨rfl, HB0.out _⟩
  | true =>
  rw [t2] at HT
  clear t2
  cases t3 : decide (256 < (lw : Int)) with
  | true =>
    go_enter Tryd.func20, Tryd.ntmps20
    go_wp2_with (first
      | (go_at_call 42; refine (HI.out _).mono ?_; rintro e w' ⟨rfl, rfl⟩)
      | (go_at_call 43; refine (HT.out _).mono ?_; rintro e w' ⟨rfl, rfl⟩)
      | (go_at_call 44; refine (HW.out _ (HB0.out _)).mono ?_; rintro e w2 ⟨rfl, hb2⟩; have HB2 := Lib.hid ((HB0.out _).trans (hb2.mono (HB0.out _).size)); have hr2 := (hb2.block _ (lt_of_block (HN.out _))).trans (HN.out _); have e3 := cell_of_row w2 _ 3 _ _ _ hr2; simp only [List.getElem?_toArray, List.getElem?_cons_zero, List.getElem?_cons_succ] at e3; clear hb2 hr2)
      | (go_at_call 47; refine (HE.out _ HB2.out).mono ?_; rintro e w3 ⟨rfl, hb3⟩; have HB3 := Lib.hid (HB2.out.trans (hb3.mono HB2.out.size)); clear hb3))
    go_ret
    exact ⟨rfl, HB0.out _⟩
  | false =>
  cases bw with
  | true =>
    go_enter Tryd.func20, Tryd.ntmps20
    go_wp2_with (first
      | (go_at_call 42; refine (HI.out _).mono ?_; rintro e w' ⟨rfl, rfl⟩)
      | (go_at_call 43; refine (HT.out _).mono ?_; rintro e w' ⟨rfl, rfl⟩)
      | (go_at_call 44; refine (HW.out _ (HB0.out _)).mono ?_; rintro e w2 ⟨rfl, hb2⟩; have HB2 := Lib.hid ((HB0.out _).trans (hb2.mono (HB0.out _).size)); have hr2 := (hb2.block _ (lt_of_block (HN.out _))).trans (HN.out _); have e3 := cell_of_row w2 _ 3 _ _ _ hr2; simp only [List.getElem?_toArray, List.getElem?_cons_zero, List.getElem?_cons_succ] at e3; clear hb2 hr2)
      | (go_at_call 47; refine (HE.out _ HB2.out).mono ?_; rintro e w3 ⟨rfl, hb3⟩; have HB3 := Lib.hid (HB2.out.trans (hb3.mono HB2.out.size)); clear hb3))
    go_ret
    exact ⟨rfl, HB2.out⟩
  | false =>
  cases t4 : decide (32 < (ln : Int)) with
  | true =>
    go_enter Tryd.func20, Tryd.ntmps20
    go_wp2_with (first
      | (go_at_call 42; refine (HI.out _).mono ?_; rintro e w' ⟨rfl, rfl⟩)
      | (go_at_call 43; refine (HT.out _).mono ?_; rintro e w' ⟨rfl, rfl⟩)
      | (go_at_call 44; refine (HW.out _ (HB0.out _)).mono ?_; rintro e w2 ⟨rfl, hb2⟩; have HB2 := Lib.hid ((HB0.out _).trans (hb2.mono (HB0.out _).size)); have hr2 := (hb2.block _ (lt_of_block (HN.out _))).trans (HN.out _); have e3 := cell_of_row w2 _ 3 _ _ _ hr2; simp only [List.getElem?_toArray, List.getElem?_cons_zero, List.getElem?_cons_succ] at e3; clear hb2 hr2)
      | (go_at_call 47; refine (HE.out _ HB2.out).mono ?_; rintro e w3 ⟨rfl, hb3⟩; have HB3 := Lib.hid (HB2.out.trans (hb3.mono HB2.out.size)); clear hb3))
    go_ret
    exact ⟨rfl, HB2.out⟩
  | false =>
  cases bn with
  | true =>
    go_enter Tryd.func20, Tryd.ntmps20
    go_wp2_with (first
      | (go_at_call 42; refine (HI.out _).mono ?_; rintro e w' ⟨rfl, rfl⟩)
      | (go_at_call 43; refine (HT.out _).mono ?_; rintro e w' ⟨rfl, rfl⟩)
      | (go_at_call 44; refine (HW.out _ (HB0.out _)).mono ?_; rintro e w2 ⟨rfl, hb2⟩; have HB2 := Lib.hid ((HB0.out _).trans (hb2.mono (HB0.out _).size)); have hr2 := (hb2.block _ (lt_of_block (HN.out _))).trans (HN.out _); have e3 := cell_of_row w2 _ 3 _ _ _ hr2; simp only [List.getElem?_toArray, List.getElem?_cons_zero, List.getElem?_cons_succ] at e3; clear hb2 hr2)
      | (go_at_call 47; refine (HE.out _ HB2.out).mono ?_; rintro e w3 ⟨rfl, hb3⟩; have HB3 := Lib.hid (HB2.out.trans (hb3.mono HB2.out.size)); clear hb3))
    go_ret
    exact ⟨rfl, HB3.out⟩
  | false =>
    go_enter Tryd.func20, Tryd.ntmps20
    go_wp2_with (first
      | (go_at_call 42; refine (HI.out _).mono ?_; rintro e w' ⟨rfl, rfl⟩)
      | (go_at_call 43; refine (HT.out _).mono ?_; rintro e w' ⟨rfl, rfl⟩)
      | (go_at_call 44; refine (HW.out _ (HB0.out _)).mono ?_; rintro e w2 ⟨rfl, hb2⟩; have HB2 := Lib.hid ((HB0.out _).trans (hb2.mono (HB0.out _).size)); have hr2 := (hb2.block _ (lt_of_block (HN.out _))).trans (HN.out _); have e3 := cell_of_row w2 _ 3 _ _ _ hr2; simp only [List.getElem?_toArray, List.getElem?_cons_zero, List.getElem?_cons_succ] at e3; clear hb2 hr2)
      | (go_at_call 47; refine (HE.out _ HB2.out).mono ?_; rintro e w3 ⟨rfl, hb3⟩; have HB3 := Lib.hid (HB2.out.trans (hb3.mono HB2.out.size)); clear hb3))
    go_ret
    exact ⟨rfl, HB3.out⟩
end Go.Proofs.YtbcjkongcnpdlaaDoor.Scd

namespace Go.Proofs.YtbcjkongcnpdlaaDoor.Scd

open Go.RowKit Go.PlainAid Go.Proofs.YtbcjkongcnpdlaaDoor.Oct Go.Proofs.YtbcjkongcnpdlaaDoor.Flt Go.Proofs.YtbcjkongcnpdlaaDoor.Rdr Go.Proofs.YtbcjkongcnpdlaaDoor.Act

open Go.Proofs.YtbcjkongcnpdlaaDoor.Prt (fb fb_step fb_end take_snoc below_drewN)

open Go.Proofs.YtbcjkongcnpdlaaDoor.Hdr (below_set2)

set_option linter.unusedVariables false

set_option linter.unusedSimpArgs false

/-- Schedules lie at an address. -/
def ScdAt (w : World) (A : Option Addr) (l : List SC) : Prop :=
  ∀ i x, l[i]? = some x → ∃ y B cb C cc, A = some y ∧ w.cell? (y.add (i * 4)) = some (.int .i64 x.id) ∧ w.cell? ⟨(y.add (i * 4)).block, (y.add (i * 4)).off + 1, none⟩ = some (.int .i64 x.fr) ∧ w.cell? ⟨(y.add (i * 4)).block, (y.add (i * 4)).off + 2, none⟩ = some (.slice B x.ws.length cb) ∧ w.cell? ⟨(y.add (i * 4)).block, (y.add (i * 4)).off + 3, none⟩ = some (.slice C x.ns.length cc) ∧
    ActsAt w B x.ws ∧ (B = none → cb = 0) ∧ x.ws.length ≤ cb ∧ cb ≤ maxLen ∧ ActsAt w C x.ns ∧ (C = none → cc = 0) ∧ x.ns.length ≤ cc ∧ cc ≤ maxLen
theorem ScdAt.kept {w w' : World} {A : Option Addr} {l : List SC} (h : ScdAt w A l) (b : Below w.heap.size w w') : ScdAt w' A l := by
  intro i x hx
  obtain ⟨y, B, cb, C, cc, e, h1, h2, h3, h4, h5, h6, h7, h8, h9, h10⟩ := h i x hx
  exact ⟨y, B, cb, C, cc, e, (b.cell (Go.block_lt_of_cell h1)).trans h1, (b.cell (Go.block_lt_of_cell h2)).trans h2, (b.cell (Go.block_lt_of_cell h3)).trans h3, (b.cell (Go.block_lt_of_cell h4)).trans h4, h5.kept b, h6, h7, h8, h9.kept b, h10⟩
def lastS (l : List SC) : Int := (l.getLast?.map SC.id).getD (-1)
theorem lastS_snoc (l : List SC) (x : SC) : lastS (l ++ [x]) = x.id := by simp [lastS]
def b1S (pre : List SC) (x : SC) : Nat := if rgS x = 0 then (if x.id ≤ lastS pre then 9 else 0) else rgS x
def badS (l : List SC) : Nat × Int := fb b1S [] l
theorem rgS_le (x : SC) : rgS x ≤ 18 := by unfold rgS; repeat' split
                                           all_goals omega
theorem rgS_id {x : SC} (h : rgS x = 0) : 0 ≤ x.id := by
  unfold rgS at h
  split at h
  · cases h
  · rename_i h1
    simp [idB] at h1
    omega
def sec3 (k : Nat) : Int := if k = 0 then 0 else 3
def WideS (x : SC) : Prop := I64 x.id ∧ (∀ y ∈ x.ws, Wide y) ∧ (∀ y ∈ x.ns, Wide y)
def WPost (q : Nat × Int) (w : World) (e : Ending) (w' : World) : Prop := ∃ x, e = .returned x ∧ Wrong w' x q.1 (sec3 q.1) q.2 ∧ Below w.heap.size w w'
def WRel (l : List SC) (w : World) (v i : Value) (wr : World) : Prop := ∃ k : Nat, k ≤ l.length ∧ i = .int .i64 k ∧ v = .int .i64 (lastS (l.take k)) ∧ badS l = fb b1S (l.take k) (l.drop k) ∧ Below w.heap.size w wr
def inB (v a b : Int) : Bool := decide (a ≤ v) && decide (v ≤ b)
theorem within_any (v a b : Int) (w : World) : Calls Tryd.prog 49 #[.int .i64 v, .int .i64 a, .int .i64 b] w fun e w' => e = .returned (.bool (inB v a b)) ∧ w = w' := by
  unfold inB
  cases h1 : decide (a ≤ v)
  · go_enter Tryd.func49, Tryd.ntmps49
    go_wp2
    go_ret
    exact ⟨rfl, rfl⟩
  · cases h2 : decide (v ≤ b)
    all_goals
      go_enter Tryd.func49, Tryd.ntmps49
      go_wp2
      go_ret
      exact ⟨rfl, rfl⟩
def RRel (l : List A3) (w : World) (c0 : Array Value) (i : Value) (wr : World) : Prop := ∃ k : Nat, k ≤ l.length ∧ i = .int .i64 k ∧ (∀ j x, j < k → l[j]? = some x → rowB x = true) ∧ wr.heap[w.heap.size]? = some (.cells c0 51 (0, 0)) ∧ Below w.heap.size w wr
theorem all_yes {l : List A3} (h : ∀ j x, j < l.length → l[j]? = some x → rowB x = true) : l.all rowB = true := by
  rw [List.all_eq_true]
  intro y hy
  obtain ⟨i, hi, rfl⟩ := List.mem_iff_getElem.1 hy
  exact h i _ hi (List.getElem?_eq_getElem hi)
theorem all_no {l : List A3} {k : Nat} {x : A3} (hx : l[k]? = some x) (h : rowB x = false) : l.all rowB = false := by
  rw [List.all_eq_false]
  exact ⟨x, List.mem_of_getElem? hx, by rw [h]; simp⟩
set_option maxRecDepth 8000 in
set_option maxHeartbeats 6400000 in
theorem sright09_any (x : SC) (B : Option Addr) (cb : Nat) (C : Option Addr) (cc : Nat) (w : World) (hB : ActsAt w B x.ws) (hC : ActsAt w C x.ns) (hlb : x.ws.length ≤ maxLen) (hlc : x.ns.length ≤ maxLen) :
    Calls Tryd.prog 21 #[.agg (scC x B cb C cc)] w fun e w' => e = .returned (.int .i64 (rgS x)) ∧ Below w.heap.size w w' := by
  have HRG0 : Hid (rgS x = if (inB x.id 0 255 && inB x.fr 1 1048576) = false then 18 else if decide (256 < (x.ws.length : Int)) = true then 8 else if (!x.ws.all rowB) = true then 18 else if decide (32 < (x.ns.length : Int)) = true then 8 else if (!x.ns.all rowB) = true then 18 else 0) := rfl
  have HA1 := Lib.hid hB
  have HA2 := Lib.hid hC
  have I4 := Lib.hid (fun w => within_any x.id 0 255 w)
  have I5 := Lib.hid (fun w => within_any x.fr 1 1048576 w)
  unfold scC
  obtain ⟨rgv, hrgv⟩ : ∃ v, rgS x = v := ⟨_, rfl⟩
  rw [hrgv] at HRG0 ⊢
  obtain ⟨id, fr, ws, ns⟩ := x
  dsimp only at *
  obtain ⟨lw, hlw⟩ : ∃ n, ws.length = n := ⟨_, rfl⟩
  obtain ⟨ln, hln⟩ : ∃ n, ns.length = n := ⟨_, rfl⟩
  have HL1 := Lib.hid hlw
  have HL2 := Lib.hid hln
  rw [hlw] at HRG0 hlb ⊢
  rw [hln] at HRG0 hlc ⊢
  unfold maxLen at hlb hlc
  obtain ⟨b4, hb4⟩ : ∃ b, inB id 0 255 = b := ⟨_, rfl⟩
  obtain ⟨b5, hb5⟩ : ∃ b, inB fr 1 1048576 = b := ⟨_, rfl⟩
  rw [hb4] at I4 HRG0
  rw [hb5] at I5 HRG0
  have HB0 : Hid (∀ o, Below w.heap.size w (w.alloc o)) := fun o => (Below.refl _ _).alloc (Nat.le_refl _) o
  have HR1 := Lib.hid (heap_alloc_new w (.cells #[.int .i64 id, .int .i64 fr, .slice B lw cb, .slice C ln cc] 51))
  have HBL1 : Hid (Below w.heap.size w (w.alloc (.cells #[.int .i64 id, .int .i64 fr, .slice B lw cb, .slice C ln cc] 51))) := (Below.refl _ _).alloc (Nat.le_refl _) _
  clear hB hC hrgv hlw hln hb4 hb5
  cases b4 with
  | false =>
    have HG : Hid (rgv = 18) := by show _ = _; rw [HRG0.out]; rfl
    go_enter Tryd.func21, Tryd.ntmps21
    go_wp2_with (go_at_call 49; (with_reducible refine (I4.out _).mono ?_); rintro e w' ⟨rfl, rfl⟩)
    go_ret
    exact ⟨by rw [HG.out]; rfl, HB0.out _⟩
  | true =>
  cases b5 with
  | false =>
    have HG : Hid (rgv = 18) := by show _ = _; rw [HRG0.out]; rfl
    go_enter Tryd.func21, Tryd.ntmps21
    go_wp2_with (go_at_call 49; (with_reducible first | (refine (I4.out _).mono ?_) | (refine (I5.out _).mono ?_)); rintro e w' ⟨rfl, rfl⟩)
    go_ret
    exact ⟨by rw [HG.out]; rfl, HB0.out _⟩
  | true =>
  cases t3 : decide (256 < (lw : Int)) with
  | true =>
    have HG : Hid (rgv = 8) := by show _ = _; rw [HRG0.out, t3]; rfl
    go_enter Tryd.func21, Tryd.ntmps21
    go_wp2_with (go_at_call 49; (with_reducible first | (refine (I4.out _).mono ?_) | (refine (I5.out _).mono ?_)); rintro e w' ⟨rfl, rfl⟩)
    go_ret
    exact ⟨by rw [HG.out]; rfl, HB0.out _⟩
  | false =>
  have HRG : Hid (rgv = if (!ws.all rowB) = true then 18 else if decide (32 < (ln : Int)) = true then 8 else if (!ns.all rowB) = true then 18 else 0) := by show _ = _; rw [HRG0.out, t3]; rfl
  clear HRG0
  go_enter Tryd.func21, Tryd.ntmps21
  go_wp2_with (go_at_call 49; (with_reducible first | (refine (I4.out _).mono ?_) | (refine (I5.out _).mono ?_)); rintro e w' ⟨rfl, rfl⟩)
  go_loopw [3] (fun i wr => RRel ws w #[.int .i64 id, .int .i64 fr, .slice B lw cb, .slice C ln cc] i wr) (fun i _ => lw - (intOf i).toNat)
  case atStart => exact ⟨0, Nat.zero_le _, rfl, fun j x hj => by omega, HR1.out, HBL1.out⟩
  case round =>
    obtain ⟨k, hk, rfl, hall, hrow, hbel⟩ := hrel
    have HALL1 := Lib.hid hall
    have HE := Lib.hid hbel
    have HROW := Lib.hid hrow
    have hka : k ≤ lw := by rw [← HL1.out]; exact hk
    have q2 := cell_of_row wr _ 2 _ _ _ hrow
    have q3 := cell_of_row wr _ 3 _ _ _ hrow
    simp only [List.getElem?_toArray, List.getElem?_cons_zero, List.getElem?_cons_succ] at q2 q3
    clear hall hk hbel hrow HR1 HBL1
    by_cases hlt : k < lw
    · obtain ⟨x, hx⟩ : ∃ x, ws[k]? = some x := ⟨_, List.getElem?_eq_getElem (by rw [HL1.out]; exact hlt)⟩
      obtain ⟨ax, rfl, c1, c2, c3⟩ := (HA1.out.kept HE.out) k x hx
      have HX := Lib.hid hx
      have I1 := Lib.hid (fun w => within_any x.s 0 255 w)
      have I2 := Lib.hid (fun w => within_any x.p 0 1048576 w)
      have I3 := Lib.hid (fun w => within_any x.a 0 1048576 w)
      have HRB : Hid (rowB x = (inB x.s 0 255 && inB x.p 0 1048576 && inB x.a 0 1048576)) := rfl
      obtain ⟨b1, hb1⟩ : ∃ b, inB x.s 0 255 = b := ⟨_, rfl⟩
      obtain ⟨b2, hb2⟩ : ∃ b, inB x.p 0 1048576 = b := ⟨_, rfl⟩
      obtain ⟨b3, hb3⟩ : ∃ b, inB x.a 0 1048576 = b := ⟨_, rfl⟩
      rw [hb1] at I1 HRB
      rw [hb2] at I2 HRB
      rw [hb3] at I3 HRB
      have hki : (0 : Int) ≤ k := by omega
      have hkb : (k : Int) < lw := by omega
      have HB5 := Lib.hid (fun o => HE.out.alloc HE.out.size (o := o))
      have HR5 := Lib.hid (fun o => (heap_alloc_old wr o (lt_of_block HROW.out)).trans HROW.out)
      clear hx hb1 hb2 hb3
      cases b1 with
      | false =>
        have HNO := Lib.hid (all_no HX.out HRB.out)
        go_wp2_with (go_at_call 49; (with_reducible refine (I1.out _).mono ?_); rintro e w' ⟨rfl, rfl⟩)
        go_ret
        exact ⟨by rw [HRG.out, HNO.out]; rfl, HB5.out _⟩
      | true =>
      cases b2 with
      | false =>
        have HNO := Lib.hid (all_no HX.out HRB.out)
        go_wp2_with (go_at_call 49; (with_reducible first | (refine (I1.out _).mono ?_) | (refine (I2.out _).mono ?_)); rintro e w' ⟨rfl, rfl⟩)
        go_ret
        exact ⟨by rw [HRG.out, HNO.out]; rfl, HB5.out _⟩
      | true =>
      cases b3 with
      | false =>
        have HNO := Lib.hid (all_no HX.out HRB.out)
        go_wp2_with (go_at_call 49; (with_reducible first | (refine (I1.out _).mono ?_) | (refine (I2.out _).mono ?_) | (refine (I3.out _).mono ?_)); rintro e w' ⟨rfl, rfl⟩)
        go_ret
        exact ⟨by rw [HRG.out, HNO.out]; rfl, HB5.out _⟩
      | true =>
        go_wp2_with (go_at_call 49; (with_reducible first | (refine (I1.out _).mono ?_) | (refine (I2.out _).mono ?_) | (refine (I3.out _).mono ?_)); rintro e w' ⟨rfl, rfl⟩)
        go_roundw
        case rel => exact ⟨k + 1, by rw [HL1.out]; omega, by go_num, fun j y hj hy => by
          by_cases hjk : j = k
          · subst hjk
            rw [HX.out] at hy
            obtain rfl := Option.some.inj hy
            exact HRB.out
          · exact HALL1.out j y (by omega) hy, HR5.out _, HB5.out _⟩
        case measure => simp [intOf]; omega
    · have hkl : k = lw := by omega
      have HY1 := Lib.hid (all_yes (l := ws) fun j x hj hx => HALL1.out j x (by rw [hkl, ← HL1.out]; exact hj) hx)
      have tk1 : decide ((k : Int) < (lw : Int)) = false := decide_eq_false (by omega)
      have tkn1 : decide (k < lw) = false := decide_eq_false hlt
      clear hkl
      have HR2 := Lib.hid HROW.out
      have HBL2 := Lib.hid HE.out
      cases t4 : decide (32 < (ln : Int)) with
      | true =>
        have HG4 : Hid (rgv = 8) := by show _ = _; rw [HRG.out, HY1.out, t4]; rfl
        go_wp2
        go_ret
        exact ⟨by rw [HG4.out]; rfl, HE.out⟩
      | false =>
        have HT4 := Lib.hid t4
        go_wp2
        go_loopw [5] (fun i wr => RRel ns w #[.int .i64 id, .int .i64 fr, .slice B lw cb, .slice C ln cc] i wr) (fun i _ => ln - (intOf i).toNat)
        case atStart => exact ⟨0, Nat.zero_le _, rfl, fun j x hj => by omega, HR2.out, HBL2.out⟩
        case round =>
          obtain ⟨k, hk, rfl, hall, hrow, hbel⟩ := hrel
          have HALL2 := Lib.hid hall
          have HE := Lib.hid hbel
          have HROW := Lib.hid hrow
          have hka : k ≤ ln := by rw [← HL2.out]; exact hk
          have q2 := cell_of_row wr _ 2 _ _ _ hrow
          have q3 := cell_of_row wr _ 3 _ _ _ hrow
          simp only [List.getElem?_toArray, List.getElem?_cons_zero, List.getElem?_cons_succ] at q2 q3
          clear hall hk hbel hrow HR2 HBL2
          by_cases hlt : k < ln
          · obtain ⟨x, hx⟩ : ∃ x, ns[k]? = some x := ⟨_, List.getElem?_eq_getElem (by rw [HL2.out]; exact hlt)⟩
            obtain ⟨ax, rfl, c1, c2, c3⟩ := (HA2.out.kept HE.out) k x hx
            have HX := Lib.hid hx
            have I1 := Lib.hid (fun w => within_any x.s 0 255 w)
            have I2 := Lib.hid (fun w => within_any x.p 0 1048576 w)
            have I3 := Lib.hid (fun w => within_any x.a 0 1048576 w)
            have HRB : Hid (rowB x = (inB x.s 0 255 && inB x.p 0 1048576 && inB x.a 0 1048576)) := rfl
            obtain ⟨b1, hb1⟩ : ∃ b, inB x.s 0 255 = b := ⟨_, rfl⟩
            obtain ⟨b2, hb2⟩ : ∃ b, inB x.p 0 1048576 = b := ⟨_, rfl⟩
            obtain ⟨b3, hb3⟩ : ∃ b, inB x.a 0 1048576 = b := ⟨_, rfl⟩
            rw [hb1] at I1 HRB
            rw [hb2] at I2 HRB
            rw [hb3] at I3 HRB
            have hki : (0 : Int) ≤ k := by omega
            have hkb : (k : Int) < ln := by omega
            have HB5 := Lib.hid (fun o => HE.out.alloc HE.out.size (o := o))
            have HR5 := Lib.hid (fun o => (heap_alloc_old wr o (lt_of_block HROW.out)).trans HROW.out)
            clear hx hb1 hb2 hb3
            cases b1 with
            | false =>
              have HNO := Lib.hid (all_no HX.out HRB.out)
              go_wp2_with (go_at_call 49; (with_reducible refine (I1.out _).mono ?_); rintro e w' ⟨rfl, rfl⟩)
              go_ret
              exact ⟨by rw [HRG.out, HY1.out, HT4.out, HNO.out]; rfl, HB5.out _⟩
            | true =>
            cases b2 with
            | false =>
              have HNO := Lib.hid (all_no HX.out HRB.out)
              go_wp2_with (go_at_call 49; (with_reducible first | (refine (I1.out _).mono ?_) | (refine (I2.out _).mono ?_)); rintro e w' ⟨rfl, rfl⟩)
              go_ret
              exact ⟨by rw [HRG.out, HY1.out, HT4.out, HNO.out]; rfl, HB5.out _⟩
            | true =>
            cases b3 with
            | false =>
              have HNO := Lib.hid (all_no HX.out HRB.out)
              go_wp2_with (go_at_call 49; (with_reducible first | (refine (I1.out _).mono ?_) | (refine (I2.out _).mono ?_) | (refine (I3.out _).mono ?_)); rintro e w' ⟨rfl, rfl⟩)
              go_ret
              exact ⟨by rw [HRG.out, HY1.out, HT4.out, HNO.out]; rfl, HB5.out _⟩
            | true =>
              go_wp2_with (go_at_call 49; (with_reducible first | (refine (I1.out _).mono ?_) | (refine (I2.out _).mono ?_) | (refine (I3.out _).mono ?_)); rintro e w' ⟨rfl, rfl⟩)
              go_roundw
              case rel => exact ⟨k + 1, by rw [HL2.out]; omega, by go_num, fun j y hj hy => by
                by_cases hjk : j = k
                · subst hjk
                  rw [HX.out] at hy
                  obtain rfl := Option.some.inj hy
                  exact HRB.out
                · exact HALL2.out j y (by omega) hy, HR5.out _, HB5.out _⟩
              case measure => simp [intOf]; omega
          · have hkl : k = ln := by omega
            have HY2 := Lib.hid (all_yes (l := ns) fun j x hj hx => HALL2.out j x (by rw [hkl, ← HL2.out]; exact hj) hx)
            have tk2 : decide ((k : Int) < (ln : Int)) = false := decide_eq_false (by omega)
            have tkn2 : decide (k < ln) = false := decide_eq_false hlt
            clear hkl
            go_wp2
            go_ret
            exact ⟨by rw [HRG.out, HY1.out, HT4.out, HY2.out]; rfl, HE.out⟩
set_option maxRecDepth 8000 in
set_option maxHeartbeats 3200000 in
theorem swrong_any (A : Option Addr) (cap : Nat) (l : List SC) (w : World) (hn : Names w) (h1 : ScdAt w A l) (hw : ∀ x ∈ l, WideS x) (hl : l.length ≤ 1000) :
    Calls Tryd.prog 24 #[.slice A l.length cap] w (WPost (badS l) w) := by
  have HN := Lib.hid hn
  have H1 := Lib.hid h1
  have HW := Lib.hid hw
  obtain ⟨a, ha⟩ : ∃ a, l.length = a := ⟨_, rfl⟩
  have HA := Lib.hid ha
  rw [ha] at hl
  rw [ha]
  obtain ⟨q, hq⟩ : ∃ q, badS l = q := ⟨_, rfl⟩
  have HQ := Lib.hid hq
  rw [hq]
  clear hn h1 hw ha hq
  go_enter Tryd.func24, Tryd.ntmps24
  go_wp2
  go_loopw [3, 9] (fun v i wr => WRel l w v i wr) (fun _ i _ => a - (intOf i).toNat)
  case atStart => exact ⟨0, Nat.zero_le _, rfl, rfl, by simp [badS], Below.refl _ _⟩
  case round =>
    obtain ⟨k, hk, rfl, rfl, hb, hbel⟩ := hrel
    have HB := Lib.hid hb
    have HE := Lib.hid hbel
    have hka : k ≤ a := by rw [← HA.out]; exact hk
    clear hb hk hbel
    by_cases hlt : k < a
    · obtain ⟨x, hx⟩ : ∃ x, l[k]? = some x := ⟨_, List.getElem?_eq_getElem (by rw [HA.out]; exact hlt)⟩
      obtain ⟨ax, B, cb, C, cc, rfl, c1, c2, c3, c4, h5, _, h6, h7, h8, _, h9, h10⟩ := (H1.out.kept HE.out) k x hx
      have hwx := HW.out x (List.mem_of_getElem? hx)
      have HBR : Hid (∀ o, Below wr.heap.size wr (wr.alloc o)) := fun o => (Below.refl _ _).alloc (Nat.le_refl _) o
      have HR : Hid (∀ W, Below wr.heap.size wr W → Calls Tryd.prog 20 #[.agg #[.int .i64 x.id, .int .i64 x.fr, .slice B x.ws.length cb, .slice C x.ns.length cc]] W fun e w' => e = .returned (.int .i64 (rgS x)) ∧ Below W.heap.size W w') := fun W b => sright_any x B cb C cc W hwx.1 (h5.kept b) (h8.kept b) (fun y hy => (hwx.2.1 y hy).1) (fun y hy => (hwx.2.2 y hy).1) (Nat.le_trans h6 h7) (Nat.le_trans h9 h10)
      have HS := Lib.hid ((HB.out.symm.trans HQ.out).symm.trans (fb_step b1S l k x hx))
      have HT : Hid (lastS (l.take (k + 1)) = x.id) := by show _ = _; rw [take_snoc l k x hx, lastS_snoc]
      have HRL := Lib.hid (rgS_le x)
      have HF1 : Hid (b1S (l.take k) x = if rgS x = 0 then (if x.id ≤ lastS (l.take k) then 9 else 0) else rgS x) := rfl
      obtain ⟨R, hR⟩ : ∃ R, rgS x = R := ⟨_, rfl⟩
      obtain ⟨LA, hLA⟩ : ∃ LA, lastS (l.take k) = LA := ⟨_, rfl⟩
      rw [hR] at HR HRL HF1
      rw [hLA] at HF1
      rw [hLA]
      obtain ⟨id, fr, ws, ns⟩ := x
      dsimp only at c1 c2 c3 c4 HR HF1 HT
      obtain ⟨L1, hL1⟩ : ∃ L1, ws.length = L1 := ⟨_, rfl⟩
      obtain ⟨L2, hL2⟩ : ∃ L2, ns.length = L2 := ⟨_, rfl⟩
      rw [hL1] at c3 HR
      rw [hL2] at c4 HR
      have hki : (0 : Int) ≤ k := by omega
      have hkb : (k : Int) < a := by omega
      clear hx h5 h6 h7 h8 h9 h10 hwx hL1 hL2 hR hLA
      have HBA : Hid (∀ o, Below w.heap.size w (wr.alloc o)) := fun o => HE.out.alloc HE.out.size o
      by_cases hr0 : R = 0
      · subst hr0
        by_cases hid : id ≤ LA
        · have t2 : decide (id ≤ LA) = true := decide_eq_true hid
          have HQ2 : Hid (q = (9, (k : Int))) := by
            show _ = _
            have h := HS.out
            rw [HF1.out, if_pos rfl, if_pos hid] at h
            exact h
          obtain rfl := HQ2.out
          clear hid HS HF1 HT HQ2 HQ
          go_wp2_with (first
            | (go_at_call 20; refine (HR.out _ (HBR.out _)).mono ?_; rintro e w2 ⟨rfl, hb2⟩; have HB2 := Lib.hid ((HBA.out _).trans (hb2.mono (HBA.out _).size)); have hcid := (hb2.cell (p := ⟨wr.heap.size, 0, none⟩) (by simp)); simp at hcid; clear hb2)
            | (go_at_call 55; refine (new_yes 9 (by omega) (by omega) _ (HN.out.kept HB2.out)).mono ?_; rintro e w' ⟨rfl, rfl⟩)
            | (go_at_call 54; refine (at_any (k : Int) _ [] 9 _ rfl).mono ?_; rintro e w3 ⟨y, rfl, hy, hb3⟩; have HY := Lib.hid hy; have HB3 := Lib.hid (HB2.out.trans (hb3.mono HB2.out.size)); clear hy hb3)
            | (go_at_call 53; refine (in_any 3 _ _ 9 _ HY.out).mono ?_; rintro e w4 ⟨z, rfl, hz, hb4⟩; have HZ := Lib.hid hz; have HB4 := Lib.hid (HB3.out.trans (hb4.mono HB3.out.size)); clear hz hb4))
          go_ret
          exact ⟨z, rfl, .inr ⟨by omega, by omega, HZ.out⟩, HB4.out⟩
        · have t2 : decide (id ≤ LA) = false := decide_eq_false hid
          have HQ2 : Hid (q = fb b1S (l.take (k + 1)) (l.drop (k + 1))) := by
            show _ = _
            have h := HS.out
            rw [HF1.out, if_pos rfl, if_neg hid, if_pos rfl] at h
            exact h
          clear hid HS HF1
          go_wp2_with (go_at_call 20; refine (HR.out _ (HBR.out _)).mono ?_; rintro e w2 ⟨rfl, hb2⟩; have HB2 := Lib.hid ((HBA.out _).trans (hb2.mono (HBA.out _).size)); have hcid := (hb2.cell (p := ⟨wr.heap.size, 0, none⟩) (by simp)); simp at hcid; clear hb2)
          go_roundw
          case rel => exact ⟨k + 1, by rw [HA.out]; omega, by go_num, by rw [HT.out], HQ.out.trans HQ2.out, HB2.out⟩
          case measure => simp [intOf]; omega
      · have t1 : ((R : Int) == 0) = false := by simp; omega
        have t2 : ((R : Int) != 0) = true := by simp; omega
        have HQ2 : Hid (q = (R, (k : Int))) := by
          show _ = _
          have h := HS.out
          rw [HF1.out, if_neg hr0, if_neg hr0] at h
          exact h
        obtain rfl := HQ2.out
        have HR1 : Hid (1 ≤ R ∧ R ≤ 18) := ⟨by omega, HRL.out⟩
        clear hr0 HS HF1 HT HQ2 HQ
        go_wp2_with (first
          | (go_at_call 20; refine (HR.out _ (HBR.out _)).mono ?_; rintro e w2 ⟨rfl, hb2⟩; have HB2 := Lib.hid ((HBA.out _).trans (hb2.mono (HBA.out _).size)); have hcid := (hb2.cell (p := ⟨wr.heap.size, 0, none⟩) (by simp)); simp at hcid; clear hb2)
          | (go_at_call 55; refine (new_yes R HR1.out.1 HR1.out.2 _ (HN.out.kept HB2.out)).mono ?_; rintro e w' ⟨rfl, rfl⟩)
          | (go_at_call 54; refine (at_any (k : Int) _ [] R _ rfl).mono ?_; rintro e w3 ⟨y, rfl, hy, hb3⟩; have HY := Lib.hid hy; have HB3 := Lib.hid (HB2.out.trans (hb3.mono HB2.out.size)); clear hy hb3)
          | (go_at_call 53; refine (in_any 3 _ _ R _ HY.out).mono ?_; rintro e w4 ⟨z, rfl, hz, hb4⟩; have HZ := Lib.hid hz; have HB4 := Lib.hid (HB3.out.trans (hb4.mono HB3.out.size)); clear hz hb4))
        go_ret
        exact ⟨z, rfl, .inr ⟨HR1.out.1, HR1.out.2, by have h := HZ.out; have e : sec3 R = 3 := (by unfold sec3; rw [if_neg (by have := HR1.out.1; omega)]); rw [e]; exact h⟩, HB4.out⟩
    · obtain rfl : k = a := by omega
      have HQ2 : Hid (q = (0, 0)) := by
        show _ = _
        have h := HQ.out.symm.trans HB.out
        rw [← HA.out, fb_end] at h
        exact h
      obtain rfl := HQ2.out
      clear HQ2 HQ HB
      go_wp2
      go_ret
      exact ⟨.nilIface, rfl, .inl ⟨rfl, rfl, rfl, rfl⟩, HE.out⟩
def ERel (l : List SC) (w : World) (i : Value) (wr : World) : Prop :=
  ∃ k : Nat, k ≤ l.length ∧ i = .int .i64 k ∧ badS l = fb b1S (l.take k) (l.drop k) ∧ wr.heap[w.heap.size]? = some (.cells #[.int .i64 0, .int .i64 0, .int .i64 0] 32 (0, 0)) ∧ Below w.heap.size w wr
set_option maxRecDepth 8000 in
set_option maxHeartbeats 3200000 in
theorem swrong09_any (A : Option Addr) (cap : Nat) (l : List SC) (w : World) (h1 : ScdAt w A l) (hw : ∀ x ∈ l, WideS x) (hl : l.length ≤ 1000) :
    Calls Tryd.prog 9 #[.slice A l.length cap] w fun e w' => e = .returned (fltV (badS l).1 (sec3 (badS l).1) (badS l).2) ∧ Below w.heap.size w w' := by
  have H1 := Lib.hid h1
  have HW := Lib.hid hw
  obtain ⟨a, ha⟩ : ∃ a, l.length = a := ⟨_, rfl⟩
  have HA := Lib.hid ha
  rw [ha] at hl
  rw [ha]
  obtain ⟨q, hq⟩ : ∃ q, badS l = q := ⟨_, rfl⟩
  have HQ := Lib.hid hq
  rw [hq]
  have HO := fun a b c => Lib.hid (one_flt a b c)
  have HB0 : Hid (Below w.heap.size w (w.alloc (.cells #[.int .i64 0, .int .i64 0, .int .i64 0] 32))) := (Below.refl _ _).alloc (Nat.le_refl _) _
  have HF0 := Lib.hid (heap_alloc_new w (.cells #[.int .i64 0, .int .i64 0, .int .i64 0] 32))
  unfold fltV
  clear h1 hw ha hq
  go_enter Tryd.func9, Tryd.ntmps9
  go_wp2
  go_loopw [3] (fun i wr => ERel l w i wr) (fun i _ => a - (intOf i).toNat)
  case atStart => exact ⟨0, Nat.zero_le _, rfl, by simp [badS], HF0.out, HB0.out⟩
  case round =>
    obtain ⟨k, hk, rfl, hb, hf, hbel⟩ := hrel
    have HB := Lib.hid hb
    have HE := Lib.hid hbel
    have HF := Lib.hid hf
    have hka : k ≤ a := by rw [← HA.out]; exact hk
    clear hb hk hbel hf HB0 HF0
    by_cases hlt : k < a
    · obtain ⟨x, hx⟩ : ∃ x, l[k]? = some x := ⟨_, List.getElem?_eq_getElem (by rw [HA.out]; exact hlt)⟩
      have HPK := Lib.hid (H1.out.kept HE.out)
      obtain ⟨ax, B, cb, C, cc, rfl, c1, c2, c3, c4, h5, _, h6, h7, h8, _, h9, h10⟩ := HPK.out k x hx
      have hwx := HW.out x (List.mem_of_getElem? hx)
      have HR : Hid (Calls Tryd.prog 21 #[.agg #[.int .i64 x.id, .int .i64 x.fr, .slice B x.ws.length cb, .slice C x.ns.length cc]] wr fun e w' => e = .returned (.int .i64 (rgS x)) ∧ Below wr.heap.size wr w') := sright09_any x B cb C cc wr h5 h8 (Nat.le_trans h6 h7) (Nat.le_trans h9 h10)
      have HS := Lib.hid ((HB.out.symm.trans HQ.out).symm.trans (fb_step b1S l k x hx))
      have HF1 : Hid (b1S (l.take k) x = if rgS x = 0 then (if x.id ≤ lastS (l.take k) then 9 else 0) else rgS x) := rfl
      have HI := Lib.hid (rgS_id (x := x))
      have HX := Lib.hid hx
      obtain ⟨R, hR⟩ : ∃ R, rgS x = R := ⟨_, rfl⟩
      rw [hR] at HR HF1 HI
      obtain ⟨id, fr, ws, ns⟩ := x
      dsimp only at c1 c2 c3 c4 HR HF1 HI
      obtain ⟨L1, hL1⟩ : ∃ L1, ws.length = L1 := ⟨_, rfl⟩
      obtain ⟨L2, hL2⟩ : ∃ L2, ns.length = L2 := ⟨_, rfl⟩
      rw [hL1] at c3 HR
      rw [hL2] at c4 HR
      have hki : (0 : Int) ≤ k := by omega
      have hkb : (k : Int) < a := by omega
      clear hx h5 h6 h7 h8 h9 h10 hwx hL1 hL2 hR
      by_cases hr0 : R = 0
      · subst hr0
        have h0id : 0 ≤ id := HI.out rfl
        rcases Nat.eq_zero_or_pos k with hk0 | hk0
        · have HQ2 : Hid (q = fb b1S (l.take (k + 1)) (l.drop (k + 1))) := by
            show _ = _
            have h := HS.out
            have e0 : lastS (l.take k) = -1 := by rw [hk0]; rfl
            rw [HF1.out, if_pos rfl, e0, if_neg (show ¬ id ≤ -1 by omega), if_pos rfl] at h
            exact h
          have tk : decide ((0 : Int) < (k : Int)) = false := decide_eq_false (by omega)
          have tk2 : decide (0 < k) = false := decide_eq_false (by omega)
          clear HS HF1 HI hk0 h0id
          go_wp2_with (go_at_call 21; refine (HR.out).mono ?_; rintro e w2 ⟨rfl, hb2⟩; have HB2 := Lib.hid (HE.out.trans (hb2.mono HE.out.size)); have HF2 := Lib.hid ((hb2.block _ (lt_of_block HF.out)).trans HF.out); have HP2 := Lib.hid (HPK.out.kept hb2); clear hb2)
          go_quiet (fail)
          go_wp2
          go_roundw
          case rel => exact ⟨k + 1, by rw [HA.out]; omega, by go_num, HQ.out.trans HQ2.out, HF2.out, below_drewN HB2.out _⟩
          case measure => simp [intOf]; omega
        · obtain ⟨j, rfl⟩ : ∃ j, k = j + 1 := ⟨k - 1, by omega⟩
          obtain ⟨y, hy⟩ : ∃ y, l[j]? = some y := ⟨_, List.getElem?_eq_getElem (by rw [HA.out]; omega)⟩
          have HLA : Hid (lastS (l.take (j + 1)) = y.id) := by show _ = _; rw [take_snoc l j y hy, lastS_snoc]
          have HY := Lib.hid hy
          obtain ⟨LA, hLA⟩ : ∃ LA, y.id = LA := ⟨_, rfl⟩
          rw [hLA] at HLA
          have HLA2 := Lib.hid hLA
          have tk : decide ((0 : Int) < ((j + 1 : Nat) : Int)) = true := decide_eq_true (by omega)
          have hj1 : IntKind.i64.wrap (((j + 1 : Nat) : Int) - 1) = (j : Int) := by rw [IntKind.wrap_i64]; omega
          have hj0 : (0 : Int) ≤ (j : Int) := by omega
          have hja : (j : Int) < a := by omega
          have HCJ : Hid (∀ W : World, ScdAt W (some ax) l → W.cell? (ax.add (j * 4)) = some (.int .i64 LA)) := fun W hW => by
            obtain ⟨y', _, _, _, _, e, h, _⟩ := hW j y HY.out
            obtain rfl := Option.some.inj e
            rw [h, HLA2.out]
          have HCK : Hid (∀ W : World, ScdAt W (some ax) l → W.cell? (ax.add ((j + 1) * 4)) = some (.int .i64 id)) := fun W hW => by
            obtain ⟨y', _, _, _, _, e, h, _⟩ := hW (j + 1) _ HX.out
            obtain rfl := Option.some.inj e
            exact h
          clear hy hLA hk0
          by_cases hid : id ≤ LA
          · have t2 : decide (id ≤ LA) = true := decide_eq_true hid
            have HQ2 : Hid (q = (9, ((j + 1 : Nat) : Int))) := by
              show _ = _
              have h := HS.out
              rw [HF1.out, if_pos rfl, HLA.out, if_pos hid] at h
              exact h
            obtain rfl := HQ2.out
            clear hid HS HF1 HQ2 HQ HI h0id
            go_wp2_with (go_at_call 21; refine (HR.out).mono ?_; rintro e w2 ⟨rfl, hb2⟩; have HB2 := Lib.hid (HE.out.trans (hb2.mono HE.out.size)); have HF2 := Lib.hid ((hb2.block _ (lt_of_block HF.out)).trans HF.out); have HP2 := Lib.hid (HPK.out.kept hb2); clear hb2)
            have d1 := HCJ.out _ HP2.out
            have d2 := HCK.out _ HP2.out
            go_quiet (fail)
            have HF3 : Hid ((w2.drewN nq).heap[w.heap.size]? = some (.cells #[.int .i64 0, .int .i64 0, .int .i64 0] 32 (0, 0))) := HF2.out
            go_wp2_with ((with_reducible show wpList _ _ _ _ _ _); refine wpList_store_row rfl 32 (.tmp 2) (.tmp 40) rfl w.heap.size #[.int .i64 9, .int .i64 3, .int .i64 (j + 1 : Nat)] rfl rfl 32 #[.int .i64 0, .int .i64 0, .int .i64 0] HF3.out (by rw [size_flt]; rfl) rfl (HO _ _ _).out ?_)
            refine bodyPost_ret (v := .agg #[.int .i64 9, .int .i64 3, .int .i64 (j + 1 : Nat)]) (results_cell_row (by rfl) _ _ w.heap.size 32 _ (0, 0) _ rfl (setRow_heap _ _ _ _ _ _ HF3.out) Tryd.underlying32 rfl (by rw [size_flt]; rfl)) rfl ⟨rfl, ?_⟩
            exact below_set2 (below_drewN HB2.out _) (Nat.le_refl _)
          · have t2 : decide (id ≤ LA) = false := decide_eq_false hid
            have HQ2 : Hid (q = fb b1S (l.take (j + 1 + 1)) (l.drop (j + 1 + 1))) := by
              show _ = _
              have h := HS.out
              rw [HF1.out, if_pos rfl, HLA.out, if_neg hid, if_pos rfl] at h
              exact h
            clear hid HS HF1 HI h0id
            go_wp2_with (go_at_call 21; refine (HR.out).mono ?_; rintro e w2 ⟨rfl, hb2⟩; have HB2 := Lib.hid (HE.out.trans (hb2.mono HE.out.size)); have HF2 := Lib.hid ((hb2.block _ (lt_of_block HF.out)).trans HF.out); have HP2 := Lib.hid (HPK.out.kept hb2); clear hb2)
            have d1 := HCJ.out _ HP2.out
            have d2 := HCK.out _ HP2.out
            go_quiet (fail)
            go_wp2
            go_roundw
            case rel => exact ⟨j + 1 + 1, by rw [HA.out]; omega, by go_num, HQ.out.trans HQ2.out, HF2.out, below_drewN HB2.out _⟩
            case measure => simp [intOf]; omega
      · have t1 : ((R : Int) == 0) = false := by simp; omega
        have t2 : ((R : Int) != 0) = true := by simp; omega
        have HQ2 : Hid (q = (R, (k : Int))) := by
          show _ = _
          have h := HS.out
          rw [HF1.out, if_neg hr0, if_neg hr0] at h
          exact h
        obtain rfl := HQ2.out
        have HS2 : Hid (sec3 R = 3) := by show _ = _; unfold sec3; rw [if_neg hr0]
        clear hr0 HS HF1 HQ2 HQ HI
        go_wp2_with (go_at_call 21; refine (HR.out).mono ?_; rintro e w2 ⟨rfl, hb2⟩; have HB2 := Lib.hid (HE.out.trans (hb2.mono HE.out.size)); have HF2 := Lib.hid ((hb2.block _ (lt_of_block HF.out)).trans HF.out); clear hb2)
        go_quiet (fail)
        have HF3 : Hid ((w2.drewN nq).heap[w.heap.size]? = some (.cells #[.int .i64 0, .int .i64 0, .int .i64 0] 32 (0, 0))) := HF2.out
        go_wp2_with ((with_reducible show wpList _ _ _ _ _ _); refine wpList_store_row rfl 32 (.tmp 2) (.tmp 40) rfl w.heap.size #[.int .i64 R, .int .i64 3, .int .i64 k] rfl rfl 32 #[.int .i64 0, .int .i64 0, .int .i64 0] HF3.out (by rw [size_flt]; rfl) rfl (HO _ _ _).out ?_)
        refine bodyPost_ret (v := .agg #[.int .i64 R, .int .i64 3, .int .i64 k]) (results_cell_row (by rfl) _ _ w.heap.size 32 _ (0, 0) _ rfl (setRow_heap _ _ _ _ _ _ HF3.out) Tryd.underlying32 rfl (by rw [size_flt]; rfl)) rfl ⟨?_, ?_⟩
        · show Ending.returned (.agg #[.int .i64 R, .int .i64 3, .int .i64 k]) = Ending.returned (.agg #[.int .i64 R, .int .i64 (sec3 R), .int .i64 k]); rw [HS2.out]
        · exact below_set2 (below_drewN HB2.out _) (Nat.le_refl _)
    · obtain rfl : k = a := by omega
      have HQ2 : Hid (q = (0, 0)) := by
        show _ = _
        have h := HQ.out.symm.trans HB.out
        rw [← HA.out, fb_end] at h
        exact h
      obtain rfl := HQ2.out
      clear HQ2 HQ HB
      go_wp2_with ((with_reducible show wpList _ _ _ _ _ _); refine wpList_store_row rfl 32 (.tmp 2) (.tmp 41) rfl w.heap.size #[.int .i64 0, .int .i64 0, .int .i64 0] rfl rfl 32 #[.int .i64 0, .int .i64 0, .int .i64 0] HF.out (by rw [size_flt]; rfl) rfl (HO _ _ _).out ?_)
      refine bodyPost_ret (v := .agg #[.int .i64 0, .int .i64 0, .int .i64 0]) (results_cell_row (by rfl) _ _ w.heap.size 32 _ (0, 0) _ rfl (setRow_heap _ _ _ _ _ _ HF.out) Tryd.underlying32 rfl (by rw [size_flt]; rfl)) rfl ⟨rfl, ?_⟩
      exact below_set2 HE.out (Nat.le_refl _)
end Go.Proofs.YtbcjkongcnpdlaaDoor.Scd

namespace Go.Proofs.YtbcjkongcnpdlaaDoor.Scd

open Go.RowKit Go.PlainAid Go.Proofs.YtbcjkongcnpdlaaDoor.Oct Go.Proofs.YtbcjkongcnpdlaaDoor.Flt Go.Proofs.YtbcjkongcnpdlaaDoor.Rdr Go.Proofs.YtbcjkongcnpdlaaDoor.Act

open Go.Proofs.YtbcjkongcnpdlaaDoor.Prt (fb fb_step fb_end take_snoc QPost qpost)

open Go.Proofs.YtbcjkongcnpdlaaDoor.Hdr (own_bytes owns_base iface_of_wrong)

open Go.Proofs.YtbcjkongcnpdlaaDoor.Byt (bytes_kept own_open clone_any)

set_option linter.unusedVariables false

set_option linter.unusedSimpArgs false

def OPost (n : Nat) (ys : List Int) (w : World) (e : Ending) (w' : World) : Prop := ∃ G c : Nat, e = .returned (.slice (some ⟨G, 0, none⟩) n c) ∧ w'.ownsRow w.heap.size 5 1 (.slice (some ⟨G, 0, none⟩) n c) n (ys.map (Value.int .u8)) ∧ Below w.heap.size w w'
set_option maxRecDepth 4000 in
theorem number_any (v n : Nat) (w : World) (hn : n = 1 ∨ n = 2 ∨ n = 4) (hv : v < 256 ^ n) :
    Calls Tryd.prog 26 #[.int .i64 v, .int .i64 n] w (OPost n (low v n) w) := by
  have hv4 : v ≤ 4294967295 := by rcases hn with rfl | rfl | rfl <;> omega
  have hw1 : IntKind.u64.wrap (v : Int) = v := by rw [IntKind.wrap_u64]; omega
  have HP : Hid (Calls Tryd.prog 56 #[.slice none 0 0, .int .u64 v, .int .i64 n] w (PutPost w [] true (low v n))) := put_yes none 0 0 [] v n w ⟨rfl, fun h => absurd h (by omega)⟩ (by omega) (by omega) (by rcases hn with rfl | rfl | rfl <;> (unfold fitB; simp; omega))
  clear hv hv4
  go_enter Tryd.func26, Tryd.ntmps26
  go_wp2_with fail
  refine HP.out.mono ?_
  intro e w1 hp
  obtain ⟨G, n1, k1, rfl, hn1, hg1, ho1, hb1⟩ := qpost hp
  rw [List.nil_append] at hn1 ho1
  have hl : n1 = n := by rw [hn1, low_length]
  subst hl
  have HO := Lib.hid ho1
  have HB := Lib.hid hb1
  clear ho1 hb1 hn1 hg1 hp
  go_wp2
  go_ret
  exact ⟨G, k1, rfl, HO.out, HB.out⟩
def tkBy (l : List Nat) : List Int := l.flatMap fun v => low v 4
theorem tkBy_len (l : List Nat) : (tkBy l).length = l.length * 4 := by
  induction l with
  | nil => rfl
  | cons x l ih =>
    have : tkBy (x :: l) = low x 4 ++ tkBy l := rfl
    rw [this, List.length_append, ih, low_length, List.length_cons]; omega
theorem tkBy_snoc (l : List Nat) (x : Nat) : tkBy (l ++ [x]) = tkBy l ++ low x 4 := by simp [tkBy]
def NRel (id : Nat) (l : List Nat) (w : World) (v i : Value) (wr : World) : Prop := ∃ k : Nat, k ≤ l.length ∧ i = .int .i64 k ∧ wr.ownsRow w.heap.size 5 1 v (1 + k * 4) ((low id 1 ++ tkBy (l.take k)).map (Value.int .u8)) ∧ Below w.heap.size w wr
set_option maxRecDepth 4000 in
set_option maxHeartbeats 1600000 in
theorem numbers_any (id : Nat) (l : List Nat) (g : Nat) (w : World) (hid : id ≤ 255) (hc : w.heap[g]? = some (.cells (l.map (fun v : Nat => Value.int .i64 v)).toArray 3 (0, 0))) (hw : ∀ v ∈ l, v ≤ 4294967295) (hl : l.length ≤ 100) :
    Calls Tryd.prog 25 #[.int .i64 id, .slice (some ⟨g, 0, none⟩) l.length l.length] w (OPost (1 + l.length * 4) (low id 1 ++ tkBy l) w) := by
  obtain ⟨i0, hi, hz0, hz1, hz2⟩ := info_parts infoU8
  have HC := Lib.hid hc
  have HW := Lib.hid hw
  have HNU := Lib.hid (fun v w h => number_any v 4 w (by omega) h)
  have HN1 := Lib.hid (number_any id 1 w (by omega) (by omega))
  obtain ⟨a, ha⟩ : ∃ a, l.length = a := ⟨_, rfl⟩
  have HA := Lib.hid ha
  rw [ha] at hl
  rw [ha]
  clear hc hw ha
  go_enter Tryd.func25, Tryd.ntmps25
  go_wp2_with fail
  refine HN1.out.mono ?_
  rintro e w1 ⟨G1, c1, rfl, ho1, hb1⟩
  have HO1 : Hid (w1.ownsRow w.heap.size 5 1 (.slice (some ⟨G1, 0, none⟩) 1 c1) (1 + 0 * 4) ((low id 1 ++ tkBy (l.take 0)).map (Value.int .u8))) := by
    show World.ownsRow _ _ _ _ _ _ _
    simpa [tkBy] using ho1
  have HB1 := Lib.hid hb1
  clear ho1 hb1 HN1
  go_wp2
  go_loopw [5, 12] (fun v i wr => NRel id l w v i wr) (fun _ i _ => a - (intOf i).toNat)
  case atStart => exact ⟨0, Nat.zero_le _, rfl, HO1.out, HB1.out⟩
  case round =>
    obtain ⟨k, hk, rfl, ho, hbel⟩ := hrel
    have hka : k ≤ a := by rw [← HA.out]; exact hk
    have HOO := Lib.hid ho
    have HE := Lib.hid hbel
    clear hk ho hbel HO1 HB1
    by_cases hlt : k < a
    · obtain ⟨v, hv⟩ : ∃ v, l[k]? = some v := ⟨_, List.getElem?_eq_getElem (by rw [HA.out]; exact hlt)⟩
      have hvm := HW.out v (List.mem_of_getElem? hv)
      have hrow := (HE.out.block _ (lt_of_block HC.out)).trans HC.out
      obtain ⟨ax, hax⟩ : ∃ ax : Addr, (⟨g, 0, none⟩ : Addr) = ax := ⟨_, rfl⟩
      have c1 : wr.cell? (ax.add k) = some (.int .i64 v) := by
        rw [← hax, show (Addr.mk g 0 none).add k = ⟨g, k, none⟩ by cases k <;> simp [Addr.add], cell_of_row wr _ _ _ _ _ hrow]
        simp [hv]
      have HNV := Lib.hid (HNU.out v wr (by omega))
      have HT : Hid (tkBy (l.take (k + 1)) = tkBy (l.take k) ++ low v 4) := by show _ = _; rw [take_snoc l k v hv, tkBy_snoc]
      have hki : (0 : Int) ≤ k := by omega
      have hkb : (k : Int) < a := by omega
      have HAX := Lib.hid hax
      rw [hax]
      obtain ⟨BPQ, hBPQ⟩ : ∃ BPQ, low v 4 = BPQ := ⟨_, rfl⟩
      have HPL : Hid (BPQ.length = 4) := by show _ = _; rw [← hBPQ, low_length]
      rw [hBPQ] at HNV HT
      clear hv hvm hrow hax hBPQ
      go_wp2_with fail
      refine HNV.out.mono ?_
      rintro e w3 ⟨G3, k3, rfl, ho3, hb3⟩
      have HB6 := Lib.hid (HE.out.trans (hb3.mono HE.out.size))
      have HO6 := Lib.hid (Byt.owns_kept HOO.out hb3)
      have HAT := Lib.hid (Byt.bytes_at (own_bytes ho3))
      clear ho3 hb3 c1
      go_wp2_with (at_builtin; refine wpList_append_own _ rfl _ _ 22 rfl w.heap.size 5 i0 (.int .u8 0) 1 1 underU8 hi hz0 hz1 hz2 rfl (by decide) _ (1 + k * 4) _ rfl HO6.out ⟨G3, 0, none⟩ 4 k3 (BPQ.map (Value.int .u8)) rfl ?c1 ?c2 ?c3 ?c4 ?c5 ?c6 ?_)
      case c1 => rw [List.length_map, HPL.out]
      case c2 => exact HAT.out
      case c3 => exact ints_oneCell _ _
      case c4 => unfold maxLen; omega
      case c5 => omega
      case c6 => exact HB6.out.size
      intro v' w7 ho7 hg7 _
      have HB7 := Lib.hid (HB6.out.grown hg7 HB6.out.size (fun j hj => (HO6.out.lt j hj).1))
      have HO7 : Hid (w7.ownsRow w.heap.size 5 1 v' (1 + (k + 1) * 4) ((low id 1 ++ tkBy (l.take (k + 1))).map (Value.int .u8))) := by
        rw [HT.out]
        show World.ownsRow _ _ _ _ _ _ _
        rw [show 1 + (k + 1) * 4 = 1 + k * 4 + 4 by omega]
        simpa [List.append_assoc] using ho7
      clear ho7 hg7
      go_wp2
      go_roundw
      case rel => exact ⟨k + 1, by rw [HA.out]; omega, by go_num, HO7.out, HB7.out⟩
      case measure => simp [intOf]; omega
    · have hke : k = a := by omega
      have hnl : ¬ (k : Int) < a := by omega
      have HT : Hid (l.take k = l) := by show _ = _; rw [List.take_of_length_le (by rw [HA.out]; omega)]
      obtain ⟨G, c, rfl, _, _, _⟩ := own_open HOO.out (by omega)
      have HF : Hid (wr.ownsRow w.heap.size 5 1 (.slice (some ⟨G, 0, none⟩) (1 + k * 4) c) (1 + k * 4) ((low id 1 ++ tkBy l).map (Value.int .u8))) := by show World.ownsRow _ _ _ _ _ _ _; have h := HOO.out; rw [HT.out] at h; exact h
      have HKE := Lib.hid hke
      clear hke
      go_wp2
      go_ret
      exact ⟨G, c, by rw [← HKE.out]; rfl, by rw [← HKE.out]; exact HF.out, HE.out⟩
def rowBy (x : A3) : List Int := low x.s.toNat 1 ++ tkBy [x.p.toNat, x.a.toNat]
def rowsBy (l : List A3) : List Int := l.flatMap rowBy
theorem rowBy_len (x : A3) : (rowBy x).length = 9 := by unfold rowBy; rw [List.length_append, low_length, tkBy_len]; rfl
theorem rowsBy_len (l : List A3) : (rowsBy l).length = l.length * 9 := by
  induction l with
  | nil => rfl
  | cons x l ih =>
    have : rowsBy (x :: l) = rowBy x ++ rowsBy l := rfl
    rw [this, List.length_append, ih, rowBy_len, List.length_cons]; omega
theorem rowsBy_snoc (l : List A3) (x : A3) : rowsBy (l ++ [x]) = rowsBy l ++ rowBy x := by simp [rowsBy]
theorem rowB_in {x : A3} (h : rowB x = true) : (0 ≤ x.s ∧ x.s ≤ 255) ∧ (0 ≤ x.p ∧ x.p ≤ 1048576) ∧ (0 ≤ x.a ∧ x.a ≤ 1048576) := by
  unfold rowB tkB idB at h
  simp at h
  omega
theorem assWW (v : Value) (w : World) : (Instr.typeAssert (.iface 59 v) 20 59 true).run Tryd.prog w = .ok (.tuple #[v, .bool true]) w := by kernel_rfl
theorem assNW (v : Value) (w : World) : (Instr.typeAssert (.iface 68 v) 20 59 true).run Tryd.prog w = .ok (.tuple #[.agg #[.int .i64 0, .int .i64 0, .int .i64 0], .bool false]) w := by kernel_rfl
theorem assNN (v : Value) (w : World) : (Instr.typeAssert (.iface 68 v) 20 68 true).run Tryd.prog w = .ok (.tuple #[v, .bool true]) w := by kernel_rfl
def BPost (n : Nat) (ys : List Int) (w : World) (e : Ending) (w' : World) : Prop := ∃ V, e = .returned V ∧ w'.ownsRow w.heap.size 5 1 V n (ys.map (Value.int .u8)) ∧ Below w.heap.size w w'
def BRel (l : List A3) (w : World) (v i : Value) (wr : World) : Prop := ∃ k : Nat, k ≤ l.length ∧ i = .int .i64 k ∧ wr.ownsRow w.heap.size 5 1 v (k * 9) ((rowsBy (l.take k)).map (Value.int .u8)) ∧ Below w.heap.size w wr
set_option maxRecDepth 8000 in
set_option maxHeartbeats 3200000 in
theorem bytesW_any (A : Option Addr) (cap : Nat) (l : List A3) (w : World) (h1 : ActsAt w A l) (hr : ∀ x ∈ l, rowB x = true) (hl : l.length ≤ 1000) :
    Calls Tryd.prog 27 #[.slice A l.length cap] w (BPost (l.length * 9) (rowsBy l) w) := by
  obtain ⟨i0, hi, hz0, hz1, hz2⟩ := info_parts infoU8
  have H1 := Lib.hid h1
  have HR := Lib.hid hr
  obtain ⟨a, ha⟩ : ∃ a, l.length = a := ⟨_, rfl⟩
  have HA := Lib.hid ha
  rw [ha] at hl
  rw [ha]
  clear h1 hr ha
  go_enter Tryd.func27, Tryd.ntmps27
  go_wp2
  go_loopw [3, 10] (fun v i wr => BRel l w v i wr) (fun _ i _ => a - (intOf i).toNat)
  case atStart => exact ⟨0, Nat.zero_le _, rfl, World.ownsRow_nil _ _ _ _, Below.refl _ _⟩
  case round =>
    obtain ⟨k, hk, rfl, ho, hbel⟩ := hrel
    have hka : k ≤ a := by rw [← HA.out]; exact hk
    have HOO := Lib.hid ho
    have HE := Lib.hid hbel
    clear hk ho hbel
    by_cases hlt : k < a
    · obtain ⟨x, hx⟩ : ∃ x, l[k]? = some x := ⟨_, List.getElem?_eq_getElem (by rw [HA.out]; exact hlt)⟩
      obtain ⟨ax, rfl, c1, c2, c3⟩ := (H1.out.kept HE.out) k x hx
      obtain ⟨⟨s0, s1⟩, ⟨p0, p1⟩, ⟨a0, a1⟩⟩ := rowB_in (HR.out x (List.mem_of_getElem? hx))
      have HT : Hid (rowsBy (l.take (k + 1)) = rowsBy (l.take k) ++ rowBy x) := by show _ = _; rw [take_snoc l k x hx, rowsBy_snoc]
      obtain ⟨s, p, q⟩ := x
      dsimp only at *
      obtain ⟨s, rfl⟩ := Int.eq_ofNat_of_zero_le s0
      obtain ⟨p, rfl⟩ := Int.eq_ofNat_of_zero_le p0
      obtain ⟨q, rfl⟩ := Int.eq_ofNat_of_zero_le a0
      have HNU : Hid (∀ (W : World) (g : Nat), W.heap[g]? = some (.cells #[.int .i64 p, .int .i64 q] 3 (0, 0)) → Calls Tryd.prog 25 #[.int .i64 s, .slice (some ⟨g, 0, none⟩) 2 2] W (OPost 9 (rowBy ⟨s, p, q⟩) W)) := fun W g h => numbers_any s [p, q] g W (by omega) h (by intro v hv; simp at hv; omega) (by show 2 ≤ 100; omega)
      obtain ⟨BPQ, hBPQ⟩ : ∃ BPQ, rowBy ⟨s, p, q⟩ = BPQ := ⟨_, rfl⟩
      have HPL : Hid (BPQ.length = 9) := by show _ = _; rw [← hBPQ]; exact rowBy_len _
      rw [hBPQ] at HNU HT
      have hki : (0 : Int) ≤ k := by omega
      have hkb : (k : Int) < a := by omega
      clear hx s0 s1 p0 p1 a0 a1 hBPQ
      have q1 := assWW
      go_wp2_with fail
      have h3 := Hdr.third_facts wr (.cells #[.int .i64 s, .int .i64 p, .int .i64 q] 59) (.cells #[.int .i64 s, .int .i64 p, .int .i64 q] 59) (.cells #[.int .i64 p, .int .i64 q] 3)
      have HBA := Lib.hid h3.2.2
      refine (HNU.out _ (wr.heap.size + 1 + 1) h3.2.1).mono ?_
      rintro e w3 ⟨G3, k3, rfl, ho3, hb3⟩
      have HBX := Lib.hid (HBA.out.trans (hb3.mono HBA.out.size))
      have HB6 := Lib.hid (HE.out.trans (HBX.out.mono HE.out.size))
      have HO6 := Lib.hid (Byt.owns_kept HOO.out HBX.out)
      have HAT := Lib.hid (Byt.bytes_at (own_bytes ho3))
      clear ho3 hb3 c1 c2 c3 h3 HNU
      go_wp2_with (at_builtin; refine wpList_append_own _ rfl _ _ 22 rfl w.heap.size 5 i0 (.int .u8 0) 1 1 underU8 hi hz0 hz1 hz2 rfl (by decide) _ (k * 9) _ rfl HO6.out ⟨G3, 0, none⟩ 9 k3 (BPQ.map (Value.int .u8)) rfl ?c1 ?c2 ?c3 ?c4 ?c5 ?c6 ?_)
      case c1 => rw [List.length_map, HPL.out]
      case c2 => exact HAT.out
      case c3 => exact ints_oneCell _ _
      case c4 => unfold maxLen; omega
      case c5 => omega
      case c6 => exact HB6.out.size
      intro v' w7 ho7 hg7 _
      have HB7 := Lib.hid (HB6.out.grown hg7 HB6.out.size (fun j hj => (HO6.out.lt j hj).1))
      have HO7 : Hid (w7.ownsRow w.heap.size 5 1 v' ((k + 1) * 9) ((rowsBy (l.take (k + 1))).map (Value.int .u8))) := by
        rw [HT.out]
        show World.ownsRow _ _ _ _ _ _ _
        rw [show (k + 1) * 9 = k * 9 + 9 by omega]
        simpa [List.append_assoc] using ho7
      clear ho7 hg7
      go_wp2
      go_roundw
      case rel => exact ⟨k + 1, by rw [HA.out]; omega, by go_num, HO7.out, HB7.out⟩
      case measure => simp [intOf]; omega
    · have hke : k = a := by omega
      have hnl : ¬ (k : Int) < a := by omega
      have HT : Hid (l.take k = l) := by show _ = _; rw [List.take_of_length_le (by rw [HA.out]; omega)]
      have HKE := Lib.hid hke
      clear hke
      go_wp2
      go_ret
      exact ⟨_, rfl, by have h := HOO.out; rw [HT.out] at h; rw [← HKE.out]; exact h, HE.out⟩
set_option maxRecDepth 8000 in
set_option maxHeartbeats 3200000 in
theorem bytesN_any (A : Option Addr) (cap : Nat) (l : List A3) (w : World) (h1 : ActsAt w A l) (hr : ∀ x ∈ l, rowB x = true) (hl : l.length ≤ 1000) :
    Calls Tryd.prog 28 #[.slice A l.length cap] w (BPost (l.length * 9) (rowsBy l) w) := by
  obtain ⟨i0, hi, hz0, hz1, hz2⟩ := info_parts infoU8
  have H1 := Lib.hid h1
  have HR := Lib.hid hr
  obtain ⟨a, ha⟩ : ∃ a, l.length = a := ⟨_, rfl⟩
  have HA := Lib.hid ha
  rw [ha] at hl
  rw [ha]
  clear h1 hr ha
  go_enter Tryd.func28, Tryd.ntmps28
  go_wp2
  go_loopw [3, 10] (fun v i wr => BRel l w v i wr) (fun _ i _ => a - (intOf i).toNat)
  case atStart => exact ⟨0, Nat.zero_le _, rfl, World.ownsRow_nil _ _ _ _, Below.refl _ _⟩
  case round =>
    obtain ⟨k, hk, rfl, ho, hbel⟩ := hrel
    have hka : k ≤ a := by rw [← HA.out]; exact hk
    have HOO := Lib.hid ho
    have HE := Lib.hid hbel
    clear hk ho hbel
    by_cases hlt : k < a
    · obtain ⟨x, hx⟩ : ∃ x, l[k]? = some x := ⟨_, List.getElem?_eq_getElem (by rw [HA.out]; exact hlt)⟩
      obtain ⟨ax, rfl, c1, c2, c3⟩ := (H1.out.kept HE.out) k x hx
      obtain ⟨⟨s0, s1⟩, ⟨p0, p1⟩, ⟨a0, a1⟩⟩ := rowB_in (HR.out x (List.mem_of_getElem? hx))
      have HT : Hid (rowsBy (l.take (k + 1)) = rowsBy (l.take k) ++ rowBy x) := by show _ = _; rw [take_snoc l k x hx, rowsBy_snoc]
      obtain ⟨s, p, q⟩ := x
      dsimp only at *
      obtain ⟨s, rfl⟩ := Int.eq_ofNat_of_zero_le s0
      obtain ⟨p, rfl⟩ := Int.eq_ofNat_of_zero_le p0
      obtain ⟨q, rfl⟩ := Int.eq_ofNat_of_zero_le a0
      have HNU : Hid (∀ (W : World) (g : Nat), W.heap[g]? = some (.cells #[.int .i64 p, .int .i64 q] 3 (0, 0)) → Calls Tryd.prog 25 #[.int .i64 s, .slice (some ⟨g, 0, none⟩) 2 2] W (OPost 9 (rowBy ⟨s, p, q⟩) W)) := fun W g h => numbers_any s [p, q] g W (by omega) h (by intro v hv; simp at hv; omega) (by show 2 ≤ 100; omega)
      obtain ⟨BPQ, hBPQ⟩ : ∃ BPQ, rowBy ⟨s, p, q⟩ = BPQ := ⟨_, rfl⟩
      have HPL : Hid (BPQ.length = 9) := by show _ = _; rw [← hBPQ]; exact rowBy_len _
      rw [hBPQ] at HNU HT
      have hki : (0 : Int) ≤ k := by omega
      have hkb : (k : Int) < a := by omega
      clear hx s0 s1 p0 p1 a0 a1 hBPQ
      have q1 := assNW
      have q2 := assNN
      go_wp2_with fail
      have h3 := Hdr.third_facts wr (.cells #[.int .i64 s, .int .i64 p, .int .i64 q] 68) (.cells #[.int .i64 s, .int .i64 p, .int .i64 q] 68) (.cells #[.int .i64 p, .int .i64 q] 3)
      have HBA := Lib.hid h3.2.2
      refine (HNU.out _ (wr.heap.size + 1 + 1) h3.2.1).mono ?_
      rintro e w3 ⟨G3, k3, rfl, ho3, hb3⟩
      have HBX := Lib.hid (HBA.out.trans (hb3.mono HBA.out.size))
      have HB6 := Lib.hid (HE.out.trans (HBX.out.mono HE.out.size))
      have HO6 := Lib.hid (Byt.owns_kept HOO.out HBX.out)
      have HAT := Lib.hid (Byt.bytes_at (own_bytes ho3))
      clear ho3 hb3 c1 c2 c3 h3 HNU
      go_wp2_with (at_builtin; refine wpList_append_own _ rfl _ _ 22 rfl w.heap.size 5 i0 (.int .u8 0) 1 1 underU8 hi hz0 hz1 hz2 rfl (by decide) _ (k * 9) _ rfl HO6.out ⟨G3, 0, none⟩ 9 k3 (BPQ.map (Value.int .u8)) rfl ?c1 ?c2 ?c3 ?c4 ?c5 ?c6 ?_)
      case c1 => rw [List.length_map, HPL.out]
      case c2 => exact HAT.out
      case c3 => exact ints_oneCell _ _
      case c4 => unfold maxLen; omega
      case c5 => omega
      case c6 => exact HB6.out.size
      intro v' w7 ho7 hg7 _
      have HB7 := Lib.hid (HB6.out.grown hg7 HB6.out.size (fun j hj => (HO6.out.lt j hj).1))
      have HO7 : Hid (w7.ownsRow w.heap.size 5 1 v' ((k + 1) * 9) ((rowsBy (l.take (k + 1))).map (Value.int .u8))) := by
        rw [HT.out]
        show World.ownsRow _ _ _ _ _ _ _
        rw [show (k + 1) * 9 = k * 9 + 9 by omega]
        simpa [List.append_assoc] using ho7
      clear ho7 hg7
      go_wp2
      go_roundw
      case rel => exact ⟨k + 1, by rw [HA.out]; omega, by go_num, HO7.out, HB7.out⟩
      case measure => simp [intOf]; omega
    · have hke : k = a := by omega
      have hnl : ¬ (k : Int) < a := by omega
      have HT : Hid (l.take k = l) := by show _ = _; rw [List.take_of_length_le (by rw [HA.out]; omega)]
      have HKE := Lib.hid hke
      clear hke
      go_wp2
      go_ret
      exact ⟨_, rfl, by have h := HOO.out; rw [HT.out] at h; rw [← HKE.out]; exact h, HE.out⟩
end Go.Proofs.YtbcjkongcnpdlaaDoor.Scd

namespace Go.Proofs.YtbcjkongcnpdlaaDoor.Scd

open Go.RowKit Go.PlainAid Go.Proofs.YtbcjkongcnpdlaaDoor.Oct Go.Proofs.YtbcjkongcnpdlaaDoor.Flt Go.Proofs.YtbcjkongcnpdlaaDoor.Rdr Go.Proofs.YtbcjkongcnpdlaaDoor.Act

open Go.Proofs.YtbcjkongcnpdlaaDoor.Prt (fb fb_step fb_end take_snoc fb_all)

open Go.Proofs.YtbcjkongcnpdlaaDoor.Hdr (own_bytes owns_base iface_of_wrong)

open Go.Proofs.YtbcjkongcnpdlaaDoor.Byt (bytes_kept own_open clone_any)

set_option linter.unusedVariables false

set_option linter.unusedSimpArgs false

theorem grown_refl (w : World) (r : Option Nat) : w.grownBy w r := ⟨rfl, rfl, rfl, Nat.le_refl _, fun _ _ _ => rfl⟩
/-- 'append(v, x...)', both rows of the call's own, or nil. -/
theorem wpList_append_rows {P : Program} {w : World} {ops : Array Oper} {rest : List Oper} {o : Oper} {a : Act} {Q : Exit → Act → World → Prop} (hgd : o.guard = none) (s x : Operand) (t : TypeId)
    (ho : o.op = .call { callee := .builtin .append, args := #[s, x], argTypes := #[t, t] })
    (base : Nat) (e : TypeId) (i : TypeInfo) (z : Value) (bytes : Nat) (ht : P.underlying t = some (.slice e)) (hi : P.info? e = some i) (hz : i.zero = some z)
    (hsize : i.size = 1) (hby : i.bytes = bytes) (hzs : z.cells.size = 1)
    (v : Value) (n : Nat) (xs : List Value) (hs : a.eval s = v) (hown : w.ownsRow base e 1 v n xs)
    (b2 : Nat) (u : Value) (m : Nat) (news : List Value) (hx : a.eval x = u) (hown2 : w.ownsRow b2 e 1 u m news) (h1 : ∀ u ∈ news, u.oneCell' = true)
    (h63 : n + m ≤ maxLen) (hbytes : (n + m) * bytes ≤ 140737488355328) (hbase : base ≤ w.heap.size)
    (h : ∀ v' w', w'.ownsRow base e 1 v' (n + m) (xs ++ news) → w.grownBy w' v.ownBlock → wpList P ops Q rest (a.put o.dst v') w') : wpList P ops Q (o :: rest) a w := by
  rcases hown2.2 with ⟨hu, h0⟩ | ⟨g, c, cur, hu, _⟩
  · subst h0
    have hn : news = [] := List.eq_nil_of_length_eq_zero (by have := hown2.1; omega)
    subst hn
    exact wpList_append_own_none hgd s x t ho base e i 1 ht hi v n xs hs hown (by rw [hx, hu]) (h v w (by simpa using hown) (grown_refl _ _))
  · subst hu
    exact wpList_append_own w hgd s x t ho base e i z 1 bytes ht hi hz hsize hby hzs (by omega) v n xs hs hown ⟨g, 0, none⟩ m c news hx (by have := hown2.1; omega) (fun j q hj => by
      have hj' : j < news.length := (List.getElem?_eq_some_iff.1 hj).1
      have := hown2.cellAt j (by have := hown2.1; omega)
      rw [show (Addr.mk g 0 none).add j = ⟨g, j, none⟩ by cases j <;> simp [Addr.add], this, hj]) h1 h63 hbytes hbase fun v' w' q1 q2 _ => h v' w' q1 q2
def schBy (x : SC) : List Int := ((((low x.id.toNat 1 ++ tkBy [x.fr.toNat]) ++ low x.ws.length 2) ++ rowsBy x.ws) ++ low x.ns.length 1) ++ rowsBy x.ns
def textS (l : List SC) : List Int := l.flatMap schBy
theorem textS_snoc (l : List SC) (x : SC) : textS (l ++ [x]) = textS l ++ schBy x := by simp [textS]
theorem rgS_in {x : SC} (h : rgS x = 0) : (0 ≤ x.id ∧ x.id ≤ 255) ∧ (1 ≤ x.fr ∧ x.fr ≤ 1048576) ∧ x.ws.length ≤ 256 ∧ (∀ y ∈ x.ws, rowB y = true) ∧ x.ns.length ≤ 32 ∧ (∀ y ∈ x.ns, rowB y = true) := by
  unfold rgS at h
  split at h
  · cases h
  · rename_i h1
    split at h
    · cases h
    · rename_i h2
      split at h
      · cases h
      · rename_i h3
        split at h
        · cases h
        · rename_i h4
          split at h
          · cases h
          · rename_i h5
            simp only [Bool.not_eq_true', Bool.not_eq_false, Bool.not_eq_true] at h3 h5
            simp [idB, tkB] at h1 h2 h4
            refine ⟨by omega, by omega, by omega, ?_, by omega, ?_⟩
            · exact List.all_eq_true.1 h3
            · exact List.all_eq_true.1 h5
theorem badS_rg {l : List SC} (h : (badS l).1 = 0) : ∀ x ∈ l, rgS x = 0 := by
  intro x hx
  obtain ⟨i, hi, rfl⟩ := List.mem_iff_getElem.1 hx
  have h1 := fb_all b1S l [] h i _ (List.getElem?_eq_getElem hi)
  unfold b1S at h1
  split at h1
  · assumption
  · exact h1
def PNo (l : List SC) (w : World) (n : Nat) (xs : List Int) (e : Ending) (w' : World) : Prop :=
  ∃ V x, e = .returned (.tuple #[V, x]) ∧ w'.ownsRow w.heap.size 5 1 V n (xs.map (Value.int .u8)) ∧ Wrong w' x (badS l).1 (sec3 (badS l).1) (badS l).2 ∧ Below w.heap.size w w'
def PYes (l : List SC) (w : World) (xs : List Int) (e : Ending) (w' : World) : Prop :=
  ∃ V n, e = .returned (.tuple #[V, .nilIface]) ∧ w'.ownsRow w.heap.size 5 1 V n ((xs ++ textS l).map (Value.int .u8)) ∧ Below w.heap.size w w'
set_option maxRecDepth 8000 in
set_option maxHeartbeats 800000 in
theorem sput_no (l : List SC) (P : Option Addr) (pc : Nat) (A : Option Addr) (len cap : Nat) (xs : List Int) (w : World) (hb : (badS l).1 ≠ 0) (hn : Names w) (h1 : ScdAt w P l) (hw : ∀ x ∈ l, WideS x) (hl : l.length ≤ 1000) (hx : IsBytes w A len xs) (hnil : A = none → len = 0 ∧ cap = 0) (hlen : len ≤ 1073741824) :
    Calls Tryd.prog 8 #[.slice A len cap, .slice P l.length pc] w (PNo l w len xs) := by
  have HC := Lib.hid (clone_any A len cap xs w hx hnil (by omega))
  have HN := Lib.hid hn
  have H1 := Lib.hid h1
  have HWR : Hid (∀ w1, Below w.heap.size w w1 → Calls Tryd.prog 24 #[.slice P l.length pc] w1 (WPost (badS l) w1)) := fun w1 b => swrong_any P pc l w1 (hn.kept b) (h1.kept b) hw hl
  have HB := Lib.hid hb
  obtain ⟨a, ha⟩ : ∃ a, l.length = a := ⟨_, rfl⟩
  rw [ha] at HWR
  rw [ha]
  clear hn h1 hw hl hx hnil hb ha
  go_enter Tryd.func8, Tryd.ntmps8
  go_wp2_with (go_at_call 23; refine HC.out.mono ?_; rintro e w1 ⟨V, rfl, ho, hb1⟩; have HO := Lib.hid ho; have HB1 := Lib.hid hb1; clear ho hb1)
  refine (HWR.out _ HB1.out).mono ?_
  rintro e w2 ⟨x, rfl, hw, hb2⟩
  obtain ⟨u, y, rfl⟩ := iface_of_wrong hw HB.out
  have HW := Lib.hid hw
  have HB2 := Lib.hid hb2
  clear hw hb2
  go_wp2
  go_ret2
  exact ⟨V, _, rfl, Byt.owns_kept HO.out HB2.out, HW.out, HB1.out.trans (HB2.out.mono HB1.out.size)⟩
/-- Within Put's round: the bytes so far, the schedule's own block. -/
structure PS (C : Nat) (cs : Array Value) (v : Value) (n : Nat) (ys : List Int) (w wr : World) : Prop where
  own : wr.ownsRow w.heap.size 5 1 v n (ys.map (Value.int .u8))
  row : wr.heap[C]? = some (.cells cs 51 (0, 0))
  below : Below w.heap.size w wr
theorem PS.keep {C : Nat} {cs : Array Value} {v : Value} {n : Nat} {ys : List Int} {w wr w' : World} (f : PS C cs v n ys w wr) (b : Below wr.heap.size wr w') : PS C cs v n ys w w' :=
  ⟨Byt.owns_kept f.own b, (b.block _ (lt_of_block f.row)).trans f.row, f.below.trans (b.mono f.below.size)⟩
theorem PS.grown {C : Nat} {cs : Array Value} {v v' : Value} {n m : Nat} {ys zs : List Int} {w wr w' : World} (f : PS C cs v n ys w wr) (hg : wr.grownBy w' v.ownBlock) (ho : w'.ownsRow w.heap.size 5 1 v' (n + m) (ys.map (Value.int .u8) ++ zs.map (Value.int .u8))) : PS C cs v' (n + m) (ys ++ zs) w w' := by
  refine ⟨by rw [List.map_append]; exact ho, (hg.block _ (lt_of_block f.row) fun e => ?_).trans f.row, f.below.grown hg f.below.size (fun j hj => (f.own.lt j hj).1)⟩
  obtain ⟨c2, e2⟩ := Prt.own_block f.own e.symm
  rw [f.row] at e2
  simp only [Option.some.injEq, Obj.cells.injEq] at e2
  exact absurd e2.2.1 (by decide)
theorem PS.cells {C : Nat} {a b c d : Value} {v : Value} {n : Nat} {ys : List Int} {w wr : World} (f : PS C #[a, b, c, d] v n ys w wr) : wr.cell? ⟨C, 0, none⟩ = some a ∧ wr.cell? ⟨C, 1, none⟩ = some b ∧ wr.cell? ⟨C, 2, none⟩ = some c ∧ wr.cell? ⟨C, 3, none⟩ = some d := by
  refine ⟨?_, ?_, ?_, ?_⟩
  all_goals (rw [cell_of_row wr _ _ _ _ _ f.row]; rfl)
def GRel (l : List SC) (len : Nat) (xs : List Int) (w : World) (v i : Value) (wr : World) : Prop :=
  ∃ k n : Nat, k ≤ l.length ∧ i = .int .i64 k ∧ n ≤ len + k * 3000 ∧ wr.ownsRow w.heap.size 5 1 v n ((xs ++ textS (l.take k)).map (Value.int .u8)) ∧ Below w.heap.size w wr
set_option maxRecDepth 8000 in
set_option maxHeartbeats 6400000 in
theorem sput_yes (l : List SC) (P : Option Addr) (pc : Nat) (A : Option Addr) (len cap : Nat) (xs : List Int) (w : World) (hb : (badS l).1 = 0) (hn : Names w) (h1 : ScdAt w P l) (hw : ∀ x ∈ l, WideS x) (hl : l.length ≤ 1000) (hx : IsBytes w A len xs) (hnil : A = none → len = 0 ∧ cap = 0) (hlen : len ≤ 1073741824) :
    Calls Tryd.prog 8 #[.slice A len cap, .slice P l.length pc] w (PYes l w xs) := by
  obtain ⟨i0, hi, hz0, hz1, hz2⟩ := info_parts infoU8
  have HC := Lib.hid (clone_any A len cap xs w hx hnil (by omega))
  have H1 := Lib.hid h1
  have HWR : Hid (∀ w1, Below w.heap.size w w1 → Calls Tryd.prog 24 #[.slice P l.length pc] w1 fun e w' => e = .returned .nilIface ∧ Below w1.heap.size w1 w') := fun w1 b => by
    refine (swrong_any P pc l w1 (hn.kept b) (h1.kept b) hw hl).mono ?_
    rintro e w' ⟨x, rfl, hx, hb'⟩
    rw [hb] at hx
    rcases hx with ⟨_, _, _, rfl⟩ | ⟨h, _⟩
    · exact ⟨rfl, hb'⟩
    · omega
  have HRG := Lib.hid (badS_rg hb)
  obtain ⟨a, ha⟩ : ∃ a, l.length = a := ⟨_, rfl⟩
  have HA := Lib.hid ha
  rw [ha] at HWR hl
  rw [ha]
  clear hn h1 hw hx hnil hb ha
  go_enter Tryd.func8, Tryd.ntmps8
  go_wp2_with (go_at_call 23; refine HC.out.mono ?_; rintro e w1 ⟨V, rfl, ho, hb1⟩; have HO := Lib.hid ho; have HB1 := Lib.hid hb1; clear ho hb1)
  refine (HWR.out _ HB1.out).mono ?_
  rintro e w2 ⟨rfl, hb2⟩
  have HO2 : Hid (w2.ownsRow w.heap.size 5 1 V len ((xs ++ textS (l.take 0)).map (Value.int .u8))) := by
    have h := Byt.owns_kept HO.out hb2
    show World.ownsRow _ _ _ _ _ _ _
    simpa [textS] using h
  have HB2 := Lib.hid (HB1.out.trans (hb2.mono HB1.out.size))
  clear hb2
  go_wp2
  go_loopw [6, 20] (fun v i wr => GRel l len xs w v i wr) (fun _ i _ => a - (intOf i).toNat)
  case atStart => exact ⟨0, len, Nat.zero_le _, rfl, by omega, HO2.out, HB2.out⟩
  case round =>
    obtain ⟨k, n, hk, rfl, hnl, ho, hbel⟩ := hrel
    have hka : k ≤ a := by rw [← HA.out]; exact hk
    have HOO := Lib.hid ho
    have HE := Lib.hid hbel
    have HNL := Lib.hid hnl
    clear hk ho hbel HO2 HB2 hnl HO HB1 HC HWR
    by_cases hlt : k < a
    · obtain ⟨x, hx⟩ : ∃ x, l[k]? = some x := ⟨_, List.getElem?_eq_getElem (by rw [HA.out]; exact hlt)⟩
      obtain ⟨ax, B, cb, C, cc, rfl, c1, c2, c3, c4, h5, _, _, _, h8, _⟩ := H1.out k x hx
      have c1 := (HE.out.cell (Go.block_lt_of_cell c1)).trans c1
      have c2 := (HE.out.cell (Go.block_lt_of_cell c2)).trans c2
      have c3 := (HE.out.cell (Go.block_lt_of_cell c3)).trans c3
      have c4 := (HE.out.cell (Go.block_lt_of_cell c4)).trans c4
      obtain ⟨⟨i0', i1⟩, ⟨f0, f1⟩, hw1, hwr, hn1, hnr⟩ := rgS_in (HRG.out x (List.mem_of_getElem? hx))
      have HT : Hid (textS (l.take (k + 1)) = textS (l.take k) ++ schBy x) := by show _ = _; rw [take_snoc l k x hx, textS_snoc]
      have HSB : Hid (schBy x = ((((low x.id.toNat 1 ++ tkBy [x.fr.toNat]) ++ low x.ws.length 2) ++ rowsBy x.ws) ++ low x.ns.length 1) ++ rowsBy x.ns) := rfl
      have HBW := Lib.hid (fun W b => bytesW_any B cb x.ws W (h5.kept (w' := W) b) hwr (by omega))
      have HBN := Lib.hid (fun W b => bytesN_any C cc x.ns W (h8.kept (w' := W) b) hnr (by omega))
      obtain ⟨id, fr, ws, ns⟩ := x
      dsimp only at *
      obtain ⟨id, rfl⟩ := Int.eq_ofNat_of_zero_le i0'
      obtain ⟨fr, rfl⟩ := Int.eq_ofNat_of_zero_le (show 0 ≤ fr by omega)
      simp only [Int.toNat_natCast] at HSB
      obtain ⟨LW, hLW⟩ : ∃ n, ws.length = n := ⟨_, rfl⟩
      obtain ⟨LN, hLN⟩ : ∃ n, ns.length = n := ⟨_, rfl⟩
      rw [hLW] at c3 HBW HSB hw1
      rw [hLN] at c4 HBN HSB hn1
      obtain ⟨BW, hBW⟩ : ∃ b, rowsBy ws = b := ⟨_, rfl⟩
      obtain ⟨BN, hBN⟩ : ∃ b, rowsBy ns = b := ⟨_, rfl⟩
      rw [hBW] at HBW HSB
      rw [hBN] at HBN HSB
      have HNU : Hid (∀ (W : World) (g : Nat), W.heap[g]? = some (.cells #[.int .i64 fr] 3 (0, 0)) → Calls Tryd.prog 25 #[.int .i64 id, .slice (some ⟨g, 0, none⟩) 1 1] W (OPost 5 (low id 1 ++ tkBy [fr]) W)) := fun W g h => numbers_any id [fr] g W (by omega) h (by intro v hv; simp at hv; omega) (by show 1 ≤ 100; omega)
      have HN2 := Lib.hid (fun W => number_any LW 2 W (by omega) (by omega))
      have HN1 := Lib.hid (fun W => number_any LN 1 W (by omega) (by omega))
      obtain ⟨B1, hB1⟩ : ∃ b, low id 1 ++ tkBy [fr] = b := ⟨_, rfl⟩
      obtain ⟨B2, hB2⟩ : ∃ b, low LW 2 = b := ⟨_, rfl⟩
      obtain ⟨B4, hB4⟩ : ∃ b, low LN 1 = b := ⟨_, rfl⟩
      rw [hB1] at HNU HSB
      rw [hB2] at HN2 HSB
      rw [hB4] at HN1 HSB
      rw [HSB.out] at HT
      have hki : (0 : Int) ≤ k := by omega
      have hkb : (k : Int) < a := by omega
      have hp : PS wr.heap.size #[.int .i64 id, .int .i64 fr, .slice B LW cb, .slice C LN cc] u6 n (xs ++ textS (l.take k)) w (wr.alloc (.cells #[.int .i64 id, .int .i64 fr, .slice B LW cb, .slice C LN cc] 51)) :=
        have b : Below wr.heap.size wr (wr.alloc (.cells #[.int .i64 id, .int .i64 fr, .slice B LW cb, .slice C LN cc] 51)) := (Below.refl _ _).alloc (Nat.le_refl _) _
        ⟨Byt.owns_kept HOO.out b, heap_alloc_new _ _, HE.out.trans (b.mono HE.out.size)⟩
      have HP0 := Lib.hid hp
      obtain ⟨Y0, hY0⟩ : ∃ y, xs ++ textS (l.take k) = y := ⟨_, rfl⟩
      clear hx h5 h8 i0' i1 f0 f1 hwr hnr hLW hLN hBW hBN hB1 hB2 hB4 hp HSB
      go_upto_region 8 with fail
      obtain ⟨K0, hK0⟩ : ∃ b, wr.heap.size = b := ⟨_, rfl⟩
      obtain ⟨W0, hW0⟩ : ∃ W, (wr.alloc (.cells #[.int .i64 id, .int .i64 fr, .slice B LW cb, .slice C LN cc] 51)) = W := ⟨_, rfl⟩
      rw [hW0, hK0, hY0] at HP0
      rw [hW0, hK0]
      clear hW0 hK0 c1 c2 c3 c4
      obtain ⟨d0, d1, d2, d3⟩ := HP0.out.cells
      go_wp2_with fail
      refine (HNU.out _ _ (heap_alloc_new _ _)).mono ?_
      rintro e y0 ⟨G3, k3, rfl, hos, hbx⟩
      have HQ0 := Lib.hid (HP0.out.keep (((Below.refl W0.heap.size W0).alloc (Nat.le_refl _) (.cells #[.int .i64 fr] 3)).trans (hbx.mono ((Below.refl W0.heap.size W0).alloc (Nat.le_refl _) (.cells #[.int .i64 fr] 3)).size)))
      have HS0 := Lib.hid hos
      clear d0 d1 d2 d3 hbx hos HP0
      go_wp2_with (at_builtin; refine wpList_append_rows rfl _ _ 22 rfl w.heap.size 5 i0 (.int .u8 0) 1 underU8 hi hz0 hz1 hz2 rfl _ (n) _ rfl HQ0.out.own _ _ (5) _ rfl HS0.out (ints_oneCell _ _) ?c1 ?c2 ?c3 ?_)
      case c1 => have := HNL.out; unfold maxLen; omega
      case c2 => have := HNL.out; omega
      case c3 => exact HQ0.out.below.size
      intro v1 z1 hoz hgz
      have HP1 := Lib.hid (HQ0.out.grown (m := 5) (zs := B1) hgz (by simpa [List.append_assoc] using hoz))
      clear hoz hgz HQ0 HS0
      obtain ⟨d0, d1, d2, d3⟩ := HP1.out.cells
      go_wp2_with fail
      refine (HN2.out _).mono ?_
      rintro e y1 ⟨G3, k3, rfl, hos, hbx⟩
      have HQ1 := Lib.hid (HP1.out.keep hbx)
      have HS1 := Lib.hid hos
      clear d0 d1 d2 d3 hbx hos HP1
      go_wp2_with (at_builtin; refine wpList_append_rows rfl _ _ 22 rfl w.heap.size 5 i0 (.int .u8 0) 1 underU8 hi hz0 hz1 hz2 rfl _ (n + 5) _ rfl HQ1.out.own _ _ (2) _ rfl HS1.out (ints_oneCell _ _) ?c1 ?c2 ?c3 ?_)
      case c1 => have := HNL.out; unfold maxLen; omega
      case c2 => have := HNL.out; omega
      case c3 => exact HQ1.out.below.size
      intro v2 z2 hoz hgz
      have HP2 := Lib.hid (HQ1.out.grown (m := 2) (zs := B2) hgz (by simpa [List.append_assoc] using hoz))
      clear hoz hgz HQ1 HS1
      obtain ⟨d0, d1, d2, d3⟩ := HP2.out.cells
      go_wp2_with fail
      refine (HBW.out _ HP2.out.below).mono ?_
      rintro e y2 ⟨V3, rfl, hos, hbx⟩
      have HQ2 := Lib.hid (HP2.out.keep hbx)
      have HS2 := Lib.hid hos
      clear d0 d1 d2 d3 hbx hos HP2
      go_wp2_with (at_builtin; refine wpList_append_rows rfl _ _ 22 rfl w.heap.size 5 i0 (.int .u8 0) 1 underU8 hi hz0 hz1 hz2 rfl _ (n + 5 + 2) _ rfl HQ2.out.own _ _ (LW * 9) _ rfl HS2.out (ints_oneCell _ _) ?c1 ?c2 ?c3 ?_)
      case c1 => have := HNL.out; unfold maxLen; omega
      case c2 => have := HNL.out; omega
      case c3 => exact HQ2.out.below.size
      intro v3 z3 hoz hgz
      have HP3 := Lib.hid (HQ2.out.grown (m := LW * 9) (zs := BW) hgz (by simpa [List.append_assoc] using hoz))
      clear hoz hgz HQ2 HS2
      obtain ⟨d0, d1, d2, d3⟩ := HP3.out.cells
      go_wp2_with fail
      refine (HN1.out _).mono ?_
      rintro e y3 ⟨G3, k3, rfl, hos, hbx⟩
      have HQ3 := Lib.hid (HP3.out.keep hbx)
      have HS3 := Lib.hid hos
      clear d0 d1 d2 d3 hbx hos HP3
      go_wp2_with (at_builtin; refine wpList_append_rows rfl _ _ 22 rfl w.heap.size 5 i0 (.int .u8 0) 1 underU8 hi hz0 hz1 hz2 rfl _ (n + 5 + 2 + LW * 9) _ rfl HQ3.out.own _ _ (1) _ rfl HS3.out (ints_oneCell _ _) ?c1 ?c2 ?c3 ?_)
      case c1 => have := HNL.out; unfold maxLen; omega
      case c2 => have := HNL.out; omega
      case c3 => exact HQ3.out.below.size
      intro v4 z4 hoz hgz
      have HP4 := Lib.hid (HQ3.out.grown (m := 1) (zs := B4) hgz (by simpa [List.append_assoc] using hoz))
      clear hoz hgz HQ3 HS3
      obtain ⟨d0, d1, d2, d3⟩ := HP4.out.cells
      go_wp2_with fail
      refine (HBN.out _ HP4.out.below).mono ?_
      rintro e y4 ⟨V3, rfl, hos, hbx⟩
      have HQ4 := Lib.hid (HP4.out.keep hbx)
      have HS4 := Lib.hid hos
      clear d0 d1 d2 d3 hbx hos HP4
      go_wp2_with (at_builtin; refine wpList_append_rows rfl _ _ 22 rfl w.heap.size 5 i0 (.int .u8 0) 1 underU8 hi hz0 hz1 hz2 rfl _ (n + 5 + 2 + LW * 9 + 1) _ rfl HQ4.out.own _ _ (LN * 9) _ rfl HS4.out (ints_oneCell _ _) ?c1 ?c2 ?c3 ?_)
      case c1 => have := HNL.out; unfold maxLen; omega
      case c2 => have := HNL.out; omega
      case c3 => exact HQ4.out.below.size
      intro v5 z5 hoz hgz
      have HP5 := Lib.hid (HQ4.out.grown (m := LN * 9) (zs := BN) hgz (by simpa [List.append_assoc] using hoz))
      clear hoz hgz HQ4 HS4
      have HO7 : Hid (z5.ownsRow w.heap.size 5 1 v5 (n + 5 + 2 + LW * 9 + 1 + LN * 9) ((xs ++ textS (l.take (k + 1))).map (Value.int .u8))) := by
        show World.ownsRow _ _ _ _ _ _ _
        have h := HP5.out.own
        rw [← hY0] at h
        rw [HT.out]
        simpa [List.append_assoc] using h
      have HB7 := Lib.hid HP5.out.below
      clear hY0 HP5
      go_wp2
      go_roundw
      case rel => exact ⟨k + 1, n + 5 + 2 + LW * 9 + 1 + LN * 9, by rw [HA.out]; omega, by go_num, by have := HNL.out; omega, HO7.out, HB7.out⟩
      case measure => simp [intOf]; omega
    · have hke : k = a := by omega
      have hnl : ¬ (k : Int) < a := by omega
      have HT : Hid (l.take k = l) := by show _ = _; rw [List.take_of_length_le (by rw [HA.out]; omega)]
      go_wp2
      go_ret2
      exact ⟨_, n, rfl, by have h := HOO.out; rw [HT.out] at h; exact h, HE.out⟩
end Go.Proofs.YtbcjkongcnpdlaaDoor.Scd

namespace Go.Proofs.YtbcjkongcnpdlaaDoor.Scd

open Go.RowKit Go.PlainAid Go.Proofs.YtbcjkongcnpdlaaDoor.Oct Go.Proofs.YtbcjkongcnpdlaaDoor.Flt Go.Proofs.YtbcjkongcnpdlaaDoor.Rdr Go.Proofs.YtbcjkongcnpdlaaDoor.Act

set_option linter.unusedVariables false

set_option linter.unusedSimpArgs false

theorem eqWin (a b c : Int) (w : World) : (Op.equalIn 10000 59 (.agg #[.int .i64 a, .int .i64 b, .int .i64 c]) (.agg #[.int .i64 a, .int .i64 b, .int .i64 c])).run Tryd.prog w = .ok true w := by
  have hS : Tryd.prog.underlying 59 = some (.struct (Tryd.prog.fieldsOf 59)) := by kernel_rfl
  rw [show (10000 : Nat) = 9999 + 1 from rfl, run_equalIn_agg w 9999 59 _ _ hS (by kernel_rfl)]
  simp only [Program.fieldsOf, Tryd.underlying59]
  go_simp
theorem eqNeed (a b c : Int) (w : World) : (Op.equalIn 10000 68 (.agg #[.int .i64 a, .int .i64 b, .int .i64 c]) (.agg #[.int .i64 a, .int .i64 b, .int .i64 c])).run Tryd.prog w = .ok true w := by
  have hS : Tryd.prog.underlying 68 = some (.struct (Tryd.prog.fieldsOf 68)) := by kernel_rfl
  rw [show (10000 : Nat) = 9999 + 1 from rfl, run_equalIn_agg w 9999 68 _ _ hS (by kernel_rfl)]
  simp only [Program.fieldsOf, Tryd.underlying68]
  go_simp
set_option maxRecDepth 8000 in
set_option maxHeartbeats 6400000 in
theorem same09_any (A B : Option Addr) (ca cb : Nat) (l : List SC) (w : World) (h1 : ScdAt w A l) (h2 : ScdAt w B l) (hl : l.length ≤ maxLen) :
    Calls Tryd.prog 14 #[.slice A l.length ca, .slice B l.length cb] w fun e w' => e = .returned (.bool true) ∧ ∃ n, w' = w.drewN n := by
  unfold maxLen at hl
  obtain ⟨a, ha⟩ : ∃ a, l.length = a := ⟨_, rfl⟩
  have HA := Lib.hid ha
  rw [ha] at hl
  rw [ha]
  have H1 := Lib.hid h1
  have H2 := Lib.hid h2
  clear h1 h2 ha
  have tne : ∀ z : Int, (z != z) = false := fun z => by simp
  go_enter Tryd.func14, Tryd.ntmps14
  go_wp2
  go_loopw [5] (fun i wr => ∃ k n : Nat, k ≤ a ∧ i = .int .i64 k ∧ wr = w.drewN n) (fun i _ => a - (intOf i).toNat)
  case atStart => exact ⟨0, 0, Nat.zero_le _, rfl, rfl⟩
  case round =>
    obtain ⟨k, n, hk, rfl, hw⟩ := hrel
    have HW := Lib.hid hw
    by_cases hlt : k < a
    · obtain ⟨x, hx⟩ : ∃ x, l[k]? = some x := ⟨_, List.getElem?_eq_getElem (by rw [HA.out]; exact hlt)⟩
      obtain ⟨ax, B1, b1, C1, g1, rfl, c1, c2, c3, c4, h5, _, w1, w2, h8, _, w3, w4⟩ := H1.out k x hx
      obtain ⟨ay, B2, b2, C2, g2, rfl, d1, d2, d3, d4, k5, _, w5, w6, k8, _, w7, w8⟩ := H2.out k x hx
      obtain ⟨LW, hLW⟩ : ∃ n, x.ws.length = n := ⟨_, rfl⟩
      obtain ⟨LN, hLN⟩ : ∃ n, x.ns.length = n := ⟨_, rfl⟩
      have HLW := Lib.hid hLW
      have HLN := Lib.hid hLN
      rw [hLW] at c3 d3
      rw [hLN] at c4 d4
      have hLWm : LW ≤ 9223372036854775807 := by unfold maxLen at *; omega
      have hLNm : LN ≤ 9223372036854775807 := by unfold maxLen at *; omega
      have HW1 := Lib.hid h5
      have HW2 := Lib.hid k5
      have HN1 := Lib.hid h8
      have HN2 := Lib.hid k8
      have HC1 : Hid (∀ W : World, (∃ m, W = w.drewN m) → W.cell? (ax.add (k * 4)) = some (.int .i64 x.id) ∧ W.cell? ⟨(ax.add (k * 4)).block, (ax.add (k * 4)).off + 1, none⟩ = some (.int .i64 x.fr) ∧ W.cell? ⟨(ax.add (k * 4)).block, (ax.add (k * 4)).off + 2, none⟩ = some (.slice B1 LW b1) ∧ W.cell? ⟨(ax.add (k * 4)).block, (ax.add (k * 4)).off + 3, none⟩ = some (.slice C1 LN g1)) := fun W h => by
        obtain ⟨m, rfl⟩ := h; exact ⟨c1, c2, c3, c4⟩
      have HC2 : Hid (∀ W : World, (∃ m, W = w.drewN m) → W.cell? (ay.add (k * 4)) = some (.int .i64 x.id) ∧ W.cell? ⟨(ay.add (k * 4)).block, (ay.add (k * 4)).off + 1, none⟩ = some (.int .i64 x.fr) ∧ W.cell? ⟨(ay.add (k * 4)).block, (ay.add (k * 4)).off + 2, none⟩ = some (.slice B2 LW b2) ∧ W.cell? ⟨(ay.add (k * 4)).block, (ay.add (k * 4)).off + 3, none⟩ = some (.slice C2 LN g2)) := fun W h => by
        obtain ⟨m, rfl⟩ := h; exact ⟨d1, d2, d3, d4⟩
      have c1' := (HC1.out wr ⟨n, hw⟩).1
      have c2' := (HC1.out wr ⟨n, hw⟩).2.1
      have c3' := (HC1.out wr ⟨n, hw⟩).2.2.1
      have c4' := (HC1.out wr ⟨n, hw⟩).2.2.2
      have d1' := (HC2.out wr ⟨n, hw⟩).1
      have d2' := (HC2.out wr ⟨n, hw⟩).2.1
      have d3' := (HC2.out wr ⟨n, hw⟩).2.2.1
      have d4' := (HC2.out wr ⟨n, hw⟩).2.2.2
      have HWR : Hid (∃ m, wr = w.drewN m) := ⟨n, hw⟩
      have hki : (0 : Int) ≤ k := by omega
      have hka : (k : Int) < a := by omega
      clear hw hx c1 c2 c3 c4 d1 d2 d3 d4 h5 h8 k5 k8 w1 w2 w3 w4 w5 w6 w7 w8 H1 H2 hLW hLN
      go_wp2
      go_quiet (fail)
      clear c1' c2' c3' c4' d1' d2' d3' d4'
      go_wp2
      obtain ⟨wo6, rfl⟩ : ∃ wo, wo = wr := ⟨wr, rfl⟩
      go_loopw [6] (fun i wr => ∃ j m : Nat, j ≤ LW ∧ i = .int .i64 j ∧ wr = w.drewN m) (fun i _ => LW - (intOf i).toNat)
      case atStart =>
        obtain ⟨m, hm⟩ := HWR.out
        exact ⟨0, _, Nat.zero_le _, rfl, by first | exact hm | (rw [hm, World.drewN_drewN])⟩
      case round =>
        obtain ⟨j, m, hj, rfl, hwr⟩ := hrel
        have HWR6 := Lib.hid hwr
        have c1 := (HC1.out wr ⟨m, hwr⟩).1
        have c2 := (HC1.out wr ⟨m, hwr⟩).2.1
        have c3 := (HC1.out wr ⟨m, hwr⟩).2.2.1
        have c4 := (HC1.out wr ⟨m, hwr⟩).2.2.2
        have d1 := (HC2.out wr ⟨m, hwr⟩).1
        have d2 := (HC2.out wr ⟨m, hwr⟩).2.1
        have d3 := (HC2.out wr ⟨m, hwr⟩).2.2.1
        have d4 := (HC2.out wr ⟨m, hwr⟩).2.2.2
        clear hwr
        by_cases hlj : j < LW
        · obtain ⟨y, hy⟩ : ∃ y, x.ws[j]? = some y := ⟨_, List.getElem?_eq_getElem (by rw [HLW.out]; exact hlj)⟩
          obtain ⟨a1, hA1, p1, p2, p3⟩ := HW1.out j y hy
          obtain ⟨a2, hA2, r1, r2, r3⟩ := HW2.out j y hy
          have p1' : wr.cell? (a1.add (j * 3)) = some (.int .i64 y.s) := by rw [HWR6.out]; exact p1
          have p2' : wr.cell? ⟨(a1.add (j * 3)).block, (a1.add (j * 3)).off + 1, none⟩ = some (.int .i64 y.p) := by rw [HWR6.out]; exact p2
          have p3' : wr.cell? ⟨(a1.add (j * 3)).block, (a1.add (j * 3)).off + 2, none⟩ = some (.int .i64 y.a) := by rw [HWR6.out]; exact p3
          have r1' : wr.cell? (a2.add (j * 3)) = some (.int .i64 y.s) := by rw [HWR6.out]; exact r1
          have r2' : wr.cell? ⟨(a2.add (j * 3)).block, (a2.add (j * 3)).off + 1, none⟩ = some (.int .i64 y.p) := by rw [HWR6.out]; exact r2
          have r3' : wr.cell? ⟨(a2.add (j * 3)).block, (a2.add (j * 3)).off + 2, none⟩ = some (.int .i64 y.a) := by rw [HWR6.out]; exact r3
          have heq : ∀ wx : World, (Op.equalIn 10000 59 (.agg #[.int .i64 y.s, .int .i64 y.p, .int .i64 y.a]) (.agg #[.int .i64 y.s, .int .i64 y.p, .int .i64 y.a])).run Tryd.prog wx = .ok true wx := fun wx => eqWin _ _ _ wx
          have hji : (0 : Int) ≤ j := by omega
          have hjb : (j : Int) < LW := by omega
          subst hA1
          subst hA2
          clear p1 p2 p3 r1 r2 r3 hy
          go_wp2
          go_quiet (fail)
          go_wp2
          go_roundw
          case rel => exact ⟨j + 1, m + nq, by omega, by go_num, by rw [HWR6.out, World.drewN_drewN]⟩
          case measure => simp [intOf]; omega
        · have tj : decide ((j : Int) < (LW : Int)) = false := decide_eq_false (by omega)
          have tjn : decide (j < LW) = false := decide_eq_false hlj
          have HWR := Lib.hid (show ∃ m, wr = w.drewN m from ⟨_, HWR6.out⟩)
          go_wp2
          clear c1 c2 c3 c4 d1 d2 d3 d4
          obtain ⟨wo7, rfl⟩ : ∃ wo, wo = wr := ⟨wr, rfl⟩
          go_loopw [7] (fun i wr => ∃ j m : Nat, j ≤ LN ∧ i = .int .i64 j ∧ wr = w.drewN m) (fun i _ => LN - (intOf i).toNat)
          case atStart =>
            obtain ⟨m, hm⟩ := HWR.out
            exact ⟨0, _, Nat.zero_le _, rfl, by first | exact hm | (rw [hm, World.drewN_drewN])⟩
          case round =>
            obtain ⟨j, m, hj, rfl, hwr⟩ := hrel
            have HWR7 := Lib.hid hwr
            have c1 := (HC1.out wr ⟨m, hwr⟩).1
            have c2 := (HC1.out wr ⟨m, hwr⟩).2.1
            have c3 := (HC1.out wr ⟨m, hwr⟩).2.2.1
            have c4 := (HC1.out wr ⟨m, hwr⟩).2.2.2
            have d1 := (HC2.out wr ⟨m, hwr⟩).1
            have d2 := (HC2.out wr ⟨m, hwr⟩).2.1
            have d3 := (HC2.out wr ⟨m, hwr⟩).2.2.1
            have d4 := (HC2.out wr ⟨m, hwr⟩).2.2.2
            clear hwr
            by_cases hlj : j < LN
            · obtain ⟨y, hy⟩ : ∃ y, x.ns[j]? = some y := ⟨_, List.getElem?_eq_getElem (by rw [HLN.out]; exact hlj)⟩
              obtain ⟨a1, hA1, p1, p2, p3⟩ := HN1.out j y hy
              obtain ⟨a2, hA2, r1, r2, r3⟩ := HN2.out j y hy
              have p1' : wr.cell? (a1.add (j * 3)) = some (.int .i64 y.s) := by rw [HWR7.out]; exact p1
              have p2' : wr.cell? ⟨(a1.add (j * 3)).block, (a1.add (j * 3)).off + 1, none⟩ = some (.int .i64 y.p) := by rw [HWR7.out]; exact p2
              have p3' : wr.cell? ⟨(a1.add (j * 3)).block, (a1.add (j * 3)).off + 2, none⟩ = some (.int .i64 y.a) := by rw [HWR7.out]; exact p3
              have r1' : wr.cell? (a2.add (j * 3)) = some (.int .i64 y.s) := by rw [HWR7.out]; exact r1
              have r2' : wr.cell? ⟨(a2.add (j * 3)).block, (a2.add (j * 3)).off + 1, none⟩ = some (.int .i64 y.p) := by rw [HWR7.out]; exact r2
              have r3' : wr.cell? ⟨(a2.add (j * 3)).block, (a2.add (j * 3)).off + 2, none⟩ = some (.int .i64 y.a) := by rw [HWR7.out]; exact r3
              have heq : ∀ wx : World, (Op.equalIn 10000 68 (.agg #[.int .i64 y.s, .int .i64 y.p, .int .i64 y.a]) (.agg #[.int .i64 y.s, .int .i64 y.p, .int .i64 y.a])).run Tryd.prog wx = .ok true wx := fun wx => eqNeed _ _ _ wx
              have hji : (0 : Int) ≤ j := by omega
              have hjb : (j : Int) < LN := by omega
              subst hA1
              subst hA2
              clear p1 p2 p3 r1 r2 r3 hy
              go_wp2
              go_quiet (fail)
              go_wp2
              go_roundw
              case rel => exact ⟨j + 1, m + nq, by omega, by go_num, by rw [HWR7.out, World.drewN_drewN]⟩
              case measure => simp [intOf]; omega
            · have tj : decide ((j : Int) < (LN : Int)) = false := decide_eq_false (by omega)
              have tjn : decide (j < LN) = false := decide_eq_false hlj
              go_wp2
              go_roundw
              case rel => exact ⟨k + 1, m, by omega, by go_num, HWR7.out⟩
              case measure => simp [intOf]; omega
    · obtain rfl : k = a := by omega
      clear hw
      go_wp2
      go_ret
      exact ⟨rfl, n, HW.out⟩
end Go.Proofs.YtbcjkongcnpdlaaDoor.Scd

namespace Go.Proofs.YtbcjkongcnpdlaaDoor.Scd

open Go.RowKit Go.PlainAid Go.Proofs.YtbcjkongcnpdlaaDoor.Oct Go.Proofs.YtbcjkongcnpdlaaDoor.Flt Go.Proofs.YtbcjkongcnpdlaaDoor.Rdr Go.Proofs.YtbcjkongcnpdlaaDoor.Act

open Go.Proofs.YtbcjkongcnpdlaaDoor.Prt (take_snoc)

set_option linter.unusedVariables false

set_option linter.unusedSimpArgs false

theorem num9_any (v n : Nat) (hn : n ≤ 8) (hv : v ≤ 4294967295) (w : World) : Calls Tryd.prog 30 #[.int .i64 v, .int .i64 n] w fun e w' => e = .returned (.string (strOfNums (low v n))) ∧ Below w.heap.size w w' := by
  have H := Lib.hid (text_any v n hn (by omega) w)
  have hw1 : IntKind.u64.wrap (v : Int) = v := by rw [IntKind.wrap_u64]; omega
  obtain ⟨X, hX⟩ : ∃ X, strOfNums (low v n) = X := ⟨_, rfl⟩
  rw [hX] at H ⊢
  clear hX hn hv
  go_enter Tryd.func30, Tryd.ntmps30
  go_wp2_with fail
  refine H.out.mono ?_
  rintro e w1 ⟨rfl, hb⟩
  have HB := Lib.hid hb
  clear hb
  go_wp2
  go_ret
  exact ⟨rfl, HB.out⟩
def headS (x : SC) : List Int := (low x.id.toNat 1 ++ tkBy [x.fr.toNat]) ++ low x.ws.length 2
theorem schBy_eq (x : SC) : schBy x = ((headS x ++ rowsBy x.ws) ++ low x.ns.length 1) ++ rowsBy x.ns := rfl
theorem schBy_len {x : SC} (h : rgS x = 0) : (schBy x).length ≤ 3000 := by
  obtain ⟨_, _, h1, _, h2, _⟩ := rgS_in h
  unfold schBy
  simp only [List.length_append, low_length, tkBy_len, rowsBy_len]
  simp
  omega
theorem textS_len (l : List SC) (h : ∀ x ∈ l, rgS x = 0) : (textS l).length ≤ l.length * 3000 := by
  induction l with
  | nil => simp [textS]
  | cons x l ih =>
    have h1 := ih fun y hy => h y (List.mem_cons_of_mem _ hy)
    have h2 := schBy_len (h x List.mem_cons_self)
    have : textS (x :: l) = schBy x ++ textS l := rfl
    rw [this, List.length_append, List.length_cons]
    omega
/-- Within Text's round: the schedule's own block. -/
structure TS (E : Nat) (cs : Array Value) (w wr : World) : Prop where
  row : wr.heap[E]? = some (.cells cs 51 (0, 0))
  below : Below w.heap.size w wr
theorem TS.keep {E : Nat} {cs : Array Value} {w wr w' : World} (f : TS E cs w wr) (b : Below wr.heap.size wr w') : TS E cs w w' := ⟨(b.block _ (lt_of_block f.row)).trans f.row, f.below.trans (b.mono f.below.size)⟩
theorem TS.drew {E : Nat} {cs : Array Value} {w wr : World} (f : TS E cs w wr) : TS E cs w wr.drew := f.keep ⟨rfl, rfl, rfl, Nat.le_refl _, fun _ _ => rfl⟩
theorem TS.cells {E : Nat} {a b c d : Value} {w wr : World} (f : TS E #[a, b, c, d] w wr) : wr.cell? ⟨E, 0, none⟩ = some a ∧ wr.cell? ⟨E, 1, none⟩ = some b ∧ wr.cell? ⟨E, 2, none⟩ = some c ∧ wr.cell? ⟨E, 3, none⟩ = some d := by
  refine ⟨?_, ?_, ?_, ?_⟩
  all_goals (rw [cell_of_row wr _ _ _ _ _ f.row]; rfl)
def TRel (l : List SC) (w : World) (v i : Value) (wr : World) : Prop := ∃ k : Nat, k ≤ l.length ∧ i = .int .i64 k ∧ v = .string (strOfNums (textS (l.take k))) ∧ Below w.heap.size w wr
set_option maxRecDepth 8000 in
set_option maxHeartbeats 8000000 in
theorem text09_any (P : Option Addr) (pc : Nat) (l : List SC) (w : World) (h1 : ScdAt w P l) (hr : ∀ x ∈ l, rgS x = 0) (hl : l.length ≤ 1000) :
    Calls Tryd.prog 12 #[.slice P l.length pc] w fun e w' => e = .returned (.string (strOfNums (textS l))) ∧ Below w.heap.size w w' := by
  have H1 := Lib.hid h1
  have HR := Lib.hid hr
  have HNM := Lib.hid (fun v n h1 h2 W => num9_any v n h1 h2 W)
  obtain ⟨a, ha⟩ : ∃ a, l.length = a := ⟨_, rfl⟩
  have HA := Lib.hid ha
  rw [ha] at hl
  rw [ha]
  clear h1 hr ha
  go_enter Tryd.func12, Tryd.ntmps12
  go_wp2
  go_loopw [3, 4] (fun v i wr => TRel l w v i wr) (fun _ i _ => a - (intOf i).toNat)
  case atStart => exact ⟨0, Nat.zero_le _, rfl, rfl, Below.refl _ _⟩
  case round =>
    obtain ⟨k, hk, rfl, rfl, hbel⟩ := hrel
    have hka : k ≤ a := by rw [← HA.out]; exact hk
    have HE := Lib.hid hbel
    clear hk hbel
    by_cases hlt : k < a
    · obtain ⟨x, hx⟩ : ∃ x, l[k]? = some x := ⟨_, List.getElem?_eq_getElem (by rw [HA.out]; exact hlt)⟩
      obtain ⟨ax, B, cb, C, cc, rfl, c1, c2, c3, c4, h5, _, _, _, h8, _⟩ := H1.out k x hx
      have c1 := (HE.out.cell (Go.block_lt_of_cell c1)).trans c1
      have c2 := (HE.out.cell (Go.block_lt_of_cell c2)).trans c2
      have c3 := (HE.out.cell (Go.block_lt_of_cell c3)).trans c3
      have c4 := (HE.out.cell (Go.block_lt_of_cell c4)).trans c4
      obtain ⟨⟨i0', i1⟩, ⟨f0, f1⟩, hw1, hwr, hn1, hnr⟩ := rgS_in (HR.out x (List.mem_of_getElem? hx))
      have HT : Hid (textS (l.take (k + 1)) = textS (l.take k) ++ (((headS x ++ rowsBy x.ws) ++ low x.ns.length 1) ++ rowsBy x.ns)) := by show _ = _; rw [take_snoc l k x hx, textS_snoc, schBy_eq]
      have hT0 : (textS (l.take k)).length ≤ 3000000 := by
        have h := textS_len (l.take k) (fun y hy => HR.out y (List.mem_of_mem_take hy))
        rw [List.length_take, HA.out] at h
        omega
      have HT0 := Lib.hid hT0
      have HHD : Hid (headS x = (low x.id.toNat 1 ++ tkBy [x.fr.toNat]) ++ low x.ws.length 2) := rfl
      have HHL : Hid ((headS x).length = 7) := by show _ = _; unfold headS; simp only [List.length_append, low_length, tkBy_len]; rfl
      obtain ⟨id, fr, ws, ns⟩ := x
      dsimp only at *
      obtain ⟨id, rfl⟩ := Int.eq_ofNat_of_zero_le i0'
      obtain ⟨fr, rfl⟩ := Int.eq_ofNat_of_zero_le (show 0 ≤ fr by omega)
      simp only [Int.toNat_natCast] at HHD
      obtain ⟨LW, hLW⟩ : ∃ n, ws.length = n := ⟨_, rfl⟩
      obtain ⟨LN, hLN⟩ : ∃ n, ns.length = n := ⟨_, rfl⟩
      have HLW := Lib.hid hLW
      have HLN := Lib.hid hLN
      rw [hLW] at c3 HHD hw1
      rw [hLN] at c4 HT hn1
      obtain ⟨HS, hHS⟩ : ∃ y, headS ⟨(id : Int), (fr : Int), ws, ns⟩ = y := ⟨_, rfl⟩
      rw [hHS] at HT HHD HHL
      obtain ⟨Y0, hY0⟩ : ∃ y, textS (l.take k) = y := ⟨_, rfl⟩
      rw [hY0] at HT hT0 HT0
      rw [hY0]
      have HWA := Lib.hid h5
      have HNA := Lib.hid h8
      have HWR := Lib.hid hwr
      have HNR := Lib.hid hnr
      have N1 : Hid (∀ W, Calls Tryd.prog 30 #[.int .i64 id, .int .i64 1] W fun e w' => e = .returned (.string (strOfNums (low id 1))) ∧ Below W.heap.size W w') := fun W => HNM.out id 1 (by omega) (by omega) W
      have N2 : Hid (∀ W, Calls Tryd.prog 30 #[.int .i64 fr, .int .i64 4] W fun e w' => e = .returned (.string (strOfNums (low fr 4))) ∧ Below W.heap.size W w') := fun W => HNM.out fr 4 (by omega) (by omega) W
      have N3 : Hid (∀ W, Calls Tryd.prog 30 #[.int .i64 LW, .int .i64 2] W fun e w' => e = .returned (.string (strOfNums (low LW 2))) ∧ Below W.heap.size W w') := fun W => HNM.out LW 2 (by omega) (by omega) W
      have N4 : Hid (∀ W, Calls Tryd.prog 30 #[.int .i64 LN, .int .i64 1] W fun e w' => e = .returned (.string (strOfNums (low LN 1))) ∧ Below W.heap.size W w') := fun W => HNM.out LN 1 (by omega) (by omega) W
      have HS1 : Hid (strOfNums Y0 ++ ((strOfNums (low id 1) ++ strOfNums (low fr 4)) ++ strOfNums (low LW 2)) = strOfNums ((Y0 ++ HS) ++ rowsBy (ws.take 0))) := by
        show _ = _
        have e : (Y0 ++ HS) ++ rowsBy (ws.take 0) = Y0 ++ ((low id 1 ++ low fr 4) ++ low LW 2) := by rw [HHD.out]; simp [rowsBy, tkBy]
        rw [e, strOf_append, strOf_append, strOf_append]
      have z1 : (strOfNums (low id 1)).size = 1 := by rw [strOfNums_size, low_length]
      have z2 : (strOfNums (low fr 4)).size = 4 := by rw [strOfNums_size, low_length]
      have z3 : (strOfNums (low LW 2)).size = 2 := by rw [strOfNums_size, low_length]
      have z0 : (strOfNums Y0).size ≤ 3000000 := by rw [strOfNums_size]; exact hT0
      obtain ⟨X0, x0⟩ : ∃ X, strOfNums Y0 = X := ⟨_, rfl⟩
      obtain ⟨X1, x1⟩ : ∃ X, strOfNums (low id 1) = X := ⟨_, rfl⟩
      obtain ⟨X2, x2⟩ : ∃ X, strOfNums (low fr 4) = X := ⟨_, rfl⟩
      obtain ⟨X3, x3⟩ : ∃ X, strOfNums (low LW 2) = X := ⟨_, rfl⟩
      rw [x0, x1, x2, x3] at HS1
      rw [x0] at z0
      rw [x1] at z1 N1
      rw [x2] at z2 N2
      rw [x3] at z3 N3
      rw [x0]
      have u1 : ¬ 9223372036854775807 < X1.size + X2.size := by omega
      have u2 : ¬ 9223372036854775807 < (X1 ++ X2).size + X3.size := by rw [ByteArray.size_append]; omega
      have u3 : ¬ 9223372036854775807 < X0.size + ((X1 ++ X2) ++ X3).size := by rw [ByteArray.size_append, ByteArray.size_append]; omega
      have u2' : ¬ 9223372036854775807 < X1.size + X2.size + X3.size := by omega
      have u3'' : ¬ 9223372036854775807 < X0.size + 7 := by omega
      have u3' : ¬ 9223372036854775807 < X0.size + (X1.size + X2.size + X3.size) := by omega
      have HP : Hid (TS wr.heap.size #[.int .i64 id, .int .i64 fr, .slice B LW cb, .slice C LN cc] w (wr.alloc (.cells #[.int .i64 id, .int .i64 fr, .slice B LW cb, .slice C LN cc] 51))) := ⟨heap_alloc_new _ _, HE.out.alloc HE.out.size _⟩
      have hki : (0 : Int) ≤ k := by omega
      have hkb : (k : Int) < a := by omega
      clear hx h5 h8 i0' i1 f0 f1 hwr hnr hLW hLN hHS x0 x1 x2 x3 hT0
      go_upto_region 6 with fail
      obtain ⟨E, hE⟩ : ∃ b, wr.heap.size = b := ⟨_, rfl⟩
      obtain ⟨W0, hW0⟩ : ∃ W, (wr.alloc (.cells #[.int .i64 id, .int .i64 fr, .slice B LW cb, .slice C LN cc] 51)) = W := ⟨_, rfl⟩
      rw [hW0, hE] at HP
      rw [hW0, hE]
      clear hW0 hE c1 c2 c3 c4
      (try dsimp only [Act.put])
      obtain ⟨d0, d1, d2, d3⟩ := HP.out.cells
      have HPD := Lib.hid HP.out.drew
      have HK0 := Lib.hid HP.out.cells
      go_region_held3 (fun wx => wx.cell? ⟨E, 0, none⟩ = some (.int .i64 id) ∧ wx.cell? ⟨E, 1, none⟩ = some (.int .i64 fr) ∧ wx.cell? ⟨E, 2, none⟩ = some (.slice B LW cb) ∧ wx.cell? ⟨E, 3, none⟩ = some (.slice C LN cc)) (first | (go_keep; done) | exact HK0.out | exact HKP.out | (refine ⟨?_, ?_, ?_, ?_⟩ <;> assumption))
        (first
          | (go_at_call 30; ((with_reducible refine (N1.out _).mono ?_); rintro e y1 ⟨rfl, hb1⟩); have HP1 := Lib.hid (HPD.out.keep hb1); have HKP := Lib.hid HP1.out.cells; clear hb1)
          | (go_at_call 30; ((with_reducible refine (N2.out _).mono ?_); rintro e y2 ⟨rfl, hb2⟩); have HP2 := Lib.hid (HP1.out.keep hb2); have HKP := Lib.hid HP2.out.cells; clear hb2)
          | (go_at_call 30; ((with_reducible refine (N3.out _).mono ?_); rintro e y3 ⟨rfl, hb3⟩); have HP3 := Lib.hid (HP2.out.keep hb3); have HKP := Lib.hid HP3.out.cells; clear hb3)
          | fail)
      have HBL : Hid ((Y0 ++ HS).length ≤ 3500000) := by
        show _ ≤ _
        have h1 := HT0.out
        have h2 := HHL.out
        rw [List.length_append]
        omega
      have HSX6 := Lib.hid HS1.out
      have HPX6 := Lib.hid HP3.out
      clear HP3 HP2 HP1 HPD HKP HK0 d0 d1 d2 d3
      go_wp2
      obtain ⟨wo, rfl⟩ : ∃ wo, wo = wr := ⟨wr, rfl⟩
      go_loopw [3, 6] (fun v i wr => ∃ j : Nat, j ≤ LW ∧ i = .int .i64 j ∧ v = .string (strOfNums ((Y0 ++ HS) ++ rowsBy (ws.take j))) ∧ TS E #[.int .i64 id, .int .i64 fr, .slice B LW cb, .slice C LN cc] w wr) (fun _ i _ => LW - (intOf i).toNat)
      case atStart => exact ⟨0, Nat.zero_le _, rfl, congrArg Value.string HSX6.out, HPX6.out⟩
      case round =>
        obtain ⟨j, hj, rfl, rfl, hts⟩ := hrel
        have HTS := Lib.hid hts
        obtain ⟨d0, d1, d2, d3⟩ := hts.cells
        clear hts HPX6 HSX6
        by_cases hlj : j < LW
        · obtain ⟨y, hy⟩ : ∃ y, ws[j]? = some y := ⟨_, List.getElem?_eq_getElem (by rw [HLW.out]; exact hlj)⟩
          obtain ⟨ay, hay, p1, p2, p3⟩ := (HWA.out.kept HTS.out.below) j y hy
          obtain ⟨⟨s0, s1⟩, ⟨q0, q1⟩, ⟨r0, r1⟩⟩ := rowB_in (HWR.out y (List.mem_of_getElem? hy))
          have HTJ : Hid (rowsBy (ws.take (j + 1)) = rowsBy (ws.take j) ++ rowBy y) := by show _ = _; rw [take_snoc ws j y hy, rowsBy_snoc]
          obtain ⟨ys, yp, ya⟩ := y
          dsimp only at *
          obtain ⟨ys, rfl⟩ := Int.eq_ofNat_of_zero_le s0
          obtain ⟨yp, rfl⟩ := Int.eq_ofNat_of_zero_le q0
          obtain ⟨ya, rfl⟩ := Int.eq_ofNat_of_zero_le r0
          have M1 : Hid (∀ W, Calls Tryd.prog 30 #[.int .i64 ys, .int .i64 1] W fun e w' => e = .returned (.string (strOfNums (low ys 1))) ∧ Below W.heap.size W w') := fun W => HNM.out ys 1 (by omega) (by omega) W
          have M2 : Hid (∀ W, Calls Tryd.prog 30 #[.int .i64 yp, .int .i64 4] W fun e w' => e = .returned (.string (strOfNums (low yp 4))) ∧ Below W.heap.size W w') := fun W => HNM.out yp 4 (by omega) (by omega) W
          have M3 : Hid (∀ W, Calls Tryd.prog 30 #[.int .i64 ya, .int .i64 4] W fun e w' => e = .returned (.string (strOfNums (low ya 4))) ∧ Below W.heap.size W w') := fun W => HNM.out ya 4 (by omega) (by omega) W
          have HSJ : Hid (strOfNums ((Y0 ++ HS) ++ rowsBy (ws.take j)) ++ ((strOfNums (low ys 1) ++ strOfNums (low yp 4)) ++ strOfNums (low ya 4)) = strOfNums ((Y0 ++ HS) ++ rowsBy (ws.take (j + 1)))) := by
            show _ = _
            have e : (Y0 ++ HS) ++ rowsBy (ws.take (j + 1)) = ((Y0 ++ HS) ++ rowsBy (ws.take j)) ++ ((low ys 1 ++ low yp 4) ++ low ya 4) := by rw [HTJ.out]; simp [rowBy, tkBy]
            rw [e, strOf_append _ ((low ys 1 ++ low yp 4) ++ low ya 4), strOf_append (low ys 1 ++ low yp 4) (low ya 4), strOf_append (low ys 1) (low yp 4)]
          have k1 : (strOfNums (low ys 1)).size = 1 := by rw [strOfNums_size, low_length]
          have k2 : (strOfNums (low yp 4)).size = 4 := by rw [strOfNums_size, low_length]
          have k3 : (strOfNums (low ya 4)).size = 4 := by rw [strOfNums_size, low_length]
          have k0 : (strOfNums ((Y0 ++ HS) ++ rowsBy (ws.take j))).size ≤ 4000000 := by
            rw [strOfNums_size, List.length_append, rowsBy_len, List.length_take]
            have := HBL.out
            omega
          obtain ⟨S0, hS0⟩ : ∃ X, strOfNums ((Y0 ++ HS) ++ rowsBy (ws.take j)) = X := ⟨_, rfl⟩
          obtain ⟨S1, hS1⟩ : ∃ X, strOfNums (low ys 1) = X := ⟨_, rfl⟩
          obtain ⟨S2, hS2⟩ : ∃ X, strOfNums (low yp 4) = X := ⟨_, rfl⟩
          obtain ⟨S3, hS3⟩ : ∃ X, strOfNums (low ya 4) = X := ⟨_, rfl⟩
          rw [hS0, hS1, hS2, hS3] at HSJ
          rw [hS0] at k0
          rw [hS1] at k1 M1
          rw [hS2] at k2 M2
          rw [hS3] at k3 M3
          rw [hS0]
          have m1 : ¬ 9223372036854775807 < S1.size + S2.size := by omega
          have m2 : ¬ 9223372036854775807 < (S1 ++ S2).size + S3.size := by rw [ByteArray.size_append]; omega
          have m3 : ¬ 9223372036854775807 < S0.size + 9 := by omega
          have m4 : ¬ 9223372036854775807 < S0.size + (S1.size + S2.size + S3.size) := by omega
          have hji : (0 : Int) ≤ j := by omega
          have hjb : (j : Int) < LW := by omega
          have HPY : Hid (TS E #[.int .i64 id, .int .i64 fr, .slice B LW cb, .slice C LN cc] w (wr.alloc (.cells #[.int .i64 ys, .int .i64 yp, .int .i64 ya] 59))) := HTS.out.keep ((Below.refl _ _).alloc (Nat.le_refl _) _)
          have HRY := Lib.hid (heap_alloc_new wr (.cells #[.int .i64 ys, .int .i64 yp, .int .i64 ya] 59))
          subst hay
          clear hy s0 s1 q0 q1 r0 r1 hS0 hS1 hS2 hS3
          go_upto_region 11 with fail
          obtain ⟨F, hF⟩ : ∃ b, wr.heap.size = b := ⟨_, rfl⟩
          obtain ⟨W1, hW1⟩ : ∃ W, (wr.alloc (.cells #[.int .i64 ys, .int .i64 yp, .int .i64 ya] 59)) = W := ⟨_, rfl⟩
          rw [hW1] at HPY HRY
          rw [hF] at HRY
          rw [hW1, hF]
          clear hW1 hF p1 p2 p3 d0 d1 d2 d3 HTS
          (try dsimp only [Act.put])
          have HFC : Hid (∀ W, Below W1.heap.size W1 W → W.cell? ⟨F, 0, none⟩ = some (.int .i64 ys) ∧ W.cell? ⟨F, 1, none⟩ = some (.int .i64 yp) ∧ W.cell? ⟨F, 2, none⟩ = some (.int .i64 ya)) := fun W hb => by
            have hr := (hb.block _ (lt_of_block HRY.out)).trans HRY.out
            refine ⟨?_, ?_, ?_⟩
            all_goals (rw [cell_of_row W _ _ _ _ _ hr]; rfl)
          obtain ⟨b0, b1, b2⟩ := HFC.out W1 (Below.refl _ _)
          have HK1 := Lib.hid (HFC.out W1 (Below.refl _ _))
          have HBD : Hid (Below W1.heap.size W1 W1.drew) := (Below.refl _ _).drew
          have HPE := Lib.hid HPY.out.drew
          go_region_held3 (fun wx => wx.cell? ⟨F, 0, none⟩ = some (.int .i64 ys) ∧ wx.cell? ⟨F, 1, none⟩ = some (.int .i64 yp) ∧ wx.cell? ⟨F, 2, none⟩ = some (.int .i64 ya)) (first | (go_keep; done) | exact HK1.out | exact HKQ.out | (refine ⟨?_, ?_, ?_⟩ <;> assumption))
            (first
              | (go_at_call 30; ((with_reducible refine (M1.out _).mono ?_); rintro e y1 ⟨rfl, hb1⟩); have HQ1 := Lib.hid (HPE.out.keep hb1); have HB1 := Lib.hid (HBD.out.trans (hb1.mono HBD.out.size)); have HKQ := Lib.hid (HFC.out _ HB1.out); clear hb1)
              | (go_at_call 30; ((with_reducible refine (M2.out _).mono ?_); rintro e y2 ⟨rfl, hb2⟩); have HQ2 := Lib.hid (HQ1.out.keep hb2); have HB2 := Lib.hid (HB1.out.trans (hb2.mono HB1.out.size)); have HKQ := Lib.hid (HFC.out _ HB2.out); clear hb2)
              | (go_at_call 30; ((with_reducible refine (M3.out _).mono ?_); rintro e y3 ⟨rfl, hb3⟩); have HQ3 := Lib.hid (HQ2.out.keep hb3); have HB3 := Lib.hid (HB2.out.trans (hb3.mono HB2.out.size)); have HKQ := Lib.hid (HFC.out _ HB3.out); clear hb3)
              | fail)
          go_wp2
          go_roundw
          case rel => exact ⟨j + 1, by omega, by go_num, congrArg Value.string HSJ.out, HQ3.out⟩
          case measure => simp [intOf]; omega
        · have hje : j = LW := by omega
          have HTJ : Hid (ws.take j = ws) := by show _ = _; rw [List.take_of_length_le (by rw [HLW.out]; omega)]
          have tj : decide ((j : Int) < (LW : Int)) = false := decide_eq_false (by omega)
          have tjn : decide (j < LW) = false := decide_eq_false hlj
          clear hje
          obtain ⟨Y2, hY2⟩ : ∃ y, ((Y0 ++ HS) ++ rowsBy ws) ++ low LN 1 = y := ⟨_, rfl⟩
          have HY2 := Lib.hid hY2
          have HY2L : Hid (Y2.length ≤ 3500000) := by
            show _ ≤ _
            have h1 := HT0.out
            have h2 := HHL.out
            have h3 := HLW.out
            rw [← hY2]
            simp only [List.length_append, rowsBy_len, low_length]
            omega
          have e4 : (strOfNums (low LN 1)).size = 1 := by rw [strOfNums_size, low_length]
          have e5 : (strOfNums ((Y0 ++ HS) ++ rowsBy (ws.take j))).size ≤ 3500000 := by
            rw [strOfNums_size, HTJ.out]
            have h1 := HY2L.out
            rw [← hY2, List.length_append] at h1
            omega
          have HSX8 : Hid (strOfNums ((Y0 ++ HS) ++ rowsBy (ws.take j)) ++ strOfNums (low LN 1) = strOfNums (Y2 ++ rowsBy (ns.take 0))) := by
            show _ = _
            rw [HTJ.out, ← strOf_append, ← hY2]
            simp [rowsBy]
          obtain ⟨X4, hX4⟩ : ∃ X, strOfNums (low LN 1) = X := ⟨_, rfl⟩
          obtain ⟨X5, hX5⟩ : ∃ X, strOfNums ((Y0 ++ HS) ++ rowsBy (ws.take j)) = X := ⟨_, rfl⟩
          rw [hX4] at e4 N4
          rw [hX5] at e5
          rw [hX4, hX5] at HSX8
          rw [hX5]
          have e6 : ¬ 9223372036854775807 < X5.size + X4.size := by omega
          have e7 : ¬ 9223372036854775807 < X5.size + 1 := by omega
          clear hY2 hX4 hX5
          go_wp2_with fail
          refine (N4.out _).mono ?_
          rintro e y4 ⟨rfl, hb4⟩
          have HPX8 := Lib.hid (HTS.out.keep hb4)
          clear hb4 d0 d1 d2 d3 tj tjn HTS
          go_wp2
          obtain ⟨wo2, rfl⟩ : ∃ wo2, wo2 = wr := ⟨wr, rfl⟩
          go_loopw [3, 8] (fun v i wr => ∃ j : Nat, j ≤ LN ∧ i = .int .i64 j ∧ v = .string (strOfNums (Y2 ++ rowsBy (ns.take j))) ∧ TS E #[.int .i64 id, .int .i64 fr, .slice B LW cb, .slice C LN cc] w wr) (fun _ i _ => LN - (intOf i).toNat)
          case atStart => exact ⟨0, Nat.zero_le _, rfl, congrArg Value.string HSX8.out, HPX8.out⟩
          case round =>
            obtain ⟨j, hj, rfl, rfl, hts⟩ := hrel
            have HTS := Lib.hid hts
            obtain ⟨d0, d1, d2, d3⟩ := hts.cells
            clear hts HPX8 HSX8
            by_cases hlj : j < LN
            · obtain ⟨y, hy⟩ : ∃ y, ns[j]? = some y := ⟨_, List.getElem?_eq_getElem (by rw [HLN.out]; exact hlj)⟩
              obtain ⟨ay, hay, p1, p2, p3⟩ := (HNA.out.kept HTS.out.below) j y hy
              obtain ⟨⟨s0, s1⟩, ⟨q0, q1⟩, ⟨r0, r1⟩⟩ := rowB_in (HNR.out y (List.mem_of_getElem? hy))
              have HTJ : Hid (rowsBy (ns.take (j + 1)) = rowsBy (ns.take j) ++ rowBy y) := by show _ = _; rw [take_snoc ns j y hy, rowsBy_snoc]
              obtain ⟨ys, yp, ya⟩ := y
              dsimp only at *
              obtain ⟨ys, rfl⟩ := Int.eq_ofNat_of_zero_le s0
              obtain ⟨yp, rfl⟩ := Int.eq_ofNat_of_zero_le q0
              obtain ⟨ya, rfl⟩ := Int.eq_ofNat_of_zero_le r0
              have M1 : Hid (∀ W, Calls Tryd.prog 30 #[.int .i64 ys, .int .i64 1] W fun e w' => e = .returned (.string (strOfNums (low ys 1))) ∧ Below W.heap.size W w') := fun W => HNM.out ys 1 (by omega) (by omega) W
              have M2 : Hid (∀ W, Calls Tryd.prog 30 #[.int .i64 yp, .int .i64 4] W fun e w' => e = .returned (.string (strOfNums (low yp 4))) ∧ Below W.heap.size W w') := fun W => HNM.out yp 4 (by omega) (by omega) W
              have M3 : Hid (∀ W, Calls Tryd.prog 30 #[.int .i64 ya, .int .i64 4] W fun e w' => e = .returned (.string (strOfNums (low ya 4))) ∧ Below W.heap.size W w') := fun W => HNM.out ya 4 (by omega) (by omega) W
              have HSJ : Hid (strOfNums (Y2 ++ rowsBy (ns.take j)) ++ ((strOfNums (low ys 1) ++ strOfNums (low yp 4)) ++ strOfNums (low ya 4)) = strOfNums (Y2 ++ rowsBy (ns.take (j + 1)))) := by
                show _ = _
                have e : Y2 ++ rowsBy (ns.take (j + 1)) = (Y2 ++ rowsBy (ns.take j)) ++ ((low ys 1 ++ low yp 4) ++ low ya 4) := by rw [HTJ.out]; simp [rowBy, tkBy]
                rw [e, strOf_append _ ((low ys 1 ++ low yp 4) ++ low ya 4), strOf_append (low ys 1 ++ low yp 4) (low ya 4), strOf_append (low ys 1) (low yp 4)]
              have k1 : (strOfNums (low ys 1)).size = 1 := by rw [strOfNums_size, low_length]
              have k2 : (strOfNums (low yp 4)).size = 4 := by rw [strOfNums_size, low_length]
              have k3 : (strOfNums (low ya 4)).size = 4 := by rw [strOfNums_size, low_length]
              have k0 : (strOfNums (Y2 ++ rowsBy (ns.take j))).size ≤ 4000000 := by
                rw [strOfNums_size, List.length_append, rowsBy_len, List.length_take]
                have := HY2L.out
                omega
              obtain ⟨S0, hS0⟩ : ∃ X, strOfNums (Y2 ++ rowsBy (ns.take j)) = X := ⟨_, rfl⟩
              obtain ⟨S1, hS1⟩ : ∃ X, strOfNums (low ys 1) = X := ⟨_, rfl⟩
              obtain ⟨S2, hS2⟩ : ∃ X, strOfNums (low yp 4) = X := ⟨_, rfl⟩
              obtain ⟨S3, hS3⟩ : ∃ X, strOfNums (low ya 4) = X := ⟨_, rfl⟩
              rw [hS0, hS1, hS2, hS3] at HSJ
              rw [hS0] at k0
              rw [hS1] at k1 M1
              rw [hS2] at k2 M2
              rw [hS3] at k3 M3
              rw [hS0]
              have m1 : ¬ 9223372036854775807 < S1.size + S2.size := by omega
              have m2 : ¬ 9223372036854775807 < (S1 ++ S2).size + S3.size := by rw [ByteArray.size_append]; omega
              have m3 : ¬ 9223372036854775807 < S0.size + 9 := by omega
              have m4 : ¬ 9223372036854775807 < S0.size + (S1.size + S2.size + S3.size) := by omega
              have hji : (0 : Int) ≤ j := by omega
              have hjb : (j : Int) < LN := by omega
              have HPY : Hid (TS E #[.int .i64 id, .int .i64 fr, .slice B LW cb, .slice C LN cc] w (wr.alloc (.cells #[.int .i64 ys, .int .i64 yp, .int .i64 ya] 68))) := HTS.out.keep ((Below.refl _ _).alloc (Nat.le_refl _) _)
              have HRY := Lib.hid (heap_alloc_new wr (.cells #[.int .i64 ys, .int .i64 yp, .int .i64 ya] 68))
              subst hay
              clear hy s0 s1 q0 q1 r0 r1 hS0 hS1 hS2 hS3
              go_upto_region 17 with fail
              obtain ⟨F, hF⟩ : ∃ b, wr.heap.size = b := ⟨_, rfl⟩
              obtain ⟨W1, hW1⟩ : ∃ W, (wr.alloc (.cells #[.int .i64 ys, .int .i64 yp, .int .i64 ya] 68)) = W := ⟨_, rfl⟩
              rw [hW1] at HPY HRY
              rw [hF] at HRY
              rw [hW1, hF]
              clear hW1 hF p1 p2 p3 d0 d1 d2 d3 HTS
              (try dsimp only [Act.put])
              have HFC : Hid (∀ W, Below W1.heap.size W1 W → W.cell? ⟨F, 0, none⟩ = some (.int .i64 ys) ∧ W.cell? ⟨F, 1, none⟩ = some (.int .i64 yp) ∧ W.cell? ⟨F, 2, none⟩ = some (.int .i64 ya)) := fun W hb => by
                have hr := (hb.block _ (lt_of_block HRY.out)).trans HRY.out
                refine ⟨?_, ?_, ?_⟩
                all_goals (rw [cell_of_row W _ _ _ _ _ hr]; rfl)
              obtain ⟨b0, b1, b2⟩ := HFC.out W1 (Below.refl _ _)
              have HK1 := Lib.hid (HFC.out W1 (Below.refl _ _))
              have HBD : Hid (Below W1.heap.size W1 W1.drew) := (Below.refl _ _).drew
              have HPE := Lib.hid HPY.out.drew
              go_region_held3 (fun wx => wx.cell? ⟨F, 0, none⟩ = some (.int .i64 ys) ∧ wx.cell? ⟨F, 1, none⟩ = some (.int .i64 yp) ∧ wx.cell? ⟨F, 2, none⟩ = some (.int .i64 ya)) (first | (go_keep; done) | exact HK1.out | exact HKQ.out | (refine ⟨?_, ?_, ?_⟩ <;> assumption))
                (first
                  | (go_at_call 30; ((with_reducible refine (M1.out _).mono ?_); rintro e y1 ⟨rfl, hb1⟩); have HQ1 := Lib.hid (HPE.out.keep hb1); have HB1 := Lib.hid (HBD.out.trans (hb1.mono HBD.out.size)); have HKQ := Lib.hid (HFC.out _ HB1.out); clear hb1)
                  | (go_at_call 30; ((with_reducible refine (M2.out _).mono ?_); rintro e y2 ⟨rfl, hb2⟩); have HQ2 := Lib.hid (HQ1.out.keep hb2); have HB2 := Lib.hid (HB1.out.trans (hb2.mono HB1.out.size)); have HKQ := Lib.hid (HFC.out _ HB2.out); clear hb2)
                  | (go_at_call 30; ((with_reducible refine (M3.out _).mono ?_); rintro e y3 ⟨rfl, hb3⟩); have HQ3 := Lib.hid (HQ2.out.keep hb3); have HB3 := Lib.hid (HB2.out.trans (hb3.mono HB2.out.size)); have HKQ := Lib.hid (HFC.out _ HB3.out); clear hb3)
                  | fail)
              go_wp2
              go_roundw
              case rel => exact ⟨j + 1, by omega, by go_num, congrArg Value.string HSJ.out, HQ3.out⟩
              case measure => simp [intOf]; omega
            · have hje : j = LN := by omega
              have HTJ : Hid (ns.take j = ns) := by show _ = _; rw [List.take_of_length_le (by rw [HLN.out]; omega)]
              have tj : decide ((j : Int) < (LN : Int)) = false := decide_eq_false (by omega)
              have tjn : decide (j < LN) = false := decide_eq_false hlj
              clear hje
              have HFIN : Hid (strOfNums (Y2 ++ rowsBy (ns.take j)) = strOfNums (textS (l.take (k + 1)))) := by
                show _ = _
                rw [HTJ.out, HT.out, ← HY2.out]
                simp [List.append_assoc]
              go_wp2
              go_roundw
              case rel => exact ⟨k + 1, by rw [HA.out]; omega, by go_num, congrArg Value.string HFIN.out, HTS.out.below⟩
              case measure => simp [intOf]; omega
    · obtain rfl : k = a := by omega
      have HT : Hid (l.take k = l) := by show _ = _; rw [List.take_of_length_le (by rw [HA.out]; omega)]
      go_wp2
      go_ret
      exact ⟨by rw [HT.out]; rfl, HE.out⟩
end Go.Proofs.YtbcjkongcnpdlaaDoor.Scd
