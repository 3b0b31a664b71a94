/- What schedules' numbers may be, as the program tells it. Condition: their numbers are of 64 bits. What is wrong first with schedules, as both sides tell it. Condition: the variables hold what the program lays there; at most 1,000 schedules, their numbers of 64 bits. The bytes of schedules' numbers and rows, as the program makes them. Condition: the numbers are right. What package scheds' Put lays behind bytes. Condition: the variables hold what the program lays there; at most 1,000 schedules, at most 2 to the power 30 bytes come in. The document's Same of schedules says yes of a row and its like. No condition. The document's bytes of schedules. Condition: they are right, at most 1,000. -/
import Derived.Test.YtmcmmbkodllpkaaGreatDoorMg08
import Derived.Test.YtmcmmbkodllpkaaGreatDoorMg09
import Derived.Test.YtmcmmbkodllpkaaGreatDoorMg07
import Derived.Test.YtmcmmbkodllpkaaGreatDoorMg10
import Derived.Laws.AppendOwnNone
import Derived.Deep.CutRange
import Derived.BigQuiet
import Derived.Deep.RegionHeld3
namespace Go.Proofs.YtmcmmbkodllpkaaGreatDoor.Scd

open Go.RowKit Go.PlainAid Go.Proofs.YtmcmmbkodllpkaaGreatDoor.Oct Go.Proofs.YtmcmmbkodllpkaaGreatDoor.Flt Go.Proofs.YtmcmmbkodllpkaaGreatDoor.Rdr Go.Proofs.YtmcmmbkodllpkaaGreatDoor.Act

set_option linter.unusedVariables false

set_option linter.unusedSimpArgs false

/-- A schedule: its number, its frame, its windows, its needs. -/
structure SC where
  id : Int
  fr : Int
  ws : List A3
  ns : List A3
def tkB (n least : Int) : Bool := decide (least ≤ n) && decide (n ≤ 1048576)
def rowB (x : A3) : Bool := idB x.s && tkB x.p 0 && tkB x.a 0
def rgS (x : SC) : Nat := if (idB x.id && tkB x.fr 1) = false then 18 else if decide (256 < (x.ws.length : Int)) = true then 8 else if (!x.ws.all rowB) = true then 18 else if decide (32 < (x.ns.length : Int)) = true then 8 else if (!x.ns.all rowB) = true then 18 else 0
theorem isId_any (n : Int) (hn : I64 n) (w : World) : Calls Tryz.prog 92 #[.int .i64 n] w fun e w' => e = .returned (.bool (idB n)) ∧ w = w' := by
  have HF := Lib.hid (fun w => Hdr.fits_first hn w)
  unfold idB
  obtain ⟨b, hb⟩ : ∃ b, (decide (0 ≤ n) && decide (n ≤ 255)) = b := ⟨_, rfl⟩
  rw [hb] at HF ⊢
  clear hb hn
  go_enter Tryz.func92, Tryz.ntmps92
  go_wp2_with (go_at_call 73; refine (HF.out _).mono ?_; rintro e w' ⟨rfl, rfl⟩)
  go_ret
  exact ⟨rfl, rfl⟩
theorem isTicks_any (n least : Int) (w : World) : Calls Tryz.prog 93 #[.int .i64 n, .int .i64 least] w fun e w' => e = .returned (.bool (tkB n least)) ∧ w = w' := by
  unfold tkB
  cases h1 : decide (least ≤ n)
  · go_enter Tryz.func93, Tryz.ntmps93
    go_wp2
    go_ret
    exact ⟨rfl, rfl⟩
  · cases h2 : decide (n ≤ 1048576)
    all_goals
      go_enter Tryz.func93, Tryz.ntmps93
      go_wp2
      go_ret
      exact ⟨rfl, rfl⟩
theorem isRow_any (x : A3) (h1 : I64 x.s) (w : World) : Calls Tryz.prog 96 #[.int .i64 x.s, .int .i64 x.p, .int .i64 x.a] w fun e w' => e = .returned (.bool (rowB x)) ∧ w = w' := by
  have HI := Lib.hid (fun w => isId_any x.s h1 w)
  have HP := Lib.hid (fun w => isTicks_any x.p 0 w)
  have HA := Lib.hid (fun w => isTicks_any x.a 0 w)
  unfold rowB
  clear h1
  cases b1 : idB x.s
  · rw [b1] at HI
    clear b1
    go_enter Tryz.func96, Tryz.ntmps96
    go_wp2_with (go_at_call 92; refine (HI.out _).mono ?_; rintro e w' ⟨rfl, rfl⟩)
    go_ret
    exact ⟨rfl, rfl⟩
  · rw [b1] at HI
    clear b1
    cases b2 : tkB x.p 0
    · rw [b2] at HP
      clear b2
      go_enter Tryz.func96, Tryz.ntmps96
      go_wp2_with (first
        | (go_at_call 92; refine (HI.out _).mono ?_; rintro e w' ⟨rfl, rfl⟩)
        | (go_at_call 93; (with_reducible refine (HP.out _).mono ?_); rintro e w' ⟨rfl, rfl⟩))
      go_ret
      exact ⟨rfl, rfl⟩
    · rw [b2] at HP
      clear b2
      obtain ⟨b3, hb3⟩ : ∃ b, tkB x.a 0 = b := ⟨_, rfl⟩
      rw [hb3] at HA ⊢
      clear hb3
      go_enter Tryz.func96, Tryz.ntmps96
      go_wp2_with (first
        | (go_at_call 92; refine (HI.out _).mono ?_; rintro e w' ⟨rfl, rfl⟩)
        | (go_at_call 93; (with_reducible first | (refine (HP.out _).mono ?_) | (refine (HA.out _).mono ?_)); rintro e w' ⟨rfl, rfl⟩))
      go_ret
      exact ⟨rfl, rfl⟩
theorem predW_any (x : A3) (h1 : I64 x.s) (w : World) :
    Calls Tryz.prog 95 #[.agg #[.int .i64 x.s, .int .i64 x.p, .int .i64 x.a]] w fun e w' => e = .returned (.bool (!rowB x)) ∧ Below w.heap.size w w' := by
  have HB : Hid (∀ o, Below w.heap.size w (w.alloc o)) := fun o => (Below.refl _ _).alloc (Nat.le_refl _) o
  have HR := Lib.hid (fun w => isRow_any x h1 w)
  obtain ⟨s, p, a⟩ := x
  dsimp only at HR ⊢
  obtain ⟨t, ht⟩ : ∃ t, rowB ⟨s, p, a⟩ = t := ⟨_, rfl⟩
  rw [ht] at HR ⊢
  clear ht h1
  go_enter Tryz.func95, Tryz.ntmps95
  go_wp2_with (go_at_call 96; refine (HR.out _).mono ?_; rintro e w' ⟨rfl, rfl⟩)
  go_ret
  exact ⟨rfl, HB.out _⟩
def IRelW (l : List A3) (w : World) (i : Value) (wr : World) : Prop := ∃ k : Nat, k ≤ l.length ∧ i = .int .i64 k ∧ (∀ j x, j < k → l[j]? = some x → rowB x = true) ∧ Below w.heap.size w wr
set_option maxRecDepth 4000 in
set_option maxHeartbeats 1600000 in
theorem indexW_any (A : Option Addr) (cap : Nat) (l : List A3) (w : World) (h1 : ActsAt w A l) (hw : ∀ x ∈ l, I64 x.s) (hl : l.length ≤ maxLen) :
    Calls Tryz.prog 117 #[.slice A l.length cap, .func (.func 95) #[] #[]] w fun e w' => (∃ n : Int, e = .returned (.int .i64 n) ∧ decide (0 ≤ n) = (!l.all rowB)) ∧ Below w.heap.size w w' := by
  unfold maxLen at hl
  have H1 := Lib.hid h1
  have HW := Lib.hid hw
  obtain ⟨a, ha⟩ : ∃ a, l.length = a := ⟨_, rfl⟩
  have HA := Lib.hid ha
  rw [ha] at hl
  rw [ha]
  clear h1 hw ha
  go_enter Tryz.func117, Tryz.ntmps117
  go_wp2
  go_loopw [8] (fun i wr => IRelW l w i wr) (fun i _ => a - (intOf i).toNat)
  case atStart => exact ⟨0, Nat.zero_le _, rfl, fun j x hj => by omega, Below.refl _ _⟩
  case round =>
    obtain ⟨k, hk, rfl, hb, hbel⟩ := hrel
    have HB := Lib.hid hb
    have HE := Lib.hid hbel
    have hka : k ≤ a := by rw [← HA.out]; exact hk
    clear hb hk hbel
    by_cases hlt : k < a
    · obtain ⟨x, hx⟩ : ∃ x, l[k]? = some x := ⟨_, List.getElem?_eq_getElem (by rw [HA.out]; exact hlt)⟩
      obtain ⟨ax, rfl, c1, c2, c3⟩ := (H1.out.kept HE.out) k x hx
      have HX := Lib.hid hx
      have HC := Lib.hid (predW_any x (HW.out x (List.mem_of_getElem? hx)) wr)
      have hki : (0 : Int) ≤ k := by omega
      have hkb : (k : Int) < a := by omega
      obtain ⟨t, ht⟩ : ∃ t, rowB x = t := ⟨_, rfl⟩
      rw [ht] at HC
      have HT := Lib.hid ht
      clear hx ht
      cases t with
      | true =>
        go_wp2_with fail
        refine HC.out.mono ?_
        rintro e w2 ⟨rfl, hb2⟩
        have HB2 := Lib.hid (HE.out.trans (hb2.mono HE.out.size))
        clear hb2
        go_wp2
        go_roundw
        case rel => exact ⟨k + 1, by rw [HA.out]; omega, by go_num, fun j y hj hy => by
          by_cases hjk : j = k
          · subst hjk
            rw [HX.out] at hy
            obtain rfl := Option.some.inj hy
            exact HT.out
          · exact HB.out j y (by omega) hy, HB2.out⟩
        case measure => simp [intOf]; omega
      | false =>
        have HAL : Hid (l.all rowB = false) := by
          show _ = _
          rw [List.all_eq_false]
          exact ⟨x, List.mem_of_getElem? HX.out, by rw [HT.out]; simp⟩
        go_wp2_with fail
        refine HC.out.mono ?_
        rintro e w2 ⟨rfl, hb2⟩
        have HB2 := Lib.hid (HE.out.trans (hb2.mono HE.out.size))
        clear hb2
        go_wp2
        go_ret
        exact ⟨⟨_, rfl, by rw [HAL.out]; simp⟩, HB2.out⟩
    · obtain rfl : k = a := by omega
      have HAL : Hid (l.all rowB = true) := by
        show _ = _
        rw [List.all_eq_true]
        intro y hy
        obtain ⟨i, hi, rfl⟩ := List.mem_iff_getElem.1 hy
        exact HB.out i _ (by rw [← HA.out]; exact hi) (List.getElem?_eq_getElem hi)
      go_wp2
      go_ret
      exact ⟨⟨_, rfl, by rw [HAL.out]; rfl⟩, HE.out⟩
theorem hasW_any (A : Option Addr) (cap : Nat) (l : List A3) (w : World) (h1 : ActsAt w A l) (hw : ∀ x ∈ l, I64 x.s) (hl : l.length ≤ maxLen) :
    Calls Tryz.prog 94 #[.slice A l.length cap, .func (.func 95) #[] #[]] w fun e w' => e = .returned (.bool (!l.all rowB)) ∧ Below w.heap.size w w' := by
  have HI := Lib.hid (indexW_any A cap l w h1 hw hl)
  obtain ⟨a, ha⟩ : ∃ a, l.length = a := ⟨_, rfl⟩
  rw [ha] at HI
  rw [ha]
  obtain ⟨t, ht⟩ : ∃ t, (!l.all rowB) = t := ⟨_, rfl⟩
  rw [ht] at HI ⊢
  clear h1 hw hl ha ht
  go_enter Tryz.func94, Tryz.ntmps94
  go_wp2_with fail
  refine HI.out.mono ?_
  rintro e w2 ⟨⟨n, rfl, hn⟩, hb2⟩
  have HB2 := Lib.hid hb2
  clear hb2
  go_wp2
  go_ret
  exact ⟨rfl, HB2.out⟩
theorem predN_any (x : A3) (h1 : I64 x.s) (w : World) :
    Calls Tryz.prog 98 #[.agg #[.int .i64 x.s, .int .i64 x.p, .int .i64 x.a]] w fun e w' => e = .returned (.bool (!rowB x)) ∧ Below w.heap.size w w' := by
  have HB : Hid (∀ o, Below w.heap.size w (w.alloc o)) := fun o => (Below.refl _ _).alloc (Nat.le_refl _) o
  have HR := Lib.hid (fun w => isRow_any x h1 w)
  obtain ⟨s, p, a⟩ := x
  dsimp only at HR ⊢
  obtain ⟨t, ht⟩ : ∃ t, rowB ⟨s, p, a⟩ = t := ⟨_, rfl⟩
  rw [ht] at HR ⊢
  clear ht h1
  go_enter Tryz.func98, Tryz.ntmps98
  go_wp2_with (go_at_call 96; refine (HR.out _).mono ?_; rintro e w' ⟨rfl, rfl⟩)
  go_ret
  exact ⟨rfl, HB.out _⟩
def IRelN (l : List A3) (w : World) (i : Value) (wr : World) : Prop := ∃ k : Nat, k ≤ l.length ∧ i = .int .i64 k ∧ (∀ j x, j < k → l[j]? = some x → rowB x = true) ∧ Below w.heap.size w wr
set_option maxRecDepth 4000 in
set_option maxHeartbeats 1600000 in
theorem indexN_any (A : Option Addr) (cap : Nat) (l : List A3) (w : World) (h1 : ActsAt w A l) (hw : ∀ x ∈ l, I64 x.s) (hl : l.length ≤ maxLen) :
    Calls Tryz.prog 118 #[.slice A l.length cap, .func (.func 98) #[] #[]] w fun e w' => (∃ n : Int, e = .returned (.int .i64 n) ∧ decide (0 ≤ n) = (!l.all rowB)) ∧ Below w.heap.size w w' := by
  unfold maxLen at hl
  have H1 := Lib.hid h1
  have HW := Lib.hid hw
  obtain ⟨a, ha⟩ : ∃ a, l.length = a := ⟨_, rfl⟩
  have HA := Lib.hid ha
  rw [ha] at hl
  rw [ha]
  clear h1 hw ha
  go_enter Tryz.func118, Tryz.ntmps118
  go_wp2
  go_loopw [8] (fun i wr => IRelN l w i wr) (fun i _ => a - (intOf i).toNat)
  case atStart => exact ⟨0, Nat.zero_le _, rfl, fun j x hj => by omega, Below.refl _ _⟩
  case round =>
    obtain ⟨k, hk, rfl, hb, hbel⟩ := hrel
    have HB := Lib.hid hb
    have HE := Lib.hid hbel
    have hka : k ≤ a := by rw [← HA.out]; exact hk
    clear hb hk hbel
    by_cases hlt : k < a
    · obtain ⟨x, hx⟩ : ∃ x, l[k]? = some x := ⟨_, List.getElem?_eq_getElem (by rw [HA.out]; exact hlt)⟩
      obtain ⟨ax, rfl, c1, c2, c3⟩ := (H1.out.kept HE.out) k x hx
      have HX := Lib.hid hx
      have HC := Lib.hid (predN_any x (HW.out x (List.mem_of_getElem? hx)) wr)
      have hki : (0 : Int) ≤ k := by omega
      have hkb : (k : Int) < a := by omega
      obtain ⟨t, ht⟩ : ∃ t, rowB x = t := ⟨_, rfl⟩
      rw [ht] at HC
      have HT := Lib.hid ht
      clear hx ht
      cases t with
      | true =>
        go_wp2_with fail
        refine HC.out.mono ?_
        rintro e w2 ⟨rfl, hb2⟩
        have HB2 := Lib.hid (HE.out.trans (hb2.mono HE.out.size))
        clear hb2
        go_wp2
        go_roundw
        case rel => exact ⟨k + 1, by rw [HA.out]; omega, by go_num, fun j y hj hy => by
          by_cases hjk : j = k
          · subst hjk
            rw [HX.out] at hy
            obtain rfl := Option.some.inj hy
            exact HT.out
          · exact HB.out j y (by omega) hy, HB2.out⟩
        case measure => simp [intOf]; omega
      | false =>
        have HAL : Hid (l.all rowB = false) := by
          show _ = _
          rw [List.all_eq_false]
          exact ⟨x, List.mem_of_getElem? HX.out, by rw [HT.out]; simp⟩
        go_wp2_with fail
        refine HC.out.mono ?_
        rintro e w2 ⟨rfl, hb2⟩
        have HB2 := Lib.hid (HE.out.trans (hb2.mono HE.out.size))
        clear hb2
        go_wp2
        go_ret
        exact ⟨⟨_, rfl, by rw [HAL.out]; simp⟩, HB2.out⟩
    · obtain rfl : k = a := by omega
      have HAL : Hid (l.all rowB = true) := by
        show _ = _
        rw [List.all_eq_true]
        intro y hy
        obtain ⟨i, hi, rfl⟩ := List.mem_iff_getElem.1 hy
        exact HB.out i _ (by rw [← HA.out]; exact hi) (List.getElem?_eq_getElem hi)
      go_wp2
      go_ret
      exact ⟨⟨_, rfl, by rw [HAL.out]; rfl⟩, HE.out⟩
theorem hasN_any (A : Option Addr) (cap : Nat) (l : List A3) (w : World) (h1 : ActsAt w A l) (hw : ∀ x ∈ l, I64 x.s) (hl : l.length ≤ maxLen) :
    Calls Tryz.prog 97 #[.slice A l.length cap, .func (.func 98) #[] #[]] w fun e w' => e = .returned (.bool (!l.all rowB)) ∧ Below w.heap.size w w' := by
  have HI := Lib.hid (indexN_any A cap l w h1 hw hl)
  obtain ⟨a, ha⟩ : ∃ a, l.length = a := ⟨_, rfl⟩
  rw [ha] at HI
  rw [ha]
  obtain ⟨t, ht⟩ : ∃ t, (!l.all rowB) = t := ⟨_, rfl⟩
  rw [ht] at HI ⊢
  clear h1 hw hl ha ht
  go_enter Tryz.func97, Tryz.ntmps97
  go_wp2_with fail
  refine HI.out.mono ?_
  rintro e w2 ⟨⟨n, rfl, hn⟩, hb2⟩
  have HB2 := Lib.hid hb2
  clear hb2
  go_wp2
  go_ret
  exact ⟨rfl, HB2.out⟩
def scC (x : SC) (B : Option Addr) (cb : Nat) (C : Option Addr) (cc : Nat) : Array Value := #[.int .i64 x.id, .int .i64 x.fr, .slice B x.ws.length cb, .slice C x.ns.length cc]
set_option maxRecDepth 4000 in
set_option maxHeartbeats 1600000 in
theorem sright_any (x : SC) (B : Option Addr) (cb : Nat) (C : Option Addr) (cc : Nat) (w : World) (hid : I64 x.id) (hB : ActsAt w B x.ws) (hC : ActsAt w C x.ns) (hwb : ∀ y ∈ x.ws, I64 y.s) (hwc : ∀ y ∈ x.ns, I64 y.s) (hlb : x.ws.length ≤ maxLen) (hlc : x.ns.length ≤ maxLen) :
    Calls Tryz.prog 75 #[.agg (scC x B cb C cc)] w fun e w' => e = .returned (.int .i64 (rgS x)) ∧ Below w.heap.size w w' := by
  unfold rgS scC
  have HB0 : Hid (∀ o, Below w.heap.size w (w.alloc o)) := fun o => (Below.refl _ _).alloc (Nat.le_refl _) o
  have HN := Lib.hid (fun o => heap_alloc_new w o)
  have HI := Lib.hid (fun w => isId_any x.id hid w)
  have HT := Lib.hid (fun w => isTicks_any x.fr 1 w)
  have HW := Lib.hid (fun W b => hasW_any B cb x.ws W (hB.kept (w' := W) b) hwb hlb)
  have HE := Lib.hid (fun W b => hasN_any C cc x.ns W (hC.kept (w' := W) b) hwc hlc)
  obtain ⟨id, fr, ws, ns⟩ := x
  dsimp only at *
  obtain ⟨lw, hlw⟩ : ∃ n, ws.length = n := ⟨_, rfl⟩
  obtain ⟨ln, hln⟩ : ∃ n, ns.length = n := ⟨_, rfl⟩
  rw [hlw] at HW ⊢
  rw [hln] at HE ⊢
  obtain ⟨bw, hbw⟩ : ∃ b, (!ws.all rowB) = b := ⟨_, rfl⟩
  obtain ⟨bn, hbn⟩ : ∃ b, (!ns.all rowB) = b := ⟨_, rfl⟩
  rw [hbw] at HW ⊢
  rw [hbn] at HE ⊢
  clear hid hB hC hwb hwc hlb hlc hlw hln hbw hbn
  cases t1 : idB id with
  | false =>
    rw [t1] at HI
    clear t1
    go_enter Tryz.func75, Tryz.ntmps75
    go_wp2_with (first
      | (go_at_call 92; refine (HI.out _).mono ?_; rintro e w' ⟨rfl, rfl⟩)
      | (go_at_call 93; refine (HT.out _).mono ?_; rintro e w' ⟨rfl, rfl⟩)
      | (go_at_call 94; refine (HW.out _ (HB0.out _)).mono ?_; rintro e w2 ⟨rfl, hb2⟩; have HB2 := Lib.hid ((HB0.out _).trans (hb2.mono (HB0.out _).size)); have hr2 := (hb2.block _ (lt_of_block (HN.out _))).trans (HN.out _); have e3 := cell_of_row w2 _ 3 _ _ _ hr2; simp only [List.getElem?_toArray, List.getElem?_cons_zero, List.getElem?_cons_succ] at e3; clear hb2 hr2)
      | (go_at_call 97; refine (HE.out _ HB2.out).mono ?_; rintro e w3 ⟨rfl, hb3⟩; have HB3 := Lib.hid (HB2.out.trans (hb3.mono HB2.out.size)); clear hb3))
    go_ret
    exact ⟨rfl, HB0.out _⟩
  | true =>
  rw [t1] at HI
  clear t1
  cases t2 : tkB fr 1 with
  | false =>
    rw [t2] at HT
    clear t2
    go_enter Tryz.func75, Tryz.ntmps75
    go_wp2_with (first
      | (go_at_call 92; refine (HI.out _).mono ?_; rintro e w' ⟨rfl, rfl⟩)
      | (go_at_call 93; refine (HT.out _).mono ?_; rintro e w' ⟨rfl, rfl⟩)
      | (go_at_call 94; refine (HW.out _ (HB0.out _)).mono ?_; rintro e w2 ⟨rfl, hb2⟩; have HB2 := Lib.hid ((HB0.out _).trans (hb2.mono (HB0.out _).size)); have hr2 := (hb2.block _ (lt_of_block (HN.out _))).trans (HN.out _); have e3 := cell_of_row w2 _ 3 _ _ _ hr2; simp only [List.getElem?_toArray, List.getElem?_cons_zero, List.getElem?_cons_succ] at e3; clear hb2 hr2)
      | (go_at_call 97; refine (HE.out _ HB2.out).mono ?_; rintro e w3 ⟨rfl, hb3⟩; have HB3 := Lib.hid (HB2.out.trans (hb3.mono HB2.out.size)); clear hb3))
    go_ret
    exact ⟨rfl, HB0.out _⟩
  | true =>
  rw [t2] at HT
  clear t2
  cases t3 : decide (256 < (lw : Int)) with
  | true =>
    go_enter Tryz.func75, Tryz.ntmps75
    go_wp2_with (first
      | (go_at_call 92; refine (HI.out _).mono ?_; rintro e w' ⟨rfl, rfl⟩)
      | (go_at_call 93; refine (HT.out _).mono ?_; rintro e w' ⟨rfl, rfl⟩)
      | (go_at_call 94; refine (HW.out _ (HB0.out _)).mono ?_; rintro e w2 ⟨rfl, hb2⟩; have HB2 := Lib.hid ((HB0.out _).trans (hb2.mono (HB0.out _).size)); have hr2 := (hb2.block _ (lt_of_block (HN.out _))).trans (HN.out _); have e3 := cell_of_row w2 _ 3 _ _ _ hr2; simp only [List.getElem?_toArray, List.getElem?_cons_zero, List.getElem?_cons_succ] at e3; clear hb2 hr2)
      | (go_at_call 97; refine (HE.out _ HB2.out).mono ?_; rintro e w3 ⟨rfl, hb3⟩; have HB3 := Lib.hid (HB2.out.trans (hb3.mono HB2.out.size)); clear hb3))
    go_ret
    exact ⟨rfl, HB0.out _⟩
  | false =>
  cases bw with
  | true =>
    go_enter Tryz.func75, Tryz.ntmps75
    go_wp2_with (first
      | (go_at_call 92; refine (HI.out _).mono ?_; rintro e w' ⟨rfl, rfl⟩)
      | (go_at_call 93; refine (HT.out _).mono ?_; rintro e w' ⟨rfl, rfl⟩)
      | (go_at_call 94; refine (HW.out _ (HB0.out _)).mono ?_; rintro e w2 ⟨rfl, hb2⟩; have HB2 := Lib.hid ((HB0.out _).trans (hb2.mono (HB0.out _).size)); have hr2 := (hb2.block _ (lt_of_block (HN.out _))).trans (HN.out _); have e3 := cell_of_row w2 _ 3 _ _ _ hr2; simp only [List.getElem?_toArray, List.getElem?_cons_zero, List.getElem?_cons_succ] at e3; clear hb2 hr2)
      | (go_at_call 97; refine (HE.out _ HB2.out).mono ?_; rintro e w3 ⟨rfl, hb3⟩; have HB3 := Lib.hid (HB2.out.trans (hb3.mono HB2.out.size)); clear hb3))
    go_ret
    exact ⟨rfl, HB2.out⟩
  | false =>
  cases t4 : decide (32 < (ln : Int)) with
  | true =>
    go_enter Tryz.func75, Tryz.ntmps75
    go_wp2_with (first
      | (go_at_call 92; refine (HI.out _).mono ?_; rintro e w' ⟨rfl, rfl⟩)
      | (go_at_call 93; refine (HT.out _).mono ?_; rintro e w' ⟨rfl, rfl⟩)
      | (go_at_call 94; refine (HW.out _ (HB0.out _)).mono ?_; rintro e w2 ⟨rfl, hb2⟩; have HB2 := Lib.hid ((HB0.out _).trans (hb2.mono (HB0.out _).size)); have hr2 := (hb2.block _ (lt_of_block (HN.out _))).trans (HN.out _); have e3 := cell_of_row w2 _ 3 _ _ _ hr2; simp only [List.getElem?_toArray, List.getElem?_cons_zero, List.getElem?_cons_succ] at e3; clear hb2 hr2)
      | (go_at_call 97; refine (HE.out _ HB2.out).mono ?_; rintro e w3 ⟨rfl, hb3⟩; have HB3 := Lib.hid (HB2.out.trans (hb3.mono HB2.out.size)); clear hb3))
    go_ret
    exact ⟨rfl, HB2.out⟩
  | false =>
  cases bn with
  | true =>
    go_enter Tryz.func75, Tryz.ntmps75
    go_wp2_with (first
      | (go_at_call 92; refine (HI.out _).mono ?_; rintro e w' ⟨rfl, rfl⟩)
      | (go_at_call 93; refine (HT.out _).mono ?_; rintro e w' ⟨rfl, rfl⟩)
      | (go_at_call 94; refine (HW.out _ (HB0.out _)).mono ?_; rintro e w2 ⟨rfl, hb2⟩; have HB2 := Lib.hid ((HB0.out _).trans (hb2.mono (HB0.out _).size)); have hr2 := (hb2.block _ (lt_of_block (HN.out _))).trans (HN.out _); have e3 := cell_of_row w2 _ 3 _ _ _ hr2; simp only [List.getElem?_toArray, List.getElem?_cons_zero, List.getElem?_cons_succ] at e3; clear hb2 hr2)
      | (go_at_call 97; refine (HE.out _ HB2.out).mono ?_; rintro e w3 ⟨rfl, hb3⟩; have HB3 := Lib.hid (HB2.out.trans (hb3.mono HB2.out.size)); clear hb3))
    go_ret
    exact ⟨rfl, HB3.out⟩
  | false =>
    go_enter Tryz.func75, Tryz.ntmps75
    go_wp2_with (first
      | (go_at_call 92; refine (HI.out _).mono ?_; rintro e w' ⟨rfl, rfl⟩)
      | (go_at_call 93; refine (HT.out _).mono ?_; rintro e w' ⟨rfl, rfl⟩)
      | (go_at_call 94; refine (HW.out _ (HB0.out _)).mono ?_; rintro e w2 ⟨rfl, hb2⟩; have HB2 := Lib.hid ((HB0.out _).trans (hb2.mono (HB0.out _).size)); have hr2 := (hb2.block _ (lt_of_block (HN.out _))).trans (HN.out _); have e3 := cell_of_row w2 _ 3 _ _ _ hr2; simp only [List.getElem?_toArray, List.getElem?_cons_zero, List.getElem?_cons_succ] at e3; clear hb2 hr2)
      | (go_at_call 97; refine (HE.out _ HB2.out).mono ?_; rintro e w3 ⟨rfl, hb3⟩; have HB3 := Lib.hid (HB2.out.trans (hb3.mono HB2.out.size)); clear hb3))
    go_ret
    exact ⟨rfl, HB3.out⟩
end Go.Proofs.YtmcmmbkodllpkaaGreatDoor.Scd

namespace Go.Proofs.YtmcmmbkodllpkaaGreatDoor.Scd

open Go.RowKit Go.PlainAid Go.Proofs.YtmcmmbkodllpkaaGreatDoor.Oct Go.Proofs.YtmcmmbkodllpkaaGreatDoor.Flt Go.Proofs.YtmcmmbkodllpkaaGreatDoor.Rdr Go.Proofs.YtmcmmbkodllpkaaGreatDoor.Act

open Go.Proofs.YtmcmmbkodllpkaaGreatDoor.Prt (fb fb_step fb_end take_snoc below_drewN)

open Go.Proofs.YtmcmmbkodllpkaaGreatDoor.Hdr (below_set2)

set_option linter.unusedVariables false

set_option linter.unusedSimpArgs false

/-- Schedules lie at an address. -/
def ScdAt (w : World) (A : Option Addr) (l : List SC) : Prop :=
  ∀ i x, l[i]? = some x → ∃ y B cb C cc, A = some y ∧ w.cell? (y.add (i * 4)) = some (.int .i64 x.id) ∧ w.cell? ⟨(y.add (i * 4)).block, (y.add (i * 4)).off + 1, none⟩ = some (.int .i64 x.fr) ∧ w.cell? ⟨(y.add (i * 4)).block, (y.add (i * 4)).off + 2, none⟩ = some (.slice B x.ws.length cb) ∧ w.cell? ⟨(y.add (i * 4)).block, (y.add (i * 4)).off + 3, none⟩ = some (.slice C x.ns.length cc) ∧
    ActsAt w B x.ws ∧ (B = none → cb = 0) ∧ x.ws.length ≤ cb ∧ cb ≤ maxLen ∧ ActsAt w C x.ns ∧ (C = none → cc = 0) ∧ x.ns.length ≤ cc ∧ cc ≤ maxLen
theorem ScdAt.kept {w w' : World} {A : Option Addr} {l : List SC} (h : ScdAt w A l) (b : Below w.heap.size w w') : ScdAt w' A l := by
  intro i x hx
  obtain ⟨y, B, cb, C, cc, e, h1, h2, h3, h4, h5, h6, h7, h8, h9, h10⟩ := h i x hx
  exact ⟨y, B, cb, C, cc, e, (b.cell (Go.block_lt_of_cell h1)).trans h1, (b.cell (Go.block_lt_of_cell h2)).trans h2, (b.cell (Go.block_lt_of_cell h3)).trans h3, (b.cell (Go.block_lt_of_cell h4)).trans h4, h5.kept b, h6, h7, h8, h9.kept b, h10⟩
def lastS (l : List SC) : Int := (l.getLast?.map SC.id).getD (-1)
theorem lastS_snoc (l : List SC) (x : SC) : lastS (l ++ [x]) = x.id := by simp [lastS]
def b1S (pre : List SC) (x : SC) : Nat := if rgS x = 0 then (if x.id ≤ lastS pre then 9 else 0) else rgS x
def badS (l : List SC) : Nat × Int := fb b1S [] l
theorem rgS_le (x : SC) : rgS x ≤ 18 := by unfold rgS; repeat' split
                                           all_goals omega
theorem rgS_id {x : SC} (h : rgS x = 0) : 0 ≤ x.id := by
  unfold rgS at h
  split at h
  · cases h
  · rename_i h1
    simp [idB] at h1
    omega
def sec3 (k : Nat) : Int := if k = 0 then 0 else 3
def WideS (x : SC) : Prop := I64 x.id ∧ (∀ y ∈ x.ws, Wide y) ∧ (∀ y ∈ x.ns, Wide y)
def WPost (q : Nat × Int) (w : World) (e : Ending) (w' : World) : Prop := ∃ x, e = .returned x ∧ Wrong w' x q.1 (sec3 q.1) q.2 ∧ Below w.heap.size w w'
def WRel (l : List SC) (w : World) (v i : Value) (wr : World) : Prop := ∃ k : Nat, k ≤ l.length ∧ i = .int .i64 k ∧ v = .int .i64 (lastS (l.take k)) ∧ badS l = fb b1S (l.take k) (l.drop k) ∧ Below w.heap.size w wr
def inB (v a b : Int) : Bool := decide (a ≤ v) && decide (v ≤ b)
theorem within_any (v a b : Int) (w : World) : Calls Tryz.prog 49 #[.int .i64 v, .int .i64 a, .int .i64 b] w fun e w' => e = .returned (.bool (inB v a b)) ∧ w = w' := by
  unfold inB
  cases h1 : decide (a ≤ v)
  · go_enter Tryz.func49, Tryz.ntmps49
    go_wp2
    go_ret
    exact ⟨rfl, rfl⟩
  · cases h2 : decide (v ≤ b)
    all_goals
      go_enter Tryz.func49, Tryz.ntmps49
      go_wp2
      go_ret
      exact ⟨rfl, rfl⟩
def RRel (l : List A3) (w : World) (c0 : Array Value) (i : Value) (wr : World) : Prop := ∃ k : Nat, k ≤ l.length ∧ i = .int .i64 k ∧ (∀ j x, j < k → l[j]? = some x → rowB x = true) ∧ wr.heap[w.heap.size]? = some (.cells c0 49 (0, 0)) ∧ Below w.heap.size w wr
theorem all_yes {l : List A3} (h : ∀ j x, j < l.length → l[j]? = some x → rowB x = true) : l.all rowB = true := by
  rw [List.all_eq_true]
  intro y hy
  obtain ⟨i, hi, rfl⟩ := List.mem_iff_getElem.1 hy
  exact h i _ hi (List.getElem?_eq_getElem hi)
theorem all_no {l : List A3} {k : Nat} {x : A3} (hx : l[k]? = some x) (h : rowB x = false) : l.all rowB = false := by
  rw [List.all_eq_false]
  exact ⟨x, List.mem_of_getElem? hx, by rw [h]; simp⟩
set_option maxRecDepth 8000 in
set_option maxHeartbeats 6400000 in
theorem sright09_any (x : SC) (B : Option Addr) (cb : Nat) (C : Option Addr) (cc : Nat) (w : World) (hB : ActsAt w B x.ws) (hC : ActsAt w C x.ns) (hlb : x.ws.length ≤ maxLen) (hlc : x.ns.length ≤ maxLen) :
    Calls Tryz.prog 33 #[.agg (scC x B cb C cc)] w fun e w' => e = .returned (.int .i64 (rgS x)) ∧ Below w.heap.size w w' := by
  have HRG0 : Hid (rgS x = if (inB x.id 0 255 && inB x.fr 1 1048576) = false then 18 else if decide (256 < (x.ws.length : Int)) = true then 8 else if (!x.ws.all rowB) = true then 18 else if decide (32 < (x.ns.length : Int)) = true then 8 else if (!x.ns.all rowB) = true then 18 else 0) := rfl
  have HA1 := Lib.hid hB
  have HA2 := Lib.hid hC
  have I4 := Lib.hid (fun w => within_any x.id 0 255 w)
  have I5 := Lib.hid (fun w => within_any x.fr 1 1048576 w)
  unfold scC
  obtain ⟨rgv, hrgv⟩ : ∃ v, rgS x = v := ⟨_, rfl⟩
  rw [hrgv] at HRG0 ⊢
  obtain ⟨id, fr, ws, ns⟩ := x
  dsimp only at *
  obtain ⟨lw, hlw⟩ : ∃ n, ws.length = n := ⟨_, rfl⟩
  obtain ⟨ln, hln⟩ : ∃ n, ns.length = n := ⟨_, rfl⟩
  have HL1 := Lib.hid hlw
  have HL2 := Lib.hid hln
  rw [hlw] at HRG0 hlb ⊢
  rw [hln] at HRG0 hlc ⊢
  unfold maxLen at hlb hlc
  obtain ⟨b4, hb4⟩ : ∃ b, inB id 0 255 = b := ⟨_, rfl⟩
  obtain ⟨b5, hb5⟩ : ∃ b, inB fr 1 1048576 = b := ⟨_, rfl⟩
  rw [hb4] at I4 HRG0
  rw [hb5] at I5 HRG0
  have HB0 : Hid (∀ o, Below w.heap.size w (w.alloc o)) := fun o => (Below.refl _ _).alloc (Nat.le_refl _) o
  have HR1 := Lib.hid (heap_alloc_new w (.cells #[.int .i64 id, .int .i64 fr, .slice B lw cb, .slice C ln cc] 49))
  have HBL1 : Hid (Below w.heap.size w (w.alloc (.cells #[.int .i64 id, .int .i64 fr, .slice B lw cb, .slice C ln cc] 49))) := (Below.refl _ _).alloc (Nat.le_refl _) _
  clear hB hC hrgv hlw hln hb4 hb5
  cases b4 with
  | false =>
    have HG : Hid (rgv = 18) := by show _ = _; rw [HRG0.out]; rfl
    go_enter Tryz.func33, Tryz.ntmps33
    go_wp2_with (go_at_call 49; (with_reducible refine (I4.out _).mono ?_); rintro e w' ⟨rfl, rfl⟩)
    go_ret
    exact ⟨by rw [HG.out]; rfl, HB0.out _⟩
  | true =>
  cases b5 with
  | false =>
    have HG : Hid (rgv = 18) := by show _ = _; rw [HRG0.out]; rfl
    go_enter Tryz.func33, Tryz.ntmps33
    go_wp2_with (go_at_call 49; (with_reducible first | (refine (I4.out _).mono ?_) | (refine (I5.out _).mono ?_)); rintro e w' ⟨rfl, rfl⟩)
    go_ret
    exact ⟨by rw [HG.out]; rfl, HB0.out _⟩
  | true =>
  cases t3 : decide (256 < (lw : Int)) with
  | true =>
    have HG : Hid (rgv = 8) := by show _ = _; rw [HRG0.out, t3]; rfl
    go_enter Tryz.func33, Tryz.ntmps33
    go_wp2_with (go_at_call 49; (with_reducible first | (refine (I4.out _).mono ?_) | (refine (I5.out _).mono ?_)); rintro e w' ⟨rfl, rfl⟩)
    go_ret
    exact ⟨by rw [HG.out]; rfl, HB0.out _⟩
  | false =>
  have HRG : Hid (rgv = if (!ws.all rowB) = true then 18 else if decide (32 < (ln : Int)) = true then 8 else if (!ns.all rowB) = true then 18 else 0) := by show _ = _; rw [HRG0.out, t3]; rfl
  clear HRG0
  go_enter Tryz.func33, Tryz.ntmps33
  go_wp2_with (go_at_call 49; (with_reducible first | (refine (I4.out _).mono ?_) | (refine (I5.out _).mono ?_)); rintro e w' ⟨rfl, rfl⟩)
  go_loopw [3] (fun i wr => RRel ws w #[.int .i64 id, .int .i64 fr, .slice B lw cb, .slice C ln cc] i wr) (fun i _ => lw - (intOf i).toNat)
  case atStart => exact ⟨0, Nat.zero_le _, rfl, fun j x hj => by omega, HR1.out, HBL1.out⟩
  case round =>
    obtain ⟨k, hk, rfl, hall, hrow, hbel⟩ := hrel
    have HALL1 := Lib.hid hall
    have HE := Lib.hid hbel
    have HROW := Lib.hid hrow
    have hka : k ≤ lw := by rw [← HL1.out]; exact hk
    have q2 := cell_of_row wr _ 2 _ _ _ hrow
    have q3 := cell_of_row wr _ 3 _ _ _ hrow
    simp only [List.getElem?_toArray, List.getElem?_cons_zero, List.getElem?_cons_succ] at q2 q3
    clear hall hk hbel hrow HR1 HBL1
    by_cases hlt : k < lw
    · obtain ⟨x, hx⟩ : ∃ x, ws[k]? = some x := ⟨_, List.getElem?_eq_getElem (by rw [HL1.out]; exact hlt)⟩
      obtain ⟨ax, rfl, c1, c2, c3⟩ := (HA1.out.kept HE.out) k x hx
      have HX := Lib.hid hx
      have I1 := Lib.hid (fun w => within_any x.s 0 255 w)
      have I2 := Lib.hid (fun w => within_any x.p 0 1048576 w)
      have I3 := Lib.hid (fun w => within_any x.a 0 1048576 w)
      have HRB : Hid (rowB x = (inB x.s 0 255 && inB x.p 0 1048576 && inB x.a 0 1048576)) := rfl
      obtain ⟨b1, hb1⟩ : ∃ b, inB x.s 0 255 = b := ⟨_, rfl⟩
      obtain ⟨b2, hb2⟩ : ∃ b, inB x.p 0 1048576 = b := ⟨_, rfl⟩
      obtain ⟨b3, hb3⟩ : ∃ b, inB x.a 0 1048576 = b := ⟨_, rfl⟩
      rw [hb1] at I1 HRB
      rw [hb2] at I2 HRB
      rw [hb3] at I3 HRB
      have hki : (0 : Int) ≤ k := by omega
      have hkb : (k : Int) < lw := by omega
      have HB5 := Lib.hid (fun o => HE.out.alloc HE.out.size (o := o))
      have HR5 := Lib.hid (fun o => (heap_alloc_old wr o (lt_of_block HROW.out)).trans HROW.out)
      clear hx hb1 hb2 hb3
      cases b1 with
      | false =>
        have HNO := Lib.hid (all_no HX.out HRB.out)
        go_wp2_with (go_at_call 49; (with_reducible refine (I1.out _).mono ?_); rintro e w' ⟨rfl, rfl⟩)
        go_ret
        exact ⟨by rw [HRG.out, HNO.out]; rfl, HB5.out _⟩
      | true =>
      cases b2 with
      | false =>
        have HNO := Lib.hid (all_no HX.out HRB.out)
        go_wp2_with (go_at_call 49; (with_reducible first | (refine (I1.out _).mono ?_) | (refine (I2.out _).mono ?_)); rintro e w' ⟨rfl, rfl⟩)
        go_ret
        exact ⟨by rw [HRG.out, HNO.out]; rfl, HB5.out _⟩
      | true =>
      cases b3 with
      | false =>
        have HNO := Lib.hid (all_no HX.out HRB.out)
        go_wp2_with (go_at_call 49; (with_reducible first | (refine (I1.out _).mono ?_) | (refine (I2.out _).mono ?_) | (refine (I3.out _).mono ?_)); rintro e w' ⟨rfl, rfl⟩)
        go_ret
        exact ⟨by rw [HRG.out, HNO.out]; rfl, HB5.out _⟩
      | true =>
        go_wp2_with (go_at_call 49; (with_reducible first | (refine (I1.out _).mono ?_) | (refine (I2.out _).mono ?_) | (refine (I3.out _).mono ?_)); rintro e w' ⟨rfl, rfl⟩)
        go_roundw
        case rel => exact ⟨k + 1, by rw [HL1.out]; omega, by go_num, fun j y hj hy => by
          by_cases hjk : j = k
          · subst hjk
            rw [HX.out] at hy
            obtain rfl := Option.some.inj hy
            exact HRB.out
          · exact HALL1.out j y (by omega) hy, HR5.out _, HB5.out _⟩
        case measure => simp [intOf]; omega
    · have hkl : k = lw := by omega
      have HY1 := Lib.hid (all_yes (l := ws) fun j x hj hx => HALL1.out j x (by rw [hkl, ← HL1.out]; exact hj) hx)
      have tk1 : decide ((k : Int) < (lw : Int)) = false := decide_eq_false (by omega)
      have tkn1 : decide (k < lw) = false := decide_eq_false hlt
      clear hkl
      have HR2 := Lib.hid HROW.out
      have HBL2 := Lib.hid HE.out
      cases t4 : decide (32 < (ln : Int)) with
      | true =>
        have HG4 : Hid (rgv = 8) := by show _ = _; rw [HRG.out, HY1.out, t4]; rfl
        go_wp2
        go_ret
        exact ⟨by rw [HG4.out]; rfl, HE.out⟩
      | false =>
        have HT4 := Lib.hid t4
        go_wp2
        go_loopw [5] (fun i wr => RRel ns w #[.int .i64 id, .int .i64 fr, .slice B lw cb, .slice C ln cc] i wr) (fun i _ => ln - (intOf i).toNat)
        case atStart => exact ⟨0, Nat.zero_le _, rfl, fun j x hj => by omega, HR2.out, HBL2.out⟩
        case round =>
          obtain ⟨k, hk, rfl, hall, hrow, hbel⟩ := hrel
          have HALL2 := Lib.hid hall
          have HE := Lib.hid hbel
          have HROW := Lib.hid hrow
          have hka : k ≤ ln := by rw [← HL2.out]; exact hk
          have q2 := cell_of_row wr _ 2 _ _ _ hrow
          have q3 := cell_of_row wr _ 3 _ _ _ hrow
          simp only [List.getElem?_toArray, List.getElem?_cons_zero, List.getElem?_cons_succ] at q2 q3
          clear hall hk hbel hrow HR2 HBL2
          by_cases hlt : k < ln
          · obtain ⟨x, hx⟩ : ∃ x, ns[k]? = some x := ⟨_, List.getElem?_eq_getElem (by rw [HL2.out]; exact hlt)⟩
            obtain ⟨ax, rfl, c1, c2, c3⟩ := (HA2.out.kept HE.out) k x hx
            have HX := Lib.hid hx
            have I1 := Lib.hid (fun w => within_any x.s 0 255 w)
            have I2 := Lib.hid (fun w => within_any x.p 0 1048576 w)
            have I3 := Lib.hid (fun w => within_any x.a 0 1048576 w)
            have HRB : Hid (rowB x = (inB x.s 0 255 && inB x.p 0 1048576 && inB x.a 0 1048576)) := rfl
            obtain ⟨b1, hb1⟩ : ∃ b, inB x.s 0 255 = b := ⟨_, rfl⟩
            obtain ⟨b2, hb2⟩ : ∃ b, inB x.p 0 1048576 = b := ⟨_, rfl⟩
            obtain ⟨b3, hb3⟩ : ∃ b, inB x.a 0 1048576 = b := ⟨_, rfl⟩
            rw [hb1] at I1 HRB
            rw [hb2] at I2 HRB
            rw [hb3] at I3 HRB
            have hki : (0 : Int) ≤ k := by omega
            have hkb : (k : Int) < ln := by omega
            have HB5 := Lib.hid (fun o => HE.out.alloc HE.out.size (o := o))
            have HR5 := Lib.hid (fun o => (heap_alloc_old wr o (lt_of_block HROW.out)).trans HROW.out)
            clear hx hb1 hb2 hb3
            cases b1 with
            | false =>
              have HNO := Lib.hid (all_no HX.out HRB.out)
              go_wp2_with (go_at_call 49; (with_reducible refine (I1.out _).mono ?_); rintro e w' ⟨rfl, rfl⟩)
              go_ret
              exact ⟨by rw [HRG.out, HY1.out, HT4.out, HNO.out]; rfl, HB5.out _⟩
            | true =>
            cases b2 with
            | false =>
              have HNO := Lib.hid (all_no HX.out HRB.out)
              go_wp2_with (go_at_call 49; (with_reducible first | (refine (I1.out _).mono ?_) | (refine (I2.out _).mono ?_)); rintro e w' ⟨rfl, rfl⟩)
              go_ret
              exact ⟨by rw [HRG.out, HY1.out, HT4.out, HNO.out]; rfl, HB5.out _⟩
            | true =>
            cases b3 with
            | false =>
              have HNO := Lib.hid (all_no HX.out HRB.out)
              go_wp2_with (go_at_call 49; (with_reducible first | (refine (I1.out _).mono ?_) | (refine (I2.out _).mono ?_) | (refine (I3.out _).mono ?_)); rintro e w' ⟨rfl, rfl⟩)
              go_ret
              exact ⟨by rw [HRG.out, HY1.out, HT4.out, HNO.out]; rfl, HB5.out _⟩
            | true =>
              go_wp2_with (go_at_call 49; (with_reducible first | (refine (I1.out _).mono ?_) | (refine (I2.out _).mono ?_) | (refine (I3.out _).mono ?_)); rintro e w' ⟨rfl, rfl⟩)
              go_roundw
              case rel => exact ⟨k + 1, by rw [HL2.out]; omega, by go_num, fun j y hj hy => by
                by_cases hjk : j = k
                · subst hjk
                  rw [HX.out] at hy
                  obtain rfl := Option.some.inj hy
                  exact HRB.out
                · exact HALL2.out j y (by omega) hy, HR5.out _, HB5.out _⟩
              case measure => simp [intOf]; omega
          · have hkl : k = ln := by omega
            have HY2 := Lib.hid (all_yes (l := ns) fun j x hj hx => HALL2.out j x (by rw [hkl, ← HL2.out]; exact hj) hx)
            have tk2 : decide ((k : Int) < (ln : Int)) = false := decide_eq_false (by omega)
            have tkn2 : decide (k < ln) = false := decide_eq_false hlt
            clear hkl
            go_wp2
            go_ret
            exact ⟨by rw [HRG.out, HY1.out, HT4.out, HY2.out]; rfl, HE.out⟩
def ERel (l : List SC) (w : World) (i : Value) (wr : World) : Prop :=
  ∃ k : Nat, k ≤ l.length ∧ i = .int .i64 k ∧ badS l = fb b1S (l.take k) (l.drop k) ∧ wr.heap[w.heap.size]? = some (.cells #[.int .i64 0, .int .i64 0, .int .i64 0] 36 (0, 0)) ∧ Below w.heap.size w wr
end Go.Proofs.YtmcmmbkodllpkaaGreatDoor.Scd

namespace Go.Proofs.YtmcmmbkodllpkaaGreatDoor.Scd

open Go.RowKit Go.PlainAid Go.Proofs.YtmcmmbkodllpkaaGreatDoor.Oct Go.Proofs.YtmcmmbkodllpkaaGreatDoor.Flt Go.Proofs.YtmcmmbkodllpkaaGreatDoor.Rdr Go.Proofs.YtmcmmbkodllpkaaGreatDoor.Act

open Go.Proofs.YtmcmmbkodllpkaaGreatDoor.Prt (fb fb_step fb_end take_snoc QPost qpost)

open Go.Proofs.YtmcmmbkodllpkaaGreatDoor.Hdr (own_bytes owns_base iface_of_wrong)

open Go.Proofs.YtmcmmbkodllpkaaGreatDoor.Byt (bytes_kept own_open)

set_option linter.unusedVariables false

set_option linter.unusedSimpArgs false

def OPost (n : Nat) (ys : List Int) (w : World) (e : Ending) (w' : World) : Prop := ∃ G c : Nat, e = .returned (.slice (some ⟨G, 0, none⟩) n c) ∧ w'.ownsRow w.heap.size 5 1 (.slice (some ⟨G, 0, none⟩) n c) n (ys.map (Value.int .u8)) ∧ Below w.heap.size w w'
def tkBy (l : List Nat) : List Int := l.flatMap fun v => low v 4
theorem tkBy_len (l : List Nat) : (tkBy l).length = l.length * 4 := by
  induction l with
  | nil => rfl
  | cons x l ih =>
    have : tkBy (x :: l) = low x 4 ++ tkBy l := rfl
    rw [this, List.length_append, ih, low_length, List.length_cons]; omega
theorem tkBy_snoc (l : List Nat) (x : Nat) : tkBy (l ++ [x]) = tkBy l ++ low x 4 := by simp [tkBy]
def NRel (id : Nat) (l : List Nat) (w : World) (v i : Value) (wr : World) : Prop := ∃ k : Nat, k ≤ l.length ∧ i = .int .i64 k ∧ wr.ownsRow w.heap.size 5 1 v (1 + k * 4) ((low id 1 ++ tkBy (l.take k)).map (Value.int .u8)) ∧ Below w.heap.size w wr
def rowBy (x : A3) : List Int := low x.s.toNat 1 ++ tkBy [x.p.toNat, x.a.toNat]
def rowsBy (l : List A3) : List Int := l.flatMap rowBy
theorem rowBy_len (x : A3) : (rowBy x).length = 9 := by unfold rowBy; rw [List.length_append, low_length, tkBy_len]; rfl
theorem rowsBy_len (l : List A3) : (rowsBy l).length = l.length * 9 := by
  induction l with
  | nil => rfl
  | cons x l ih =>
    have : rowsBy (x :: l) = rowBy x ++ rowsBy l := rfl
    rw [this, List.length_append, ih, rowBy_len, List.length_cons]; omega
theorem rowsBy_snoc (l : List A3) (x : A3) : rowsBy (l ++ [x]) = rowsBy l ++ rowBy x := by simp [rowsBy]
theorem rowB_in {x : A3} (h : rowB x = true) : (0 ≤ x.s ∧ x.s ≤ 255) ∧ (0 ≤ x.p ∧ x.p ≤ 1048576) ∧ (0 ≤ x.a ∧ x.a ≤ 1048576) := by
  unfold rowB tkB idB at h
  simp at h
  omega
theorem assWW (v : Value) (w : World) : (Instr.typeAssert (.iface 97 v) 20 97 true).run Tryz.prog w = .ok (.tuple #[v, .bool true]) w := by kernel_rfl
theorem assNW (v : Value) (w : World) : (Instr.typeAssert (.iface 99 v) 20 97 true).run Tryz.prog w = .ok (.tuple #[.agg #[.int .i64 0, .int .i64 0, .int .i64 0], .bool false]) w := by kernel_rfl
theorem assNN (v : Value) (w : World) : (Instr.typeAssert (.iface 99 v) 20 99 true).run Tryz.prog w = .ok (.tuple #[v, .bool true]) w := by kernel_rfl
def BPost (n : Nat) (ys : List Int) (w : World) (e : Ending) (w' : World) : Prop := ∃ V, e = .returned V ∧ w'.ownsRow w.heap.size 5 1 V n (ys.map (Value.int .u8)) ∧ Below w.heap.size w w'
def BRel (l : List A3) (w : World) (v i : Value) (wr : World) : Prop := ∃ k : Nat, k ≤ l.length ∧ i = .int .i64 k ∧ wr.ownsRow w.heap.size 5 1 v (k * 9) ((rowsBy (l.take k)).map (Value.int .u8)) ∧ Below w.heap.size w wr
end Go.Proofs.YtmcmmbkodllpkaaGreatDoor.Scd

namespace Go.Proofs.YtmcmmbkodllpkaaGreatDoor.Scd

open Go.RowKit Go.PlainAid Go.Proofs.YtmcmmbkodllpkaaGreatDoor.Oct Go.Proofs.YtmcmmbkodllpkaaGreatDoor.Flt Go.Proofs.YtmcmmbkodllpkaaGreatDoor.Rdr Go.Proofs.YtmcmmbkodllpkaaGreatDoor.Act

open Go.Proofs.YtmcmmbkodllpkaaGreatDoor.Prt (fb fb_step fb_end take_snoc fb_all)

open Go.Proofs.YtmcmmbkodllpkaaGreatDoor.Hdr (own_bytes owns_base iface_of_wrong)

open Go.Proofs.YtmcmmbkodllpkaaGreatDoor.Byt (bytes_kept own_open)

set_option linter.unusedVariables false

set_option linter.unusedSimpArgs false

theorem grown_refl (w : World) (r : Option Nat) : w.grownBy w r := ⟨rfl, rfl, rfl, Nat.le_refl _, fun _ _ _ => rfl⟩
/-- 'append(v, x...)', both rows of the call's own, or nil. -/
theorem wpList_append_rows {P : Program} {w : World} {ops : Array Oper} {rest : List Oper} {o : Oper} {a : Act} {Q : Exit → Act → World → Prop} (hgd : o.guard = none) (s x : Operand) (t : TypeId)
    (ho : o.op = .call { callee := .builtin .append, args := #[s, x], argTypes := #[t, t] })
    (base : Nat) (e : TypeId) (i : TypeInfo) (z : Value) (bytes : Nat) (ht : P.underlying t = some (.slice e)) (hi : P.info? e = some i) (hz : i.zero = some z)
    (hsize : i.size = 1) (hby : i.bytes = bytes) (hzs : z.cells.size = 1)
    (v : Value) (n : Nat) (xs : List Value) (hs : a.eval s = v) (hown : w.ownsRow base e 1 v n xs)
    (b2 : Nat) (u : Value) (m : Nat) (news : List Value) (hx : a.eval x = u) (hown2 : w.ownsRow b2 e 1 u m news) (h1 : ∀ u ∈ news, u.oneCell' = true)
    (h63 : n + m ≤ maxLen) (hbytes : (n + m) * bytes ≤ 140737488355328) (hbase : base ≤ w.heap.size)
    (h : ∀ v' w', w'.ownsRow base e 1 v' (n + m) (xs ++ news) → w.grownBy w' v.ownBlock → wpList P ops Q rest (a.put o.dst v') w') : wpList P ops Q (o :: rest) a w := by
  rcases hown2.2 with ⟨hu, h0⟩ | ⟨g, c, cur, hu, _⟩
  · subst h0
    have hn : news = [] := List.eq_nil_of_length_eq_zero (by have := hown2.1; omega)
    subst hn
    exact wpList_append_own_none hgd s x t ho base e i 1 ht hi v n xs hs hown (by rw [hx, hu]) (h v w (by simpa using hown) (grown_refl _ _))
  · subst hu
    exact wpList_append_own w hgd s x t ho base e i z 1 bytes ht hi hz hsize hby hzs (by omega) v n xs hs hown ⟨g, 0, none⟩ m c news hx (by have := hown2.1; omega) (fun j q hj => by
      have hj' : j < news.length := (List.getElem?_eq_some_iff.1 hj).1
      have := hown2.cellAt j (by have := hown2.1; omega)
      rw [show (Addr.mk g 0 none).add j = ⟨g, j, none⟩ by cases j <;> simp [Addr.add], this, hj]) h1 h63 hbytes hbase fun v' w' q1 q2 _ => h v' w' q1 q2
def schBy (x : SC) : List Int := ((((low x.id.toNat 1 ++ tkBy [x.fr.toNat]) ++ low x.ws.length 2) ++ rowsBy x.ws) ++ low x.ns.length 1) ++ rowsBy x.ns
def textS (l : List SC) : List Int := l.flatMap schBy
theorem textS_snoc (l : List SC) (x : SC) : textS (l ++ [x]) = textS l ++ schBy x := by simp [textS]
theorem rgS_in {x : SC} (h : rgS x = 0) : (0 ≤ x.id ∧ x.id ≤ 255) ∧ (1 ≤ x.fr ∧ x.fr ≤ 1048576) ∧ x.ws.length ≤ 256 ∧ (∀ y ∈ x.ws, rowB y = true) ∧ x.ns.length ≤ 32 ∧ (∀ y ∈ x.ns, rowB y = true) := by
  unfold rgS at h
  split at h
  · cases h
  · rename_i h1
    split at h
    · cases h
    · rename_i h2
      split at h
      · cases h
      · rename_i h3
        split at h
        · cases h
        · rename_i h4
          split at h
          · cases h
          · rename_i h5
            simp only [Bool.not_eq_true', Bool.not_eq_false, Bool.not_eq_true] at h3 h5
            simp [idB, tkB] at h1 h2 h4
            refine ⟨by omega, by omega, by omega, ?_, by omega, ?_⟩
            · exact List.all_eq_true.1 h3
            · exact List.all_eq_true.1 h5
theorem badS_rg {l : List SC} (h : (badS l).1 = 0) : ∀ x ∈ l, rgS x = 0 := by
  intro x hx
  obtain ⟨i, hi, rfl⟩ := List.mem_iff_getElem.1 hx
  have h1 := fb_all b1S l [] h i _ (List.getElem?_eq_getElem hi)
  unfold b1S at h1
  split at h1
  · assumption
  · exact h1
def PNo (l : List SC) (w : World) (n : Nat) (xs : List Int) (e : Ending) (w' : World) : Prop :=
  ∃ V x, e = .returned (.tuple #[V, x]) ∧ w'.ownsRow w.heap.size 5 1 V n (xs.map (Value.int .u8)) ∧ Wrong w' x (badS l).1 (sec3 (badS l).1) (badS l).2 ∧ Below w.heap.size w w'
def PYes (l : List SC) (w : World) (xs : List Int) (e : Ending) (w' : World) : Prop :=
  ∃ V n, e = .returned (.tuple #[V, .nilIface]) ∧ w'.ownsRow w.heap.size 5 1 V n ((xs ++ textS l).map (Value.int .u8)) ∧ Below w.heap.size w w'
/-- Within Put's round: the bytes so far, the schedule's own block. -/
structure PS (C : Nat) (cs : Array Value) (v : Value) (n : Nat) (ys : List Int) (w wr : World) : Prop where
  own : wr.ownsRow w.heap.size 5 1 v n (ys.map (Value.int .u8))
  row : wr.heap[C]? = some (.cells cs 49 (0, 0))
  below : Below w.heap.size w wr
theorem PS.keep {C : Nat} {cs : Array Value} {v : Value} {n : Nat} {ys : List Int} {w wr w' : World} (f : PS C cs v n ys w wr) (b : Below wr.heap.size wr w') : PS C cs v n ys w w' :=
  ⟨Byt.owns_kept f.own b, (b.block _ (lt_of_block f.row)).trans f.row, f.below.trans (b.mono f.below.size)⟩
theorem PS.grown {C : Nat} {cs : Array Value} {v v' : Value} {n m : Nat} {ys zs : List Int} {w wr w' : World} (f : PS C cs v n ys w wr) (hg : wr.grownBy w' v.ownBlock) (ho : w'.ownsRow w.heap.size 5 1 v' (n + m) (ys.map (Value.int .u8) ++ zs.map (Value.int .u8))) : PS C cs v' (n + m) (ys ++ zs) w w' := by
  refine ⟨by rw [List.map_append]; exact ho, (hg.block _ (lt_of_block f.row) fun e => ?_).trans f.row, f.below.grown hg f.below.size (fun j hj => (f.own.lt j hj).1)⟩
  obtain ⟨c2, e2⟩ := Prt.own_block f.own e.symm
  rw [f.row] at e2
  simp only [Option.some.injEq, Obj.cells.injEq] at e2
  exact absurd e2.2.1 (by decide)
theorem PS.cells {C : Nat} {a b c d : Value} {v : Value} {n : Nat} {ys : List Int} {w wr : World} (f : PS C #[a, b, c, d] v n ys w wr) : wr.cell? ⟨C, 0, none⟩ = some a ∧ wr.cell? ⟨C, 1, none⟩ = some b ∧ wr.cell? ⟨C, 2, none⟩ = some c ∧ wr.cell? ⟨C, 3, none⟩ = some d := by
  refine ⟨?_, ?_, ?_, ?_⟩
  all_goals (rw [cell_of_row wr _ _ _ _ _ f.row]; rfl)
def GRel (l : List SC) (len : Nat) (xs : List Int) (w : World) (v i : Value) (wr : World) : Prop :=
  ∃ k n : Nat, k ≤ l.length ∧ i = .int .i64 k ∧ n ≤ len + k * 3000 ∧ wr.ownsRow w.heap.size 5 1 v n ((xs ++ textS (l.take k)).map (Value.int .u8)) ∧ Below w.heap.size w wr
end Go.Proofs.YtmcmmbkodllpkaaGreatDoor.Scd

namespace Go.Proofs.YtmcmmbkodllpkaaGreatDoor.Scd

open Go.RowKit Go.PlainAid Go.Proofs.YtmcmmbkodllpkaaGreatDoor.Oct Go.Proofs.YtmcmmbkodllpkaaGreatDoor.Flt Go.Proofs.YtmcmmbkodllpkaaGreatDoor.Rdr Go.Proofs.YtmcmmbkodllpkaaGreatDoor.Act

set_option linter.unusedVariables false

set_option linter.unusedSimpArgs false

theorem eqWin (a b c : Int) (w : World) : (Op.equalIn 10000 97 (.agg #[.int .i64 a, .int .i64 b, .int .i64 c]) (.agg #[.int .i64 a, .int .i64 b, .int .i64 c])).run Tryz.prog w = .ok true w := by
  have hS : Tryz.prog.underlying 97 = some (.struct (Tryz.prog.fieldsOf 97)) := by kernel_rfl
  rw [show (10000 : Nat) = 9999 + 1 from rfl, run_equalIn_agg w 9999 97 _ _ hS (by kernel_rfl)]
  simp only [Program.fieldsOf, Tryz.underlying97]
  go_simp
theorem eqNeed (a b c : Int) (w : World) : (Op.equalIn 10000 99 (.agg #[.int .i64 a, .int .i64 b, .int .i64 c]) (.agg #[.int .i64 a, .int .i64 b, .int .i64 c])).run Tryz.prog w = .ok true w := by
  have hS : Tryz.prog.underlying 99 = some (.struct (Tryz.prog.fieldsOf 99)) := by kernel_rfl
  rw [show (10000 : Nat) = 9999 + 1 from rfl, run_equalIn_agg w 9999 99 _ _ hS (by kernel_rfl)]
  simp only [Program.fieldsOf, Tryz.underlying99]
  go_simp
end Go.Proofs.YtmcmmbkodllpkaaGreatDoor.Scd

namespace Go.Proofs.YtmcmmbkodllpkaaGreatDoor.Scd

open Go.RowKit Go.PlainAid Go.Proofs.YtmcmmbkodllpkaaGreatDoor.Oct Go.Proofs.YtmcmmbkodllpkaaGreatDoor.Flt Go.Proofs.YtmcmmbkodllpkaaGreatDoor.Rdr Go.Proofs.YtmcmmbkodllpkaaGreatDoor.Act

open Go.Proofs.YtmcmmbkodllpkaaGreatDoor.Prt (take_snoc)

set_option linter.unusedVariables false

set_option linter.unusedSimpArgs false

def headS (x : SC) : List Int := (low x.id.toNat 1 ++ tkBy [x.fr.toNat]) ++ low x.ws.length 2
theorem schBy_eq (x : SC) : schBy x = ((headS x ++ rowsBy x.ws) ++ low x.ns.length 1) ++ rowsBy x.ns := rfl
theorem schBy_len {x : SC} (h : rgS x = 0) : (schBy x).length ≤ 3000 := by
  obtain ⟨_, _, h1, _, h2, _⟩ := rgS_in h
  unfold schBy
  simp only [List.length_append, low_length, tkBy_len, rowsBy_len]
  simp
  omega
theorem textS_len (l : List SC) (h : ∀ x ∈ l, rgS x = 0) : (textS l).length ≤ l.length * 3000 := by
  induction l with
  | nil => simp [textS]
  | cons x l ih =>
    have h1 := ih fun y hy => h y (List.mem_cons_of_mem _ hy)
    have h2 := schBy_len (h x List.mem_cons_self)
    have : textS (x :: l) = schBy x ++ textS l := rfl
    rw [this, List.length_append, List.length_cons]
    omega
/-- Within Text's round: the schedule's own block. -/
structure TS (E : Nat) (cs : Array Value) (w wr : World) : Prop where
  row : wr.heap[E]? = some (.cells cs 49 (0, 0))
  below : Below w.heap.size w wr
theorem TS.keep {E : Nat} {cs : Array Value} {w wr w' : World} (f : TS E cs w wr) (b : Below wr.heap.size wr w') : TS E cs w w' := ⟨(b.block _ (lt_of_block f.row)).trans f.row, f.below.trans (b.mono f.below.size)⟩
theorem TS.drew {E : Nat} {cs : Array Value} {w wr : World} (f : TS E cs w wr) : TS E cs w wr.drew := f.keep ⟨rfl, rfl, rfl, Nat.le_refl _, fun _ _ => rfl⟩
theorem TS.cells {E : Nat} {a b c d : Value} {w wr : World} (f : TS E #[a, b, c, d] w wr) : wr.cell? ⟨E, 0, none⟩ = some a ∧ wr.cell? ⟨E, 1, none⟩ = some b ∧ wr.cell? ⟨E, 2, none⟩ = some c ∧ wr.cell? ⟨E, 3, none⟩ = some d := by
  refine ⟨?_, ?_, ?_, ?_⟩
  all_goals (rw [cell_of_row wr _ _ _ _ _ f.row]; rfl)
def TRel (l : List SC) (w : World) (v i : Value) (wr : World) : Prop := ∃ k : Nat, k ≤ l.length ∧ i = .int .i64 k ∧ v = .string (strOfNums (textS (l.take k))) ∧ Below w.heap.size w wr
end Go.Proofs.YtmcmmbkodllpkaaGreatDoor.Scd
