
/- Pairs: their order, as the program tells it; what may be an id, and stand behind others. No condition. What is wrong first with pairs, as the program tells it. Condition: the variables hold what the program lays there; at most 1,000 pairs. What package pairs' Put lays behind bytes. Condition: the variables hold what the program lays there; at most 1,000 pairs, at most 2 to the power 30 bytes come in. What the document says of pairs: their order, what is wrong with them, their bytes, and whether two rows are one. Condition: at most 1,000 pairs. What the document says of pairs' bytes. Condition: at most 1,000 pairs. What package pairs' Read reads. Condition: the variables hold what the program lays there; the reader stands within a text of at most 2 to the power 40 bytes. -/

import Derived.Test.YtplllmfbpliciaaGreatDoorPaiM

import Derived.Test.YtplllmfbpliciaaGreatDoorShelf

import Derived.Deep.RegionHeld3

import Derived.BigQuiet

import Derived.BigRegion

import Derived.Test.YtplllmfbpliciaaGreatDoorActR

import Derived.Test.YtplllmfbpliciaaGreatDoorPrtI

import Derived.Test.YtplllmfbpliciaaGreatDoorPrtL

namespace Go.Proofs.YtplllmfbpliciaaGreatDoor.Pai

open Go.RowKit Go.PlainAid Go.Proofs.YtplllmfbpliciaaGreatDoor.Oct Go.Proofs.YtplllmfbpliciaaGreatDoor.Flt Go.Proofs.YtplllmfbpliciaaGreatDoor.Rdr Go.Proofs.YtplllmfbpliciaaGreatDoor.Args

open Go.Proofs.YtplllmfbpliciaaGreatDoor.Act (idB I64)

set_option linter.unusedVariables false

set_option linter.unusedSimpArgs false

theorem or_any (x y : Int) (g : Nat) (w : World) (h : w.heap[g]? = some (.cells #[.int .i64 x, .int .i64 y] 3 (0, 0))) :
    Calls Tryz.prog 63 #[.slice (some ⟨g, 0, none⟩) 2 2] w fun e w' => e = .returned (.int .i64 (if x = 0 then y else x)) ∧ w = w' := by
  have hc0 : w.cell? ⟨g, 0, none⟩ = some (.int .i64 x) := by rw [cell_of_row w _ _ _ _ _ h]; rfl
  have hc1 : w.cell? ⟨g, 1, none⟩ = some (.int .i64 y) := by rw [cell_of_row w _ _ _ _ _ h]; rfl
  clear h
  by_cases hx : x = 0
  · subst hx
    rw [if_pos rfl]
    by_cases hy : y = 0
    · subst hy
      go_enter Tryz.func63, Tryz.ntmps63
      go_wp2
      go_loop [8] (fun i => ∃ k : Nat, k ≤ 2 ∧ i = .int .i64 k) (fun i => 2 - (intOf i).toNat)
      case atStart => exact ⟨0, by omega, rfl⟩
      case round =>
        obtain ⟨k, hk, rfl⟩ := hrel
        rcases (show k = 0 ∨ k = 1 ∨ k = 2 by omega) with rfl | rfl | rfl
        · clear hk
          go_wp2
          go_round
          case rel => exact ⟨1, by omega, rfl⟩
          case measure => simp [intOf]
        · clear hk
          go_wp2
          go_round
          case rel => exact ⟨2, by omega, rfl⟩
          case measure => simp [intOf]
        · clear hk
          go_wp2
          go_ret
          exact ⟨rfl, rfl⟩
    · have t1 : (y != 0) = true := by simp; exact hy
      clear hy
      go_enter Tryz.func63, Tryz.ntmps63
      go_wp2
      go_loop [8] (fun i => ∃ k : Nat, k ≤ 1 ∧ i = .int .i64 k) (fun i => 2 - (intOf i).toNat)
      case atStart => exact ⟨0, by omega, rfl⟩
      case round =>
        obtain ⟨k, hk, rfl⟩ := hrel
        rcases (show k = 0 ∨ k = 1 by omega) with rfl | rfl
        · clear hk
          go_wp2
          go_round
          case rel => exact ⟨1, by omega, rfl⟩
          case measure => simp [intOf]
        · clear hk
          go_wp2
          go_ret
          exact ⟨rfl, rfl⟩
  · rw [if_neg hx]
    have t1 : (x != 0) = true := by simp; exact hx
    clear hx
    go_enter Tryz.func63, Tryz.ntmps63
    go_wp2
    go_loop [8] (fun i => i = .int .i64 0) (fun i => 2 - (intOf i).toNat)
    case atStart => rfl
    case round =>
      obtain rfl := hrel
      go_wp2
      go_ret
      exact ⟨rfl, rfl⟩

def cmpP (x y : P2) : Int := if Lib.compareInt x.f y.f = 0 then Lib.compareInt x.t y.t else Lib.compareInt x.f y.f
theorem cmp_less (x y : P2) : decide (cmpP x y < 0) = lessB x y := by
  unfold cmpP Lib.compareInt lessB
  rw [Bool.eq_iff_iff]
  simp only [decide_eq_true_eq, Bool.or_eq_true, Bool.and_eq_true, beq_iff_eq]
  split <;> (repeat' split at *) <;> omega
set_option maxRecDepth 4000 in
theorem compare_any (x y : P2) (w : World) :
    Calls Tryz.prog 48 #[.agg (pairC x), .agg (pairC y)] w fun e w' => e = .returned (.int .i64 (cmpP x y)) ∧ Below w.heap.size w w' := by
  unfold cmpP pairC
  have H1 := Lib.hid (fun w => Tryz.cmp_Compare_int x.f y.f w)
  have H2 := Lib.hid (fun w => Tryz.cmp_Compare_int x.t y.t w)
  obtain ⟨a, ha⟩ : ∃ a, Lib.compareInt x.f y.f = a := ⟨_, rfl⟩
  obtain ⟨b, hb⟩ : ∃ b, Lib.compareInt x.t y.t = b := ⟨_, rfl⟩
  rw [ha] at H1 ⊢
  rw [hb] at H2 ⊢
  clear ha hb
  have HB := Lib.hid (fun o1 o2 => two_below w o1 o2)
  have HO : Hid (∀ (W : World) (g : Nat), W.heap[g]? = some (.cells #[.int .i64 a, .int .i64 b] 3 (0, 0)) → Calls Tryz.prog 63 #[.slice (some ⟨g, 0, none⟩) 2 2] W fun e w' => e = .returned (.int .i64 (if a = 0 then b else a)) ∧ W = w') := fun W g h => or_any a b g W h
  obtain ⟨z, hz⟩ : ∃ z, (if a = 0 then b else a) = z := ⟨_, rfl⟩
  rw [hz] at HO ⊢
  clear hz
  go_enter Tryz.func48, Tryz.ntmps48
  go_wp2_with fail
  generalize hW : ((w.alloc (.cells #[.int .i64 x.f, .int .i64 x.t] 50)).alloc (.cells #[.int .i64 y.f, .int .i64 y.t] 50)) = W
  have hra : W.heap[w.heap.size]? = some (.cells #[.int .i64 x.f, .int .i64 x.t] 50 (0, 0)) := by rw [← hW]; exact (heap_alloc_old _ _ (by simp)).trans (heap_alloc_new _ _)
  have hrb : W.heap[w.heap.size + 1]? = some (.cells #[.int .i64 y.f, .int .i64 y.t] 50 (0, 0)) := by rw [← hW]; exact Hdr.second_new w _ _
  have HBW : Hid (Below w.heap.size w W) := by show Below _ _ _; rw [← hW]; exact HB.out _ _
  have HCE : Hid (W.cell? ⟨w.heap.size, 0, none⟩ = some (.int .i64 x.f) ∧ W.cell? ⟨w.heap.size, 1, none⟩ = some (.int .i64 x.t) ∧ W.cell? ⟨w.heap.size + 1, 0, none⟩ = some (.int .i64 y.f) ∧ W.cell? ⟨w.heap.size + 1, 1, none⟩ = some (.int .i64 y.t)) := by
    refine ⟨?_, ?_, ?_, ?_⟩
    all_goals first
      | (rw [cell_of_row W _ _ _ _ _ hra]; rfl)
      | (rw [cell_of_row W _ _ _ _ _ hrb]; rfl)
  obtain ⟨q0, q1, q2, q3⟩ := HCE.out
  clear hW hra hrb
  go_region_held3 (fun wx => wx.cell? ⟨w.heap.size, 0, none⟩ = some (.int .i64 x.f) ∧ wx.cell? ⟨w.heap.size, 1, none⟩ = some (.int .i64 x.t) ∧ wx.cell? ⟨w.heap.size + 1, 0, none⟩ = some (.int .i64 y.f) ∧ wx.cell? ⟨w.heap.size + 1, 1, none⟩ = some (.int .i64 y.t)) (first | (go_keep; done) | exact HCE.out | (refine ⟨?_, ?_, ?_, ?_⟩ <;> assumption))
    (first
      | (go_at_call 59; (with_reducible first | (refine (H1.out _).mono ?_) | (refine (H2.out _).mono ?_)); rintro e w' ⟨rfl, rfl⟩)
      | (go_at_call 63; refine (HO.out ((W.alloc (.cells #[.int .i64 a, .int .i64 b] 3)).drew) W.heap.size (by exact heap_alloc_new W _)).mono ?_; rintro e w' ⟨rfl, rfl⟩))
  go_wp2
  go_ret
  exact ⟨rfl, HBW.out.trans ((Below.drew ((Below.refl _ _).alloc (Nat.le_refl _) (.cells #[.int .i64 a, .int .i64 b] 3))).mono HBW.out.size)⟩
theorem less_any (x y : P2) (w : World) :
    Calls Tryz.prog 41 #[.agg (pairC x), .agg (pairC y)] w fun e w' => e = .returned (.bool (lessB x y)) ∧ Below w.heap.size w w' := by
  have H1 := Lib.hid (fun w => compare_any x y w)
  have HL := Lib.hid (cmp_less x y)
  obtain ⟨c, hc⟩ : ∃ c, cmpP x y = c := ⟨_, rfl⟩
  rw [hc] at H1 HL
  obtain ⟨b, hb⟩ : ∃ b, lessB x y = b := ⟨_, rfl⟩
  rw [hb] at HL ⊢
  have HB := Lib.hid (fun o1 o2 => two_below w o1 o2)
  have ht := HL.out
  unfold pairC at H1 ⊢
  clear hc hb
  go_enter Tryz.func41, Tryz.ntmps41
  go_wp2_with (go_at_call 48; refine (H1.out _).mono ?_; rintro e w' ⟨rfl, hb2⟩; have HB2 := Lib.hid ((HB.out _ _).trans (hb2.mono (HB.out _ _).size)); clear hb2)
  go_ret
  exact ⟨rfl, HB2.out⟩
theorem isId_any (n : Int) (hn : I64 n) (w : World) : Calls Tryz.prog 32 #[.int .i64 n] w fun e w' => e = .returned (.bool (idB n)) ∧ w = w' := by
  have HF := Lib.hid (fun w => Hdr.fits_first hn w)
  unfold idB
  obtain ⟨b, hb⟩ : ∃ b, (decide (0 ≤ n) && decide (n ≤ 255)) = b := ⟨_, rfl⟩
  rw [hb] at HF ⊢
  clear hb hn
  go_enter Tryz.func32, Tryz.ntmps32
  go_wp2_with (go_at_call 36; refine (HF.out _).mono ?_; rintro e w' ⟨rfl, rfl⟩)
  go_ret
  exact ⟨rfl, rfl⟩
theorem rises_nil (A : Option Addr) (cap : Nat) (x : P2) (w : World) :
    Calls Tryz.prog 27 #[.slice A 0 cap, .agg (pairC x)] w fun e w' => e = .returned (.bool true) ∧ Below w.heap.size w w' := by
  have HB : Hid (∀ o n, Below w.heap.size w ((w.alloc o).drewN n)) := fun o n => below_drewN ((Below.refl w.heap.size w).alloc (Nat.le_refl _) o) n
  unfold pairC
  go_enter Tryz.func27, Tryz.ntmps27
  go_wp2
  go_quiet (fail)
  go_wp2
  go_ret
  exact ⟨rfl, HB.out _ _⟩
set_option maxRecDepth 4000 in
set_option maxHeartbeats 1600000 in
theorem rises_some (ax : Addr) (n k cap : Nat) (x y : P2) (w : World) (hn : n = k + 1) (hk : k < 4000000000000) (h1 : w.cell? (ax.add (k * 2)) = some (.int .i64 y.f)) (h2 : w.cell? ⟨(ax.add (k * 2)).block, (ax.add (k * 2)).off + 1, none⟩ = some (.int .i64 y.t)) :
    Calls Tryz.prog 27 #[.slice (some ax) n cap, .agg (pairC x)] w fun e w' => e = .returned (.bool (lessB y x)) ∧ Below w.heap.size w w' := by
  have HL := Lib.hid (fun W => less_any y x W)
  obtain ⟨b, hb⟩ : ∃ b, lessB y x = b := ⟨_, rfl⟩
  rw [hb] at HL ⊢
  have tne : ((n : Int) == 0) = false := by simp; omega
  have hki : (0 : Int) ≤ k := by omega
  have hkn : (k : Int) < n := by omega
  have hwr : IntKind.i64.wrap ((n : Int) - 1) = k := by rw [IntKind.wrap_i64]; omega
  have HB0 : Hid (Below w.heap.size w (w.alloc (.cells (pairC x) 50))) := (Below.refl _ _).alloc (Nat.le_refl _) _
  have HC : Hid ((w.alloc (.cells (pairC x) 50)).cell? (ax.add (k * 2)) = some (.int .i64 y.f) ∧ (w.alloc (.cells (pairC x) 50)).cell? ⟨(ax.add (k * 2)).block, (ax.add (k * 2)).off + 1, none⟩ = some (.int .i64 y.t) ∧ (w.alloc (.cells (pairC x) 50)).cell? ⟨w.heap.size, 0, none⟩ = some (.int .i64 x.f) ∧ (w.alloc (.cells (pairC x) 50)).cell? ⟨w.heap.size, 1, none⟩ = some (.int .i64 x.t)) := by
    refine ⟨(HB0.out.cell (Go.block_lt_of_cell h1)).trans h1, (HB0.out.cell (Go.block_lt_of_cell h2)).trans h2, ?_, ?_⟩
    · rw [cell_of_row _ _ _ _ _ _ (heap_alloc_new w _)]; rfl
    · rw [cell_of_row _ _ _ _ _ _ (heap_alloc_new w _)]; rfl
  unfold pairC at HL HB0 HC ⊢
  clear hb h1 h2 hn
  go_enter Tryz.func27, Tryz.ntmps27
  go_wp2_with fail
  generalize hW : (w.alloc (.cells #[.int .i64 x.f, .int .i64 x.t] 50)) = W at HB0 HC ⊢
  obtain ⟨q0, q1, q2, q3⟩ := HC.out
  have HBD : Hid (Below w.heap.size w W.drew) := HB0.out.drew
  have HCD : Hid (W.drew.cell? (ax.add (k * 2)) = some (.int .i64 y.f) ∧ W.drew.cell? ⟨(ax.add (k * 2)).block, (ax.add (k * 2)).off + 1, none⟩ = some (.int .i64 y.t) ∧ W.drew.cell? ⟨w.heap.size, 0, none⟩ = some (.int .i64 x.f) ∧ W.drew.cell? ⟨w.heap.size, 1, none⟩ = some (.int .i64 x.t)) := HC.out
  clear hW
  go_region_held3 (fun wx => wx.cell? (ax.add (k * 2)) = some (.int .i64 y.f) ∧ wx.cell? ⟨(ax.add (k * 2)).block, (ax.add (k * 2)).off + 1, none⟩ = some (.int .i64 y.t) ∧ wx.cell? ⟨w.heap.size, 0, none⟩ = some (.int .i64 x.f) ∧ wx.cell? ⟨w.heap.size, 1, none⟩ = some (.int .i64 x.t)) (first | (go_keep; done) | exact HC.out | exact HKP.out | (refine ⟨?_, ?_, ?_, ?_⟩ <;> assumption))
    ((go_at_call 41; refine (HL.out _).mono ?_; rintro e w2 ⟨rfl, hb2⟩; have HB3 := Lib.hid (HBD.out.trans (hb2.mono HBD.out.size)); have HKP := Lib.hid (kept4 HCD.out hb2); clear hb2))
  go_wp2
  go_ret
  exact ⟨rfl, HB3.out⟩
theorem rises_any (A : Option Addr) (cap : Nat) (l : List P2) (x : P2) (w : World) (h : PairsAt w A l) (hl : l.length ≤ 4000000000000) :
    Calls Tryz.prog 27 #[.slice A l.length cap, .agg (pairC x)] w fun e w' => e = .returned (.bool (riseB l x)) ∧ Below w.heap.size w w' := by
  rcases Nat.eq_zero_or_pos l.length with h0 | h0
  · obtain rfl := List.length_eq_zero_iff.1 h0
    exact rises_nil A cap x w
  · obtain ⟨k, hk⟩ : ∃ k, l.length = k + 1 := ⟨l.length - 1, by omega⟩
    obtain ⟨y, hx⟩ : ∃ y, l[k]? = some y := ⟨_, List.getElem?_eq_getElem (by omega)⟩
    obtain ⟨ax, rfl, c1, c2⟩ := h k _ hx
    have := rise_take l k _ x hx
    rw [List.take_of_length_le (by omega)] at this
    rw [this]
    exact rises_some ax _ k cap x y w hk (by omega) c1 c2
end Go.Proofs.YtplllmfbpliciaaGreatDoor.Pai

namespace Go.Proofs.YtplllmfbpliciaaGreatDoor.Pai

open Go.RowKit Go.PlainAid Go.Proofs.YtplllmfbpliciaaGreatDoor.Oct Go.Proofs.YtplllmfbpliciaaGreatDoor.Flt Go.Proofs.YtplllmfbpliciaaGreatDoor.Rdr Go.Proofs.YtplllmfbpliciaaGreatDoor.Args

open Go.Proofs.YtplllmfbpliciaaGreatDoor.Act (idB I64)

open Go.Proofs.YtplllmfbpliciaaGreatDoor.Prt (fb fb_step fb_end take_snoc)

set_option linter.unusedVariables false

set_option linter.unusedSimpArgs false

def WPost (q : Nat × Int) (w : World) (e : Ending) (w' : World) : Prop := ∃ x, e = .returned x ∧ Wrong w' x q.1 (sec4 q.1) q.2 ∧ Below w.heap.size w w'
def WRel (l : List P2) (w : World) (i : Value) (wr : World) : Prop := ∃ k : Nat, k ≤ l.length ∧ i = .int .i64 k ∧ badP l = fb bad1 (l.take k) (l.drop k) ∧ Below w.heap.size w wr
theorem rises_take (A : Option Addr) (cap : Nat) (l : List P2) (x : P2) (w : World) (h : PairsAt w A l) (hl : l.length ≤ 1000) (k : Nat) (hk : k ≤ l.length) (W : World) (hb : Below w.heap.size w W) :
    Calls Tryz.prog 27 #[.slice A k cap, .agg (pairC x)] W fun e w' => e = .returned (.bool (riseB (l.take k) x)) ∧ Below W.heap.size W w' := by
  have := rises_any A cap (l.take k) x W ((h.kept hb).take k) (by simp; omega)
  rw [List.length_take, Nat.min_eq_left hk] at this
  exact this
set_option maxRecDepth 8000 in
set_option maxHeartbeats 3200000 in
theorem wrong_any (A : Option Addr) (cap : Nat) (l : List P2) (w : World) (hn : Names w) (h1 : PairsAt w A l) (hw : ∀ x ∈ l, Wide x) (hl : l.length ≤ 1000) (hcap : l.length ≤ cap) :
    Calls Tryz.prog 18 #[.slice A l.length cap] w (WPost (badP l) w) := by
  have HN := Lib.hid hn
  have H1 := Lib.hid h1
  have HW := Lib.hid hw
  have HRT := Lib.hid (fun x => rises_take A cap l x w h1 hl)
  obtain ⟨a, ha⟩ : ∃ a, l.length = a := ⟨_, rfl⟩
  have HA := Lib.hid ha
  rw [ha] at hl hcap
  rw [ha]
  obtain ⟨q, hq⟩ : ∃ q, badP l = q := ⟨_, rfl⟩
  have HQ := Lib.hid hq
  rw [hq]
  clear hn h1 hw ha hq
  go_enter Tryz.func18, Tryz.ntmps18
  go_wp2
  go_loopw [8] (fun i wr => WRel l w i wr) (fun i _ => a - (intOf i).toNat)
  case atStart => exact ⟨0, Nat.zero_le _, rfl, by simp [badP], Below.refl _ _⟩
  case round =>
    obtain ⟨k, hk, rfl, hb, hbel⟩ := hrel
    have HB := Lib.hid hb
    have HE := Lib.hid hbel
    have hka : k ≤ a := by rw [← HA.out]; exact hk
    clear hb hk hbel
    by_cases hlt : k < a
    · obtain ⟨x, hx⟩ : ∃ x, l[k]? = some x := ⟨_, List.getElem?_eq_getElem (by rw [HA.out]; exact hlt)⟩
      obtain ⟨ax, rfl, c1, c2⟩ := (H1.out.kept HE.out) k x hx
      have hwx := HW.out x (List.mem_of_getElem? hx)
      have HS := Lib.hid (fun w => isId_any x.f hwx.1 w)
      have HP := Lib.hid (fun w => isId_any x.t hwx.2 w)
      have HC := Lib.hid (HRT.out x k (by rw [HA.out]; omega))
      have hst := (HB.out.symm.trans HQ.out).symm.trans (fb_step bad1 l k x hx)
      have hbd : bad1 (l.take k) x = if idB x.f = false then 18 else if idB x.t = false then 18 else if riseB (l.take k) x = false then 9 else 0 := rfl
      rw [hbd] at hst
      have HB5 : Hid (Below w.heap.size w (wr.alloc (.cells (pairC x) 50))) := HE.out.alloc HE.out.size _
      have HX5 := Lib.hid (heap_alloc_new wr (.cells (pairC x) 50))
      obtain ⟨rb, hrb⟩ : ∃ rb, riseB (l.take k) x = rb := ⟨_, rfl⟩
      rw [hrb] at HC hst
      obtain ⟨f, t⟩ := x
      unfold pairC at HC HB5 HX5
      dsimp only at c1 c2 HS HP HC hst HB5 HX5
      have hki : (0 : Int) ≤ k := by omega
      have hkb : (k : Int) < a := by omega
      have hkc : k ≤ cap := by omega
      clear hx hwx hbd hrb HRT
      cases hs : idB f with
      | false =>
        rw [hs] at HS hst
        have HS2 : Hid (q = if (18 : Nat) = 0 then fb bad1 (l.take (k + 1)) (l.drop (k + 1)) else (18, (k : Int))) := by show _ = _; simpa using hst
        clear hst hs
        obtain rfl : q = (18, (k : Int)) := by
          have h := HS2.out
          rw [if_neg (by omega)] at h
          exact h
        clear HS2 HQ
        go_wp2_with (first
          | (go_at_call 32; (with_reducible first | (refine (HS.out _).mono ?_) | (refine (HP.out _).mono ?_)); rintro e w' ⟨rfl, rfl⟩)
          | (go_at_call 35; refine (new_yes 18 (by omega) (by omega) _ (HN.out.kept HB5.out)).mono ?_; rintro e w' ⟨rfl, rfl⟩)
          | (go_at_call 34; refine (at_any (k : Int) _ [] 18 _ rfl).mono ?_; rintro e w3 ⟨y, rfl, hy, hb3⟩; have HY := Lib.hid hy; have HB3 := Lib.hid ((HB5.out).trans (hb3.mono (HB5.out).size)); clear hy hb3)
          | (go_at_call 33; refine (in_any 4 _ _ 18 _ HY.out).mono ?_; rintro e w4 ⟨z, rfl, hz, hb4⟩; have HZ := Lib.hid hz; have HB4 := Lib.hid (HB3.out.trans (hb4.mono HB3.out.size)); clear hz hb4))
        go_ret
        exact ⟨z, rfl, .inr ⟨by omega, by omega, HZ.out⟩, HB4.out⟩
      | true =>
        rw [hs] at HS hst
        cases hp : idB t with
        | false =>
          rw [hp] at HP hst
          have HS2 : Hid (q = if (18 : Nat) = 0 then fb bad1 (l.take (k + 1)) (l.drop (k + 1)) else (18, (k : Int))) := by show _ = _; simpa using hst
          clear hst hs hp
          obtain rfl : q = (18, (k : Int)) := by
            have h := HS2.out
            rw [if_neg (by omega)] at h
            exact h
          clear HS2 HQ
          go_wp2_with (first
            | (go_at_call 32; (with_reducible first | (refine (HS.out _).mono ?_) | (refine (HP.out _).mono ?_)); rintro e w' ⟨rfl, rfl⟩)
            | (go_at_call 35; refine (new_yes 18 (by omega) (by omega) _ (HN.out.kept HB5.out)).mono ?_; rintro e w' ⟨rfl, rfl⟩)
            | (go_at_call 34; refine (at_any (k : Int) _ [] 18 _ rfl).mono ?_; rintro e w3 ⟨y, rfl, hy, hb3⟩; have HY := Lib.hid hy; have HB3 := Lib.hid ((HB5.out).trans (hb3.mono (HB5.out).size)); clear hy hb3)
            | (go_at_call 33; refine (in_any 4 _ _ 18 _ HY.out).mono ?_; rintro e w4 ⟨z, rfl, hz, hb4⟩; have HZ := Lib.hid hz; have HB4 := Lib.hid (HB3.out.trans (hb4.mono HB3.out.size)); clear hz hb4))
          go_ret
          exact ⟨z, rfl, .inr ⟨by omega, by omega, HZ.out⟩, HB4.out⟩
        | true =>
          rw [hp] at HP hst
          clear hs hp
          have hx5 := HX5.out
          have HCE : Hid ((wr.alloc (.cells #[.int .i64 f, .int .i64 t] 50)).cell? ⟨wr.heap.size, 0, none⟩ = some (.int .i64 f) ∧ (wr.alloc (.cells #[.int .i64 f, .int .i64 t] 50)).cell? ⟨wr.heap.size, 1, none⟩ = some (.int .i64 t)) := by
            refine ⟨?_, ?_⟩
            · rw [cell_of_row _ _ _ _ _ _ hx5]; rfl
            · rw [cell_of_row _ _ _ _ _ _ hx5]; rfl
          have HBW := Lib.hid (Below.refl (wr.alloc (.cells #[.int .i64 f, .int .i64 t] 50)).heap.size (wr.alloc (.cells #[.int .i64 f, .int .i64 t] 50)))
          clear hx5 HX5
          go_wp2_with (go_at_call 32; (with_reducible first | (refine (HS.out _).mono ?_) | (refine (HP.out _).mono ?_)); rintro e w' ⟨rfl, rfl⟩)
          generalize hW : (wr.alloc (.cells #[.int .i64 f, .int .i64 t] 50)) = W at HB5 HCE HBW ⊢
          obtain ⟨q0, q1⟩ := HCE.out
          have HBD : Hid (Below w.heap.size w W.drew) := HB5.out.drew
          have HCD : Hid (W.drew.cell? ⟨wr.heap.size, 0, none⟩ = some (.int .i64 f) ∧ W.drew.cell? ⟨wr.heap.size, 1, none⟩ = some (.int .i64 t)) := HCE.out
          clear hW HBW
          go_region_held3 (fun wx => wx.cell? ⟨wr.heap.size, 0, none⟩ = some (.int .i64 f) ∧ wx.cell? ⟨wr.heap.size, 1, none⟩ = some (.int .i64 t)) (first | (go_keep; done) | exact HCE.out | exact HKP.out | (refine ⟨?_, ?_⟩ <;> assumption))
            ((go_at_call 27; refine (HC.out _ HBD.out).mono ?_; rintro e w2 ⟨rfl, hb2⟩; have HB2 := Lib.hid (HBD.out.trans (hb2.mono HBD.out.size)); have HKP := Lib.hid (kept2 HCD.out hb2); clear hb2))
          cases rb with
          | false =>
            have HS2 : Hid (q = if (9 : Nat) = 0 then fb bad1 (l.take (k + 1)) (l.drop (k + 1)) else (9, (k : Int))) := by show _ = _; simpa using hst
            clear hst
            obtain rfl : q = (9, (k : Int)) := by
              have h := HS2.out
              rw [if_neg (by omega)] at h
              exact h
            clear HS2 HQ
            go_wp2_with (first
              | (go_at_call 35; refine (new_yes 9 (by omega) (by omega) _ (HN.out.kept HB2.out)).mono ?_; rintro e w' ⟨rfl, rfl⟩)
              | (go_at_call 34; refine (at_any (k : Int) _ [] 9 _ rfl).mono ?_; rintro e w3 ⟨y, rfl, hy, hb3⟩; have HY := Lib.hid hy; have HB3 := Lib.hid ((HB2.out).trans (hb3.mono (HB2.out).size)); clear hy hb3)
              | (go_at_call 33; refine (in_any 4 _ _ 9 _ HY.out).mono ?_; rintro e w4 ⟨z, rfl, hz, hb4⟩; have HZ := Lib.hid hz; have HB4 := Lib.hid (HB3.out.trans (hb4.mono HB3.out.size)); clear hz hb4))
            go_ret
            exact ⟨z, rfl, .inr ⟨by omega, by omega, HZ.out⟩, HB4.out⟩
          | true =>
            have HS2 : Hid (q = fb bad1 (l.take (k + 1)) (l.drop (k + 1))) := by show _ = _; simpa using hst
            clear hst
            go_wp2
            go_roundw
            case rel => exact ⟨k + 1, by rw [HA.out]; omega, by go_num, HQ.out.trans HS2.out, HB2.out⟩
            case measure => simp [intOf]; omega
    · obtain rfl : k = a := by omega
      have HQ2 : Hid (q = (0, 0)) := by
        show _ = _
        have h := HQ.out.symm.trans HB.out
        rw [← HA.out, fb_end] at h
        exact h
      obtain rfl := HQ2.out
      clear HQ2 HQ HB
      go_wp2
      go_ret
      exact ⟨.nilIface, rfl, .inl ⟨rfl, rfl, rfl, rfl⟩, HE.out⟩
end Go.Proofs.YtplllmfbpliciaaGreatDoor.Pai

namespace Go.Proofs.YtplllmfbpliciaaGreatDoor.Pai

open Go.RowKit Go.PlainAid Go.Proofs.YtplllmfbpliciaaGreatDoor.Oct Go.Proofs.YtplllmfbpliciaaGreatDoor.Flt Go.Proofs.YtplllmfbpliciaaGreatDoor.Rdr Go.Proofs.YtplllmfbpliciaaGreatDoor.Args

open Go.Proofs.YtplllmfbpliciaaGreatDoor.Prt (fb fb_step fb_end take_snoc put1q QPost)

open Go.Proofs.YtplllmfbpliciaaGreatDoor.Hdr (own_bytes owns_base iface_of_wrong)

open Go.Proofs.YtplllmfbpliciaaGreatDoor.Byt (bytes_kept own_open clone_any)

set_option linter.unusedVariables false

set_option linter.unusedSimpArgs false

def PNo (l : List P2) (w : World) (n : Nat) (xs : List Int) (e : Ending) (w' : World) : Prop :=
  ∃ V x, e = .returned (.tuple #[V, x]) ∧ w'.ownsRow w.heap.size 5 1 V n (xs.map (Value.int .u8)) ∧ Wrong w' x (badP l).1 (sec4 (badP l).1) (badP l).2 ∧ Below w.heap.size w w'
def PYes (l : List P2) (w : World) (xs : List Int) (e : Ending) (w' : World) : Prop :=
  ∃ V n, e = .returned (.tuple #[V, .nilIface]) ∧ w'.ownsRow w.heap.size 5 1 V n ((xs ++ pairB l).map (Value.int .u8)) ∧ Below w.heap.size w w'
set_option maxRecDepth 8000 in
set_option maxHeartbeats 800000 in
theorem pput_no (l : List P2) (P : Option Addr) (pc : Nat) (A : Option Addr) (len cap : Nat) (xs : List Int) (w : World) (hb : (badP l).1 ≠ 0) (hn : Names w) (h1 : PairsAt w P l) (hw : ∀ x ∈ l, Wide x) (hl : l.length ≤ 1000) (hpc : l.length ≤ pc) (hx : IsBytes w A len xs) (hnil : A = none → len = 0 ∧ cap = 0) (hlen : len ≤ 1073741824) :
    Calls Tryz.prog 6 #[.slice A len cap, .slice P l.length pc] w (PNo l w len xs) := by
  have HC := Lib.hid (clone_any A len cap xs w hx hnil (by omega))
  have HN := Lib.hid hn
  have H1 := Lib.hid h1
  have HWR : Hid (∀ w1, Below w.heap.size w w1 → Calls Tryz.prog 18 #[.slice P l.length pc] w1 (WPost (badP l) w1)) := fun w1 b => wrong_any P pc l w1 (hn.kept b) (h1.kept b) hw hl hpc
  have HB := Lib.hid hb
  obtain ⟨a, ha⟩ : ∃ a, l.length = a := ⟨_, rfl⟩
  rw [ha] at HWR
  rw [ha]
  clear hn h1 hw hl hpc hx hnil hb ha
  go_enter Tryz.func6, Tryz.ntmps6
  go_wp2_with (go_at_call 17; refine HC.out.mono ?_; rintro e w1 ⟨V, rfl, ho, hb1⟩; have HO := Lib.hid ho; have HB1 := Lib.hid hb1; clear ho hb1)
  refine (HWR.out _ HB1.out).mono ?_
  rintro e w2 ⟨x, rfl, hw, hb2⟩
  obtain ⟨u, y, rfl⟩ := iface_of_wrong hw HB.out
  have HW := Lib.hid hw
  have HB2 := Lib.hid hb2
  clear hw hb2
  go_wp2
  go_ret2
  exact ⟨V, _, rfl, Byt.owns_kept HO.out HB2.out, HW.out, HB1.out.trans (HB2.out.mono HB1.out.size)⟩
def GRel (l : List P2) (len : Nat) (xs : List Int) (w : World) (v i : Value) (wr : World) : Prop :=
  ∃ k : Nat, k ≤ l.length ∧ i = .int .i64 k ∧ wr.ownsRow w.heap.size 5 1 v (len + k * 2) ((xs ++ pairB (l.take k)).map (Value.int .u8)) ∧ Below w.heap.size w wr
set_option maxRecDepth 8000 in
set_option maxHeartbeats 3200000 in
theorem pput_yes (l : List P2) (P : Option Addr) (pc : Nat) (A : Option Addr) (len cap : Nat) (xs : List Int) (w : World) (hb : (badP l).1 = 0) (hn : Names w) (h1 : PairsAt w P l) (hw : ∀ x ∈ l, Wide x) (hl : l.length ≤ 1000) (hpc : l.length ≤ pc) (hx : IsBytes w A len xs) (hnil : A = none → len = 0 ∧ cap = 0) (hlen : len ≤ 1073741824) :
    Calls Tryz.prog 6 #[.slice A len cap, .slice P l.length pc] w (PYes l w xs) := by
  obtain ⟨i0, hi, hz0, hz1, hz2⟩ := info_parts infoU8
  have HC := Lib.hid (clone_any A len cap xs w hx hnil (by omega))
  have H1 := Lib.hid h1
  have HWR : Hid (∀ w1, Below w.heap.size w w1 → Calls Tryz.prog 18 #[.slice P l.length pc] w1 fun e w' => e = .returned .nilIface ∧ Below w1.heap.size w1 w') := fun w1 b => by
    refine (wrong_any P pc l w1 (hn.kept b) (h1.kept b) hw hl hpc).mono ?_
    rintro e w' ⟨x, rfl, hx, hb'⟩
    rw [hb] at hx
    rcases hx with ⟨_, _, _, rfl⟩ | ⟨h, _⟩
    · exact ⟨rfl, hb'⟩
    · omega
  have HRG := Lib.hid (right_all hb)
  obtain ⟨a, ha⟩ : ∃ a, l.length = a := ⟨_, rfl⟩
  have HA := Lib.hid ha
  rw [ha] at HWR hl
  rw [ha]
  clear hn h1 hw hx hnil hb ha
  go_enter Tryz.func6, Tryz.ntmps6
  go_wp2_with (go_at_call 17; refine HC.out.mono ?_; rintro e w1 ⟨V, rfl, ho, hb1⟩; have HO := Lib.hid ho; have HB1 := Lib.hid hb1; clear ho hb1)
  refine (HWR.out _ HB1.out).mono ?_
  rintro e w2 ⟨rfl, hb2⟩
  have HO2 : Hid (w2.ownsRow w.heap.size 5 1 V (len + 0 * 2) ((xs ++ pairB (l.take 0)).map (Value.int .u8))) := by
    have h := Byt.owns_kept HO.out hb2
    show World.ownsRow _ _ _ _ _ _ _
    simpa [pairB] using h
  have HB2 := Lib.hid (HB1.out.trans (hb2.mono HB1.out.size))
  clear hb2
  go_wp2
  go_loopw [6, 22] (fun v i wr => GRel l len xs w v i wr) (fun _ i _ => a - (intOf i).toNat)
  case atStart => exact ⟨0, Nat.zero_le _, rfl, HO2.out, HB2.out⟩
  case round =>
    obtain ⟨k, hk, rfl, ho, hbel⟩ := hrel
    have hka : k ≤ a := by rw [← HA.out]; exact hk
    have HOO := Lib.hid ho
    have HE := Lib.hid hbel
    clear hk ho hbel HO2 HB2 HO HB1 HC HWR
    by_cases hlt : k < a
    · obtain ⟨x, hx⟩ : ∃ x, l[k]? = some x := ⟨_, List.getElem?_eq_getElem (by rw [HA.out]; exact hlt)⟩
      obtain ⟨ax, rfl, c1, c2⟩ := (H1.out.kept HE.out) k x hx
      obtain ⟨r1, r2⟩ := HRG.out x (List.mem_of_getElem? hx)
      have HT : Hid (pairB (l.take (k + 1)) = pairB (l.take k) ++ pair1 x) := by show _ = _; rw [take_snoc l k x hx, pairB_snoc]
      obtain ⟨f, t⟩ := x
      dsimp only at c1 c2 r1 r2
      obtain ⟨f, rfl⟩ := Int.eq_ofNat_of_zero_le r1.1
      obtain ⟨t, rfl⟩ := Int.eq_ofNat_of_zero_le r2.1
      have hf1 : f ≤ 255 := by omega
      have ht1 : t ≤ 255 := by omega
      have hw1 : IntKind.u64.wrap (f : Int) = f := by rw [IntKind.wrap_u64]; omega
      have hw2 : IntKind.u64.wrap (t : Int) = t := by rw [IntKind.wrap_u64]; omega
      have HR0 := Lib.hid (heap_alloc_new wr (.cells #[.int .i64 f, .int .i64 t] 50))
      have HB0 : Hid (Below wr.heap.size wr (wr.alloc (.cells #[.int .i64 f, .int .i64 t] 50))) := (Below.refl _ _).alloc (Nat.le_refl _) _
      obtain ⟨PQB, hPB⟩ : ∃ PQB, pair1 ⟨f, t⟩ = PQB := ⟨_, rfl⟩
      have HPL : Hid (PQB.length = 2) := by show _ = _; rw [← hPB]; exact pair1_len _
      have HPB : Hid (low f 1 ++ low t 1 = PQB) := hPB
      rw [hPB] at HT
      have hki : (0 : Int) ≤ k := by omega
      have hkb : (k : Int) < a := by omega
      clear hx hPB r1 r2
      go_wp2_with fail
      refine (put1q none 0 0 [] f _ ⟨rfl, fun h => absurd h (by omega)⟩ (by omega) hf1).mono ?_
      rintro e w3 ⟨G1, n1, k1, rfl, hn1, hg1, ho1, hb1⟩
      rw [List.nil_append] at hn1 ho1
      have HX1 := Lib.hid (own_bytes ho1)
      have HB3 := Lib.hid (HB0.out.trans (hb1.mono HB0.out.size))
      have hr1 := (hb1.block _ (lt_of_block HR0.out)).trans HR0.out
      have HN1 : Hid (n1 = 1) := by show _ = _; rw [hn1, low_length]
      have e2 := cell_of_row w3 _ 1 _ _ _ hr1
      simp only [List.getElem?_toArray, List.getElem?_cons_zero, List.getElem?_cons_succ] at e2
      clear hb1 ho1 hr1 hn1 hg1 HR0 HB0
      go_wp2_with fail
      refine (put1q (some ⟨G1, 0, none⟩) n1 k1 (low f 1) t _ HX1.out (by have := HN1.out; omega) ht1).mono ?_
      rintro e w4 ⟨G3, n3, k3, rfl, hn3, hg3, ho3, hb3⟩
      have hn3' : n3 = 2 := by rw [hn3]; simp [low_length]
      subst hn3'
      rw [HPB.out] at ho3
      have hb6 := HB3.out.trans (hb3.mono HB3.out.size)
      have HB6 := Lib.hid (HE.out.trans (hb6.mono HE.out.size))
      have HO6 := Lib.hid (Byt.owns_kept HOO.out hb6)
      have HAT := Lib.hid (Byt.bytes_at (own_bytes ho3))
      clear ho3 hb3 hb6 hn3 hg3 HX1 e2
      go_wp2_with (at_builtin; refine wpList_append_own _ rfl _ _ 22 rfl w.heap.size 5 i0 (.int .u8 0) 1 1 underU8 hi hz0 hz1 hz2 rfl (by decide) _ (len + k * 2) _ rfl HO6.out ⟨G3, 0, none⟩ 2 k3 (PQB.map (Value.int .u8)) rfl ?c1 ?c2 ?c3 ?c4 ?c5 ?c6 ?_)
      case c1 => rw [List.length_map, HPL.out]
      case c2 => exact HAT.out
      case c3 => exact ints_oneCell _ _
      case c4 => unfold maxLen; omega
      case c5 => omega
      case c6 => exact HB6.out.size
      intro v' w7 ho7 hg7 _
      have HB7 := Lib.hid (HB6.out.grown hg7 HB6.out.size (fun j hj => (HO6.out.lt j hj).1))
      have HO7 : Hid (w7.ownsRow w.heap.size 5 1 v' (len + (k + 1) * 2) ((xs ++ pairB (l.take (k + 1))).map (Value.int .u8))) := by
        rw [HT.out]
        show World.ownsRow _ _ _ _ _ _ _
        rw [show len + (k + 1) * 2 = len + k * 2 + 2 by omega]
        simpa [List.append_assoc] using ho7
      clear ho7 hg7
      go_wp2
      go_roundw
      case rel => exact ⟨k + 1, by rw [HA.out]; omega, by go_num, HO7.out, HB7.out⟩
      case measure => simp [intOf]; omega
    · obtain rfl : k = a := by omega
      have HT : Hid (l.take k = l) := by show _ = _; rw [List.take_of_length_le (by rw [HA.out]; omega)]
      go_wp2
      go_ret2
      exact ⟨_, _, rfl, by have h := HOO.out; rw [HT.out] at h; exact h, HE.out⟩
end Go.Proofs.YtplllmfbpliciaaGreatDoor.Pai

namespace Go.Proofs.YtplllmfbpliciaaGreatDoor.Pai

open Go.RowKit Go.PlainAid Go.Proofs.YtplllmfbpliciaaGreatDoor.Oct Go.Proofs.YtplllmfbpliciaaGreatDoor.Flt Go.Proofs.YtplllmfbpliciaaGreatDoor.Rdr Go.Proofs.YtplllmfbpliciaaGreatDoor.Args

open Go.Proofs.YtplllmfbpliciaaGreatDoor.Act (idB I64)

open Go.Proofs.YtplllmfbpliciaaGreatDoor.Prt (fb fb_step fb_end take_snoc)

open Go.Proofs.YtplllmfbpliciaaGreatDoor.Hdr (below_set2)

set_option linter.unusedVariables false

set_option linter.unusedSimpArgs false

theorem lessB_open (x y : P2) : lessB x y = (decide (x.f < y.f) || ((x.f == y.f) && decide (x.t < y.t))) := rfl
set_option maxRecDepth 4000 in
theorem less10_any (x y : P2) (w : World) :
    Calls Tryz.prog 20 #[.agg (pairC x), .agg (pairC y)] w fun e w' => e = .returned (.bool (lessB x y)) ∧ Below w.heap.size w w' := by
  have HB := Lib.hid (fun o1 o2 => two_below w o1 o2)
  rw [lessB_open]
  unfold pairC
  cases h1 : decide (x.f < y.f)
  · cases h2 : (x.f == y.f)
    · go_enter Tryz.func20, Tryz.ntmps20
      go_wp2
      go_ret
      exact ⟨rfl, HB.out _ _⟩
    · cases h3 : decide (x.t < y.t)
      all_goals
        go_enter Tryz.func20, Tryz.ntmps20
        go_wp2
        go_ret
        exact ⟨rfl, HB.out _ _⟩
  · go_enter Tryz.func20, Tryz.ntmps20
    go_wp2
    go_ret
    exact ⟨rfl, HB.out _ _⟩
theorem PairsAt.drewN {w : World} {A : Option Addr} {l : List P2} (h : PairsAt w A l) (n : Nat) : PairsAt (w.drewN n) A l := h
theorem eq_pair (a b : Int) (w : World) : (Op.equalIn 10000 50 (.agg #[.int .i64 a, .int .i64 b]) (.agg #[.int .i64 a, .int .i64 b])).run Tryz.prog w = .ok true w := by
  have hS : Tryz.prog.underlying 50 = some (.struct (Tryz.prog.fieldsOf 50)) := by kernel_rfl
  rw [show (10000 : Nat) = 9999 + 1 from rfl, run_equalIn_agg w 9999 50 _ _ hS (by kernel_rfl)]
  simp only [Program.fieldsOf, Tryz.underlying50]
  go_simp
set_option maxRecDepth 4000 in
set_option maxHeartbeats 1600000 in
theorem same10_yes (A B : Option Addr) (ca cb : Nat) (l : List P2) (w : World) (h1 : PairsAt w A l) (h2 : PairsAt w B l) (hl : l.length ≤ maxLen) :
    Calls Tryz.prog 12 #[.slice A l.length ca, .slice B l.length cb] w fun e w' => e = .returned (.bool true) ∧ ∃ n, w' = w.drewN n := by
  unfold maxLen at hl
  obtain ⟨a, ha⟩ : ∃ a, l.length = a := ⟨_, rfl⟩
  have HA := Lib.hid ha
  rw [ha] at hl
  rw [ha]
  have H1 := Lib.hid h1
  have H2 := Lib.hid h2
  clear h1 h2 ha
  have tne : ((a : Int) != (a : Int)) = false := by simp
  go_enter Tryz.func12, Tryz.ntmps12
  go_wp2
  go_loopw [5] (fun i wr => ∃ k n : Nat, k ≤ a ∧ i = .int .i64 k ∧ wr = w.drewN n) (fun i _ => a - (intOf i).toNat)
  case atStart => exact ⟨0, 0, Nat.zero_le _, rfl, rfl⟩
  case round =>
    obtain ⟨k, n, hk, rfl, hw⟩ := hrel
    have HW := Lib.hid hw
    by_cases hlt : k < a
    · obtain ⟨x, hx⟩ : ∃ x, l[k]? = some x := ⟨_, List.getElem?_eq_getElem (by rw [HA.out]; exact hlt)⟩
      obtain ⟨ax, rfl, c1, c2⟩ := H1.out k x hx
      obtain ⟨ay, rfl, c4, c5⟩ := H2.out k x hx
      have c1' : wr.cell? (ax.add (k * 2)) = some (.int .i64 x.f) := by rw [hw]; exact c1
      have c2' : wr.cell? ⟨(ax.add (k * 2)).block, (ax.add (k * 2)).off + 1, none⟩ = some (.int .i64 x.t) := by rw [hw]; exact c2
      have c4' : wr.cell? (ay.add (k * 2)) = some (.int .i64 x.f) := by rw [hw]; exact c4
      have c5' : wr.cell? ⟨(ay.add (k * 2)).block, (ay.add (k * 2)).off + 1, none⟩ = some (.int .i64 x.t) := by rw [hw]; exact c5
      have heq : ∀ wx : World, (Op.equalIn 10000 50 (.agg #[.int .i64 x.f, .int .i64 x.t]) (.agg #[.int .i64 x.f, .int .i64 x.t])).run Tryz.prog wx = .ok true wx := fun wx => eq_pair _ _ wx
      have hki : (0 : Int) ≤ k := by omega
      have hka : (k : Int) < a := by omega
      clear hw hx c1 c2 c4 c5 H1 H2
      go_wp2
      go_quiet (fail)
      go_wp2
      go_roundw
      case rel => exact ⟨k + 1, n + nq, by omega, by go_num, by rw [HW.out, World.drewN_drewN]⟩
      case measure => simp [intOf]; omega
    · obtain rfl : k = a := by omega
      clear hw
      go_wp2
      go_ret
      exact ⟨rfl, n, HW.out⟩
theorem low_1 {n : Int} (h0 : 0 ≤ n) (h1 : n ≤ 255) : low n.toNat 1 = [n] := by
  simp [low]; omega
theorem idB_lo {n : Int} (h : decide (n < 0) = true) : idB n = false := by have := of_decide_eq_true h; unfold idB; simp; omega
theorem idB_hi {n : Int} (h : decide (255 < n) = true) : idB n = false := by have := of_decide_eq_true h; unfold idB; simp; omega
theorem idB_in {n : Int} (h : decide (n < 0) = false) (h2 : decide (255 < n) = false) : idB n = true := by have := of_decide_eq_false h; have := of_decide_eq_false h2; unfold idB; simp; omega
def ERel (l : List P2) (w : World) (i : Value) (wr : World) : Prop :=
  ∃ k : Nat, k ≤ l.length ∧ i = .int .i64 k ∧ badP l = fb bad1 (l.take k) (l.drop k) ∧ wr.heap[w.heap.size]? = some (.cells #[.int .i64 0, .int .i64 0, .int .i64 0] 31 (0, 0)) ∧ Below w.heap.size w wr
set_option maxRecDepth 8000 in
set_option maxHeartbeats 3200000 in
theorem wrong10_any (A : Option Addr) (cap : Nat) (l : List P2) (w : World) (h1 : PairsAt w A l) (hl : l.length ≤ 1000) :
    Calls Tryz.prog 7 #[.slice A l.length cap] w fun e w' => e = .returned (fltV (badP l).1 (sec4 (badP l).1) (badP l).2) ∧ Below w.heap.size w w' := by
  have H1 := Lib.hid h1
  obtain ⟨a, ha⟩ : ∃ a, l.length = a := ⟨_, rfl⟩
  have HA := Lib.hid ha
  rw [ha] at hl
  rw [ha]
  obtain ⟨q, hq⟩ : ∃ q, badP l = q := ⟨_, rfl⟩
  have HQ := Lib.hid hq
  rw [hq]
  have HO := fun a b c => Lib.hid (one_flt a b c)
  have HB0 : Hid (Below w.heap.size w (w.alloc (.cells #[.int .i64 0, .int .i64 0, .int .i64 0] 31))) := (Below.refl _ _).alloc (Nat.le_refl _) _
  have HF0 := Lib.hid (heap_alloc_new w (.cells #[.int .i64 0, .int .i64 0, .int .i64 0] 31))
  unfold fltV
  clear h1 ha hq
  go_enter Tryz.func7, Tryz.ntmps7
  go_wp2
  go_loopw [3] (fun i wr => ERel l w i wr) (fun i _ => a - (intOf i).toNat)
  case atStart => exact ⟨0, Nat.zero_le _, rfl, by simp [badP], HF0.out, HB0.out⟩
  case round =>
    obtain ⟨k, hk, rfl, hb, hf, hbel⟩ := hrel
    have HB := Lib.hid hb
    have HE := Lib.hid hbel
    have HF := Lib.hid hf
    have hka : k ≤ a := by rw [← HA.out]; exact hk
    clear hb hk hbel hf HB0 HF0
    by_cases hlt : k < a
    · obtain ⟨x, hx⟩ : ∃ x, l[k]? = some x := ⟨_, List.getElem?_eq_getElem (by rw [HA.out]; exact hlt)⟩
      have HPK := Lib.hid (H1.out.kept HE.out)
      obtain ⟨ax, rfl, c1, c2⟩ := HPK.out k x hx
      have hst := (HB.out.symm.trans HQ.out).symm.trans (fb_step bad1 l k x hx)
      have hbd : bad1 (l.take k) x = if idB x.f = false then 18 else if idB x.t = false then 18 else if riseB (l.take k) x = false then 9 else 0 := rfl
      rw [hbd] at hst
      have HX := Lib.hid hx
      have HLS := Lib.hid (fun (y : P2) W => less10_any y x W)
      have hxx : pairC x = #[.int .i64 x.f, .int .i64 x.t] := rfl
      have HB2 : Hid (Below w.heap.size w (wr.alloc (.cells #[.int .i64 x.f, .int .i64 x.t] 50))) := HE.out.alloc HE.out.size _
      have HF2 : Hid ((wr.alloc (.cells #[.int .i64 x.f, .int .i64 x.t] 50)).heap[w.heap.size]? = some (.cells #[.int .i64 0, .int .i64 0, .int .i64 0] 31 (0, 0))) := (heap_alloc_old _ _ (lt_of_block HF.out)).trans HF.out
      have HP2 : Hid (PairsAt (wr.alloc (.cells #[.int .i64 x.f, .int .i64 x.t] 50)) (some ax) l) := HPK.out.kept ((Below.refl _ _).alloc (Nat.le_refl _) _)
      have HXR := Lib.hid (heap_alloc_new wr (.cells #[.int .i64 x.f, .int .i64 x.t] 50))
      rw [hxx] at HLS
      obtain ⟨s, p⟩ := x
      dsimp only at c1 c2 hst HB2 HF2 HP2 HXR
      have hki : (0 : Int) ≤ k := by omega
      have hkb : (k : Int) < a := by omega
      clear hx hbd hxx HPK
      cases t1 : decide (s < 0) with
      | true =>
        obtain rfl : q = (18, (k : Int)) := by
          rw [idB_lo t1] at hst
          simpa using hst
        clear hst HQ
        go_wp2_with ((with_reducible show wpList _ _ _ _ _ _); refine wpList_store_row rfl 31 (.tmp 2) (.tmp 34) rfl w.heap.size #[.int .i64 18, .int .i64 4, .int .i64 k] rfl rfl 31 #[.int .i64 0, .int .i64 0, .int .i64 0] HF2.out (by rw [size_flt]; rfl) rfl (HO _ _ _).out ?_)
        refine bodyPost_ret (v := .agg #[.int .i64 18, .int .i64 4, .int .i64 k]) (results_cell_row (by rfl) _ _ w.heap.size 31 _ (0, 0) _ rfl (setRow_heap _ _ _ _ _ _ HF2.out) Tryz.underlying31 rfl (by rw [size_flt]; rfl)) rfl ⟨rfl, ?_⟩
        exact below_set2 HB2.out (Nat.le_refl _)
      | false =>
      cases t2 : decide (255 < s) with
      | true =>
        obtain rfl : q = (18, (k : Int)) := by
          rw [idB_hi t2] at hst
          simpa using hst
        clear hst HQ
        go_wp2_with ((with_reducible show wpList _ _ _ _ _ _); refine wpList_store_row rfl 31 (.tmp 2) (.tmp 34) rfl w.heap.size #[.int .i64 18, .int .i64 4, .int .i64 k] rfl rfl 31 #[.int .i64 0, .int .i64 0, .int .i64 0] HF2.out (by rw [size_flt]; rfl) rfl (HO _ _ _).out ?_)
        refine bodyPost_ret (v := .agg #[.int .i64 18, .int .i64 4, .int .i64 k]) (results_cell_row (by rfl) _ _ w.heap.size 31 _ (0, 0) _ rfl (setRow_heap _ _ _ _ _ _ HF2.out) Tryz.underlying31 rfl (by rw [size_flt]; rfl)) rfl ⟨rfl, ?_⟩
        exact below_set2 HB2.out (Nat.le_refl _)
      | false =>
      cases t3 : decide (p < 0) with
      | true =>
        obtain rfl : q = (18, (k : Int)) := by
          rw [idB_in t1 t2, idB_lo t3] at hst
          simpa using hst
        clear hst HQ
        go_wp2_with ((with_reducible show wpList _ _ _ _ _ _); refine wpList_store_row rfl 31 (.tmp 2) (.tmp 34) rfl w.heap.size #[.int .i64 18, .int .i64 4, .int .i64 k] rfl rfl 31 #[.int .i64 0, .int .i64 0, .int .i64 0] HF2.out (by rw [size_flt]; rfl) rfl (HO _ _ _).out ?_)
        refine bodyPost_ret (v := .agg #[.int .i64 18, .int .i64 4, .int .i64 k]) (results_cell_row (by rfl) _ _ w.heap.size 31 _ (0, 0) _ rfl (setRow_heap _ _ _ _ _ _ HF2.out) Tryz.underlying31 rfl (by rw [size_flt]; rfl)) rfl ⟨rfl, ?_⟩
        exact below_set2 HB2.out (Nat.le_refl _)
      | false =>
      cases t4 : decide (255 < p) with
      | true =>
        obtain rfl : q = (18, (k : Int)) := by
          rw [idB_in t1 t2, idB_hi t4] at hst
          simpa using hst
        clear hst HQ
        go_wp2_with ((with_reducible show wpList _ _ _ _ _ _); refine wpList_store_row rfl 31 (.tmp 2) (.tmp 34) rfl w.heap.size #[.int .i64 18, .int .i64 4, .int .i64 k] rfl rfl 31 #[.int .i64 0, .int .i64 0, .int .i64 0] HF2.out (by rw [size_flt]; rfl) rfl (HO _ _ _).out ?_)
        refine bodyPost_ret (v := .agg #[.int .i64 18, .int .i64 4, .int .i64 k]) (results_cell_row (by rfl) _ _ w.heap.size 31 _ (0, 0) _ rfl (setRow_heap _ _ _ _ _ _ HF2.out) Tryz.underlying31 rfl (by rw [size_flt]; rfl)) rfl ⟨rfl, ?_⟩
        exact below_set2 HB2.out (Nat.le_refl _)
      | false =>
      rw [idB_in t1 t2, idB_in t3 t4] at hst
      rcases Nat.eq_zero_or_pos k with hk0 | hk0
      · have HQ2 : Hid (q = fb bad1 (l.take (k + 1)) (l.drop (k + 1))) := by
          show _ = _
          subst hk0
          rw [show ∀ x, riseB (l.take 0) x = true from fun _ => rfl] at hst
          simpa using hst
        have tk : decide ((0 : Int) < (k : Int)) = false := decide_eq_false (by omega)
        have tk2 : decide (0 < k) = false := decide_eq_false (by omega)
        clear hst hk0
        go_wp2
        go_quiet (fail)
        go_wp2
        go_roundw
        case rel => exact ⟨k + 1, by rw [HA.out]; omega, by go_num, HQ.out.trans HQ2.out, HF2.out, below_drewN HB2.out _⟩
        case measure => simp [intOf]; omega
      · obtain ⟨j, hkj⟩ : ∃ j, k = j + 1 := ⟨k - 1, by omega⟩
        obtain ⟨y, hy⟩ : ∃ y, l[j]? = some y := ⟨_, List.getElem?_eq_getElem (by rw [HA.out]; omega)⟩
        have hla : riseB (l.take k) ⟨s, p⟩ = lessB y ⟨s, p⟩ := by rw [hkj]; exact rise_take l j y _ hy
        rw [hla] at hst
        have tk : decide ((0 : Int) < (k : Int)) = true := decide_eq_true (by omega)
        have tk2 : decide (0 < k) = true := decide_eq_true (by omega)
        have hj1 : IntKind.i64.wrap ((k : Int) - 1) = (j : Int) := by rw [IntKind.wrap_i64]; omega
        have hj0 : (0 : Int) ≤ (j : Int) := by omega
        have hja : (j : Int) < a := by omega
        have HL := Lib.hid (fun W => HLS.out y W)
        obtain ⟨ay, hay, d1, d2⟩ := HP2.out j y hy
        obtain rfl : ax = ay := Option.some.inj hay
        obtain ⟨y1, y2⟩ := y
        unfold pairC at HL
        dsimp only at HL d1 d2
        have e0 := cell_of_row _ _ 0 _ _ _ HXR.out
        have e1 := cell_of_row _ _ 1 _ _ _ HXR.out
        simp only [List.getElem?_toArray, List.getElem?_cons_zero, List.getElem?_cons_succ] at e0 e1
        obtain ⟨bl, hbl⟩ : ∃ b, lessB ⟨y1, y2⟩ ⟨s, p⟩ = b := ⟨_, rfl⟩
        rw [hbl] at HL hst
        have HCE := Lib.hid (And.intro d1 (And.intro d2 (And.intro e0 e1)))
        have HST := Lib.hid hst
        clear hy hay hk0 hla hst hbl d1 d2 e0 e1 hkj
        go_wp2
        obtain ⟨W, hW⟩ : ∃ W, (wr.alloc (.cells #[.int .i64 s, .int .i64 p] 50)) = W := ⟨_, rfl⟩
        obtain ⟨C, hC⟩ : ∃ C, wr.heap.size = C := ⟨_, rfl⟩
        rw [hW] at HCE HB2 HF2
        rw [hC] at HCE
        rw [hW, hC]
        clear HP2 HXR hW hC
        obtain ⟨d1, d2, e0, e1⟩ := HCE.out
        have HBD : Hid (Below w.heap.size w W.drew) := HB2.out.drew
        have HFD : Hid (W.drew.heap[w.heap.size]? = some (.cells #[.int .i64 0, .int .i64 0, .int .i64 0] 31 (0, 0))) := HF2.out
        have HCD : Hid (W.drew.cell? (ax.add (j * 2)) = some (.int .i64 y1) ∧ W.drew.cell? ⟨(ax.add (j * 2)).block, (ax.add (j * 2)).off + 1, none⟩ = some (.int .i64 y2) ∧ W.drew.cell? ⟨C, 0, none⟩ = some (.int .i64 s) ∧ W.drew.cell? ⟨C, 1, none⟩ = some (.int .i64 p)) := HCE.out
        cases bl
        all_goals
          go_region_held3 (fun wx => wx.cell? (ax.add (j * 2)) = some (.int .i64 y1) ∧ wx.cell? ⟨(ax.add (j * 2)).block, (ax.add (j * 2)).off + 1, none⟩ = some (.int .i64 y2) ∧ wx.cell? ⟨C, 0, none⟩ = some (.int .i64 s) ∧ wx.cell? ⟨C, 1, none⟩ = some (.int .i64 p)) (first | (go_keep; done) | exact HCE.out | exact HKP.out | (refine ⟨?_, ?_, ?_, ?_⟩ <;> assumption))
            (first
              | (go_at_call 20; refine (HL.out _).mono ?_; rintro e w2 ⟨rfl, hb2⟩; have HB3 := Lib.hid (HBD.out.trans (hb2.mono HBD.out.size)); have HF3 := Lib.hid ((hb2.block _ (lt_of_block HFD.out)).trans HFD.out); have HKP := Lib.hid (kept4 HCD.out hb2); clear hb2))
        · obtain rfl : q = (9, (k : Int)) := by
            have hst := HST.out
            simpa using hst
          clear HST HQ
          go_wp2_with ((with_reducible show wpList _ _ _ _ _ _); refine wpList_store_row rfl 31 (.tmp 2) (.tmp 48) rfl w.heap.size #[.int .i64 9, .int .i64 4, .int .i64 k] rfl rfl 31 #[.int .i64 0, .int .i64 0, .int .i64 0] HF3.out (by rw [size_flt]; rfl) rfl (HO _ _ _).out ?_)
          refine bodyPost_ret (v := .agg #[.int .i64 9, .int .i64 4, .int .i64 k]) (results_cell_row (by rfl) _ _ w.heap.size 31 _ (0, 0) _ rfl (setRow_heap _ _ _ _ _ _ HF3.out) Tryz.underlying31 rfl (by rw [size_flt]; rfl)) rfl ⟨rfl, ?_⟩
          exact below_set2 HB3.out (Nat.le_refl _)
        · have HQ2 : Hid (q = fb bad1 (l.take (k + 1)) (l.drop (k + 1))) := by
            show _ = _
            have hst := HST.out
            simpa using hst
          clear HST
          go_wp2
          go_roundw
          case rel => exact ⟨k + 1, by rw [HA.out]; omega, by go_num, HQ.out.trans HQ2.out, HF3.out, HB3.out⟩
          case measure => simp [intOf]; omega
    · obtain rfl : k = a := by omega
      have HQ2 : Hid (q = (0, 0)) := by
        show _ = _
        have h := HQ.out.symm.trans HB.out
        rw [← HA.out, fb_end] at h
        exact h
      obtain rfl := HQ2.out
      clear HQ2 HQ HB
      go_wp2_with ((with_reducible show wpList _ _ _ _ _ _); refine wpList_store_row rfl 31 (.tmp 2) (.tmp 49) rfl w.heap.size #[.int .i64 0, .int .i64 0, .int .i64 0] rfl rfl 31 #[.int .i64 0, .int .i64 0, .int .i64 0] HF.out (by rw [size_flt]; rfl) rfl (HO _ _ _).out ?_)
      refine bodyPost_ret (v := .agg #[.int .i64 0, .int .i64 0, .int .i64 0]) (results_cell_row (by rfl) _ _ w.heap.size 31 _ (0, 0) _ rfl (setRow_heap _ _ _ _ _ _ HF.out) Tryz.underlying31 rfl (by rw [size_flt]; rfl)) rfl ⟨rfl, ?_⟩
      exact below_set2 HE.out (Nat.le_refl _)
end Go.Proofs.YtplllmfbpliciaaGreatDoor.Pai

namespace Go.Proofs.YtplllmfbpliciaaGreatDoor.Pai

open Go.RowKit Go.PlainAid Go.Proofs.YtplllmfbpliciaaGreatDoor.Oct Go.Proofs.YtplllmfbpliciaaGreatDoor.Flt Go.Proofs.YtplllmfbpliciaaGreatDoor.Rdr Go.Proofs.YtplllmfbpliciaaGreatDoor.Args

open Go.Proofs.YtplllmfbpliciaaGreatDoor.Act (idB I64)

open Go.Proofs.YtplllmfbpliciaaGreatDoor.Prt (fb fb_step fb_end take_snoc)

open Go.Proofs.YtplllmfbpliciaaGreatDoor.Hdr (below_set2)

set_option linter.unusedVariables false

set_option linter.unusedSimpArgs false

def TRel (l : List P2) (w : World) (v i : Value) (wr : World) : Prop := ∃ k : Nat, k ≤ l.length ∧ i = .int .i64 k ∧ v = .string (strOfNums (pairB (l.take k))) ∧ Below w.heap.size w wr
set_option maxRecDepth 8000 in
set_option maxHeartbeats 3200000 in
theorem text10_any (P : Option Addr) (pc : Nat) (l : List P2) (w : World) (h1 : PairsAt w P l) (hr : ∀ x ∈ l, (0 ≤ x.f ∧ x.f ≤ 255) ∧ (0 ≤ x.t ∧ x.t ≤ 255)) (hl : l.length ≤ 1000) :
    Calls Tryz.prog 10 #[.slice P l.length pc] w fun e w' => e = .returned (.string (strOfNums (pairB l))) ∧ Below w.heap.size w w' := by
  have H1 := Lib.hid h1
  have HR := Lib.hid hr
  obtain ⟨a, ha⟩ : ∃ a, l.length = a := ⟨_, rfl⟩
  have HA := Lib.hid ha
  rw [ha] at hl
  rw [ha]
  clear h1 hr ha
  go_enter Tryz.func10, Tryz.ntmps10
  go_wp2
  go_loopw [3, 4] (fun v i wr => TRel l w v i wr) (fun _ i _ => a - (intOf i).toNat)
  case atStart => exact ⟨0, Nat.zero_le _, rfl, rfl, Below.refl _ _⟩
  case round =>
    obtain ⟨k, hk, rfl, rfl, hbel⟩ := hrel
    have hka : k ≤ a := by rw [← HA.out]; exact hk
    have HE := Lib.hid hbel
    clear hk hbel
    by_cases hlt : k < a
    · obtain ⟨x, hx⟩ : ∃ x, l[k]? = some x := ⟨_, List.getElem?_eq_getElem (by rw [HA.out]; exact hlt)⟩
      obtain ⟨ax, rfl, c1, c2⟩ := (H1.out.kept HE.out) k x hx
      obtain ⟨r1, r2⟩ := HR.out x (List.mem_of_getElem? hx)
      obtain ⟨f, t⟩ := x
      dsimp only at c1 c2 r1 r2
      obtain ⟨f, rfl⟩ := Int.eq_ofNat_of_zero_le r1.1
      obtain ⟨t, rfl⟩ := Int.eq_ofNat_of_zero_le r2.1
      have HT : Hid (strOfNums (pairB (l.take (k + 1))) = strOfNums (pairB (l.take k)) ++ (strOfNums (low f 1) ++ strOfNums (low t 1))) := by show _ = _; rw [take_snoc l k _ hx, pairB_snoc, strOf_append]; unfold pair1; rw [strOf_append]; rfl
      have hS : (strOfNums (pairB (l.take k))).size ≤ 10000 := by
        rw [strOfNums_size, pairB_len, List.length_take]; omega
      have TF : Hid (∀ W, Calls Tryz.prog 22 #[.int .u64 (f : Nat), .int .i64 1] W fun e w' => e = .returned (.string (strOfNums (low f 1))) ∧ Below W.heap.size W w') := fun W => text_any f 1 (by omega) (by omega) W
      have TT : Hid (∀ W, Calls Tryz.prog 22 #[.int .u64 (t : Nat), .int .i64 1] W fun e w' => e = .returned (.string (strOfNums (low t 1))) ∧ Below W.heap.size W w') := fun W => text_any t 1 (by omega) (by omega) W
      have hw1 : IntKind.u64.wrap (f : Int) = f := by rw [IntKind.wrap_u64]; omega
      have hw2 : IntKind.u64.wrap (t : Int) = t := by rw [IntKind.wrap_u64]; omega
      have z1 : (strOfNums (low f 1)).size = 1 := by rw [strOfNums_size, low_length]
      have z2 : (strOfNums (low t 1)).size = 1 := by rw [strOfNums_size, low_length]
      obtain ⟨SS, hSS⟩ : ∃ S, strOfNums (pairB (l.take k)) = S := ⟨_, rfl⟩
      obtain ⟨S1, hS1⟩ : ∃ S, strOfNums (low f 1) = S := ⟨_, rfl⟩
      obtain ⟨S2, hS2⟩ : ∃ S, strOfNums (low t 1) = S := ⟨_, rfl⟩
      rw [hSS, hS1, hS2] at HT
      rw [hSS] at hS
      rw [hS1] at TF z1
      rw [hS2] at TT z2
      rw [hSS]
      have hsum1 : ¬ 9223372036854775807 < S1.size + S2.size := by omega
      have hsum2 : ¬ 9223372036854775807 < SS.size + (S1 ++ S2).size := by rw [ByteArray.size_append]; omega
      have hsum3 : ¬ 9223372036854775807 < SS.size + (S1.size + S2.size) := by omega
      have hki : (0 : Int) ≤ k := by omega
      have hkb : (k : Int) < a := by omega
      have HC0 : Hid (wr.drew.cell? (ax.add (k * 2)) = some (.int .i64 f) ∧ wr.drew.cell? ⟨(ax.add (k * 2)).block, (ax.add (k * 2)).off + 1, none⟩ = some (.int .i64 t)) := ⟨c1, c2⟩
      have HED : Hid (Below w.heap.size w wr.drew) := HE.out.drew
      clear hx hSS hS1 hS2 r1 r2 z1 z2
      go_wp2
      go_region_held3 (fun wx => wx.cell? (ax.add (k * 2)) = some (.int .i64 f) ∧ wx.cell? ⟨(ax.add (k * 2)).block, (ax.add (k * 2)).off + 1, none⟩ = some (.int .i64 t)) (first | (go_keep; done) | exact HC0.out | exact HK2.out | exact HK1.out | (refine ⟨?_, ?_⟩ <;> assumption))
        (first
          | (go_at_call 22; ((with_reducible refine (TF.out _).mono ?_); rintro e w1 ⟨rfl, hb1⟩); have HK1 := Lib.hid (kept2 HC0.out hb1); have HB1 := Lib.hid (HED.out.trans (hb1.mono HED.out.size)); clear hb1)
          | (go_at_call 22; ((with_reducible refine (TT.out _).mono ?_); rintro e w2 ⟨rfl, hb2⟩); have HK2 := Lib.hid (kept2 HK1.out hb2); have HB2 := Lib.hid (HB1.out.trans (hb2.mono HB1.out.size)); clear hb2))
      go_wp2
      go_roundw
      case rel => exact ⟨k + 1, by rw [HA.out]; omega, by go_num, by rw [HT.out], HB2.out⟩
      case measure => simp [intOf]; omega
    · obtain rfl : k = a := by omega
      have HT : Hid (l.take k = l) := by show _ = _; rw [List.take_of_length_le (by rw [HA.out]; omega)]
      go_wp2
      go_ret
      exact ⟨by rw [HT.out]; rfl, HE.out⟩
end Go.Proofs.YtplllmfbpliciaaGreatDoor.Pai

namespace Go.Proofs.YtplllmfbpliciaaGreatDoor.Pai

open Go.RowKit Go.PlainAid Go.Proofs.YtplllmfbpliciaaGreatDoor.Oct Go.Proofs.YtplllmfbpliciaaGreatDoor.Flt Go.Proofs.YtplllmfbpliciaaGreatDoor.Rdr Go.Proofs.YtplllmfbpliciaaGreatDoor.Args

open Go.Proofs.YtplllmfbpliciaaGreatDoor.Act (row_beside row_base rdr_beside just_trans2)

set_option linter.unusedVariables false

set_option linter.unusedSimpArgs false

theorem num_k0 {t : St} {n : Nat} (h : (numS t n).k = 0) : t.k = 0 ∧ (numS t n).p = t.p + n ∧ getB t.s t.p n = true := by
  unfold numS at h ⊢
  split at h
  · rename_i h0
    rw [if_pos h0]
    split at h
    · rename_i h1
      rw [if_pos h1]
      exact ⟨h0, rfl, h1⟩
    · rw [fail_k h0] at h; omega
  · rename_i h0
    exact absurd h h0
theorem need_k0 {t : St} {b : Bool} {k a : Int} (h1 : 1 ≤ k) (h2 : k ≤ 18) (h : (needS b t k a).k = 0) : needS b t k a = t ∧ b = true := by
  unfold needS at h ⊢
  split at h
  · rename_i hb
    rw [if_pos hb]
    exact ⟨rfl, hb⟩
  · exfalso
    by_cases h0 : t.k = 0
    · have e : k = ((k.toNat : Nat) : Int) := by omega
      rw [e, fail_yes h0 (by omega) (by omega)] at h
      dsimp only at h
      omega
    · rw [fail_had h0] at h
      exact h0 h
theorem pS_place {t : St} {l : List P2} (h : (pS t l).k = 0) : (pS t l).p = t.p + 2 := by
  unfold pS at h ⊢
  obtain ⟨e1, _⟩ := need_k0 (by omega) (by omega) h
  rw [e1] at h ⊢
  unfold pS2 at h ⊢
  obtain ⟨k2, p2, _⟩ := num_k0 h
  obtain ⟨k1, p1, _⟩ := num_k0 k2
  rw [p2, p1]
theorem it_place (t : St) : ∀ i, (itP t i).1.k = 0 → (itP t i).1.p = t.p + i * 2
  | 0, _ => by simp [itP]
  | i + 1, h => by
    have ih := it_place t i
    rw [itP] at h ⊢
    split at h
    · rename_i h0
      rw [if_pos h0]
      have := pS_place h
      dsimp only at this ⊢
      rw [this, ih h0]; omega
    · rename_i h0
      exact absurd h h0
/-- A row of the call's own reads as pairs. -/
theorem own_pairs {w : World} {B G c : Nat} {l : List P2} (h : w.ownsRow B 50 2 (.slice (some ⟨G, 0, none⟩) l.length c) l.length (flatP l)) : PairsAt w (some ⟨G, 0, none⟩) l := by
  intro i x hx
  have hi : i < l.length := by
    rcases Nat.lt_or_ge i l.length with hh | hh
    · exact hh
    · rw [List.getElem?_eq_none hh] at hx; cases hx
  have e : (Addr.mk G 0 none).add (i * 2) = ⟨G, i * 2, none⟩ := by
    rcases Nat.eq_zero_or_pos (i * 2) with h0 | h0
    · rw [h0]; simp [Addr.add]
    · simp [Addr.add]; omega
  refine ⟨_, rfl, ?_, ?_⟩
  · have := h.cellAt (i * 2 + 0) (by omega)
    rw [flatP_get l i x 0 hx (by omega)] at this
    rw [e]; exact this
  · have := h.cellAt (i * 2 + 1) (by omega)
    rw [flatP_get l i x 1 hx (by omega)] at this
    rw [e]; exact this
theorem own_at {w : World} {B : Nat} {V : Value} {l : List P2} (h : w.ownsRow B 50 2 V l.length (flatP l)) : ∃ A c, V = .slice A l.length c ∧ PairsAt w A l ∧ (A = none → c = 0) ∧ l.length ≤ c := by
  rcases h.2 with ⟨rfl, h0⟩ | ⟨g, c, cur, rfl, h2, h3, h4⟩
  · refine ⟨none, 0, by rw [h0], fun i x hx => ?_, fun _ => rfl, by omega⟩
    have : l = [] := List.eq_nil_of_length_eq_zero h0
    rw [this] at hx; simp at hx
  · exact ⟨_, c, rfl, own_pairs h, (fun e => nomatch e), h4.1⟩
theorem pairs_at {w : World} {B n c : Nat} {A : Option Addr} {l : List P2} (h : w.ownsRow B 50 2 (.slice A n c) l.length (flatP l)) : n = l.length ∧ PairsAt w A l := by
  obtain ⟨A', c', e, h2, _⟩ := own_at h
  simp only [Value.slice.injEq] at e
  obtain ⟨rfl, rfl, _⟩ := e
  exact ⟨rfl, h2⟩
/-- Within Read: the reader g, the row. -/
structure RQ (g : Nat) (t : St) (l : List P2) (V : Value) (w wr : World) : Prop where
  rd : IsRdr wr g t
  own : wr.ownsRow w.heap.size 50 2 V l.length (flatP l)
  just : Just g w wr
  gl : g < w.heap.size
theorem RQ.rdr {g : Nat} {t t' : St} {l : List P2} {V : Value} {w wr w' : World} (f : RQ g t l V w wr) (hr : IsRdr w' g t') (j : Just g wr w') : RQ g t' l V w w' := by
  have h1 := f.gl
  refine ⟨hr, row_beside f.own j fun k hk => ?_, f.just.trans j, h1⟩
  have := (f.own.lt k hk).1
  omega
theorem RQ.keep {g : Nat} {t : St} {l : List P2} {V : Value} {w wr w' : World} (f : RQ g t l V w wr) (b : Below wr.heap.size wr w') : RQ g t l V w w' := f.rdr (f.rd.kept b) (Just.of_below b)
theorem RQ.grown {g : Nat} {t : St} {x : P2} {l : List P2} {V V' : Value} {w wr w' : World} (f : RQ g t l V w wr) (hg : wr.grownBy w' V.ownBlock) (n : Nat) (hn : n = (l ++ [x]).length) (ho : w'.ownsRow w.heap.size 50 2 V' n (flatP l ++ pairL x)) : RQ g t (l ++ [x]) V' w w' := by
  have h1 := f.gl
  have hne : ∀ k, k < w.heap.size → some k ≠ V.ownBlock := fun k hk e => by have := (f.own.lt k e.symm).1; omega
  refine ⟨?_, by rw [← hn, flatP_snoc]; exact ho, ?_, h1⟩
  · obtain ⟨y, hy, hw⟩ := f.rd
    refine ⟨y, (hg.block g (lt_of_block hy) (hne g h1)).trans hy, hw.kept fun k cs hk => hg.block k (lt_of_block hk) fun e => ?_⟩
    obtain ⟨c2, e2⟩ := Prt.own_block f.own e.symm
    rw [hk] at e2
    simp only [Option.some.injEq, Obj.cells.injEq] at e2
    exact absurd e2.2.1 (by decide)
  · exact ⟨hg.os.trans f.just.os, hg.tape.trans f.just.tape, hg.output.trans f.just.output, Nat.le_trans f.just.size hg.size, fun k hk hkg => (hg.block k (Nat.lt_of_lt_of_le hk f.just.size) (hne k hk)).trans (f.just.block k hk hkg)⟩
def KPost (g : Nat) (t : St) (l : List P2) (w : World) (e : Ending) (w' : World) : Prop :=
  (t.k ≠ 0 ∧ ∃ x, e = .returned (.tuple #[.slice none 0 0, x]) ∧ Wrong w' x t.k t.fs t.fa ∧ IsRdr w' g t ∧ Just g w w') ∨ (t.k = 0 ∧ ∃ V, e = .returned (.tuple #[V, .nilIface]) ∧ w'.ownsRow w.heap.size 50 2 V l.length (flatP l) ∧ IsRdr w' g t ∧ Just g w w')
def KRel (g : Nat) (t : St) (n : Nat) (w : World) (v i : Value) (wr : World) : Prop :=
  ∃ k : Nat, k ≤ n ∧ i = .int .i64 k ∧ RQ g (itP t k).1 (itP t k).2 v w wr
theorem infoPair : (Tryz.prog.info? 50).map (fun i => (i.zero, i.size, i.bytes)) = some (some (.agg #[.int .i64 0, .int .i64 0]), 2, 16) := by kernel_rfl
set_option maxRecDepth 8000 in
set_option maxHeartbeats 3200000 in
theorem pread_any (g : Nat) (t : St) (n : Int) (w : World) (hn : Names w) (h : IsRdr w g t) (ho : Ok t) :
    Calls Tryz.prog 11 #[.pointer (some ⟨g, 0, none⟩), .int .i64 n] w (KPost g (rdP t n.toNat) (rdPL t n.toNat) w) := by
  obtain ⟨i0, hi, hz0, hz1, hz2⟩ := info_parts infoPair
  have HN := Lib.hid hn
  have HR := Lib.hid h
  have HGL : Hid (g < w.heap.size) := h.lt
  have HEN := Lib.hid (enter_any g t 4 w h)
  have ho2 : Ok (secS t 4) := ho
  have HP : Hid (rdP t n.toNat = (itP (secS t 4) n.toNat).1) := rfl
  have HL : Hid (rdPL t n.toNat = (itP (secS t 4) n.toNat).2) := rfl
  obtain ⟨T, hT⟩ : ∃ x, secS t 4 = x := ⟨_, rfl⟩
  rw [hT] at HEN HP HL ho2
  have HOK := Lib.hid (fun i => ok_it ho2 i)
  have HPL := Lib.hid (it_place T)
  rw [HP.out, HL.out]
  obtain ⟨N, hN⟩ : ∃ N, n.toNat = N := ⟨_, rfl⟩
  have HNN := Lib.hid hN
  rw [hN]
  clear hT HP HL ho2 hn h ho hN
  go_enter Tryz.func11, Tryz.ntmps11
  go_wp2_with fail
  refine HEN.out.mono ?_
  rintro e w1 ⟨rfl, hr1, hj1⟩
  have HR1 := Lib.hid hr1
  have HJ1 := Lib.hid hj1
  have HGL1 : Hid (g < w1.heap.size) := hr1.lt
  have hrc : RQ g (itP T 0).1 (itP T 0).2 (.slice none 0 0) w1 w1 := ⟨hr1, World.ownsRow_nil _ _ _ _, Just.refl _ _, hr1.lt⟩
  have HRC := Lib.hid hrc
  clear hr1 hj1 HEN hrc
  go_wp2
  go_loopw [6, 7] (fun v i wr => KRel g T N w1 v i wr) (fun _ i _ => N - (intOf i).toNat)
  case atStart => exact ⟨0, Nat.zero_le _, rfl, HRC.out⟩
  case round =>
    obtain ⟨k, hk, rfl, hf⟩ := hrel
    have HF := Lib.hid hf
    clear hf HRC
    by_cases hlt : k < N
    · have hkn : (k : Int) < n := by have := HNN.out; omega
      by_cases hk0 : (itP T k).1.k = 0
      · have HE := Lib.hid (err_ok g _ _ HF.out.rd hk0)
        have HNX : Hid (itP T (k + 1) = (pS (itP T k).1 (itP T k).2, (itP T k).2 ++ [pV (itP T k).1])) := by show _ = _; rw [itP, if_pos hk0]
        have HLE : Hid ((itP T k).2.length = k ∧ k ≤ 1099511627776) := by
          refine ⟨it_len_ok T k hk0, ?_⟩
          have h1 := HPL.out k hk0
          have h2 := HOK.out k
          have h3 := h2.1
          have h4 := h2.2
          omega
        have HOT := Lib.hid (HOK.out k)
        obtain ⟨tk, htk⟩ : ∃ x, (itP T k).1 = x := ⟨_, rfl⟩
        obtain ⟨lk, hlk⟩ : ∃ x, (itP T k).2 = x := ⟨_, rfl⟩
        rw [htk, hlk] at HF HNX
        rw [hlk] at HLE
        rw [htk] at HOT
        have HNK := Lib.hid (fun W (j : Just g w1 W) => Rdr.Names.just (Rdr.Names.just HN.out HR.out HJ1.out) HR1.out j)
        have HO1 := Lib.hid (ok_num HOT.out 1)
        have HFS : Hid (pS tk lk = needS (riseB lk (pV tk)) (pS2 tk) 9 tk.p) := rfl
        have HFV : Hid (pV tk = ⟨numV tk 1, numV (numS tk 1) 1⟩) := rfl
        rw [HFV.out] at HNX HFS
        have HU1 : Hid (∀ W, Names W → IsRdr W g tk → Calls Tryz.prog 25 #[.pointer (some ⟨g, 0, none⟩)] W (IPost .i64 g (numS tk 1) (numV tk 1) W)) := fun W hn hr => u8_any g tk W hn hr HOT.out
        have HU2 : Hid (∀ W, Names W → IsRdr W g (numS tk 1) → Calls Tryz.prog 25 #[.pointer (some ⟨g, 0, none⟩)] W (IPost .i64 g (pS2 tk) (numV (numS tk 1) 1) W)) := fun W hn hr => u8_any g (numS tk 1) W hn hr HO1.out
        have HPL1 := Lib.hid (place_any g tk wr HF.out.rd)
        obtain ⟨t1, ht1⟩ : ∃ x, numS tk 1 = x := ⟨_, rfl⟩
        obtain ⟨t2, ht2⟩ : ∃ x, pS2 tk = x := ⟨_, rfl⟩
        obtain ⟨v1, hv1⟩ : ∃ x, numV tk 1 = x := ⟨_, rfl⟩
        rw [ht1] at HU1 HU2 HNX HFS
        obtain ⟨v2, hv2⟩ : ∃ x, numV t1 1 = x := ⟨_, rfl⟩
        rw [ht2] at HU2 HFS
        rw [hv1, hv2] at HNX HFS
        rw [hv1] at HU1
        rw [hv2] at HU2
        obtain ⟨t5, ht5⟩ : ∃ x, pS tk lk = x := ⟨_, rfl⟩
        rw [ht5] at HNX
        obtain ⟨P0, hP0⟩ : ∃ x, tk.p = x := ⟨_, rfl⟩
        have HFS5 : Hid (needS (riseB lk ⟨v1, v2⟩) t2 9 P0 = t5) := by
          show _ = _
          have h := HFS.out
          rw [ht5, hP0] at h
          exact h.symm
        rw [hP0] at HPL1
        have HNE5 := Lib.hid (fun W hn hr => need_any g (riseB lk ⟨v1, v2⟩) t2 9 P0 W hn (by omega) hr)
        rw [HFS5.out] at HNE5
        have HRS : Hid (∀ (W : World) (A : Option Addr) (c : Nat), PairsAt W A lk → Calls Tryz.prog 27 #[.slice A lk.length c, .agg (pairC ⟨v1, v2⟩)] W fun e w' => e = .returned (.bool (riseB lk ⟨v1, v2⟩)) ∧ Below W.heap.size W w') := fun W A c h => rises_any A c lk ⟨v1, v2⟩ W h (by have := HLE.out; omega)
        obtain ⟨bl, hbl⟩ : ∃ b, riseB lk ⟨v1, v2⟩ = b := ⟨_, rfl⟩
        rw [hbl] at HNE5 HRS
        obtain ⟨m, hm⟩ : ∃ m, lk.length = m := ⟨_, rfl⟩
        have HM := Lib.hid hm
        rw [hm] at HRS
        obtain ⟨A, c, hV, _⟩ := own_at HF.out.own
        rw [hm] at hV
        subst hV
        unfold pairC at HRS
        dsimp only at HRS
        clear hk0 htk hlk HFS HFV HO1 HOT ht1 ht2 hv1 hv2 ht5 hP0 hbl HFS5 hm
        go_wp2_with (first
          | (go_at_call 24; refine HE.out.mono ?_; rintro e w' ⟨rfl, rfl⟩)
          | (go_at_call 15; refine HPL1.out.mono ?_; rintro e w' ⟨rfl, rfl⟩))
        refine (HU1.out _ (HNK.out _ HF.out.just) HF.out.rd).mono ?_
        rintro e w3 ⟨rfl, hr3, hj3⟩
        have HF3 := Lib.hid (HF.out.rdr hr3 hj3)
        clear hr3 hj3 HE HPL1
        go_wp2_with fail
        refine (HU2.out _ (HNK.out _ HF3.out.just) HF3.out.rd).mono ?_
        rintro e w4 ⟨rfl, hr4, hj4⟩
        have HF4 := Lib.hid (HF3.out.rdr hr4 hj4)
        have HF5 := Lib.hid (HF4.out.keep ((Below.refl _ _).alloc (Nat.le_refl _) (.cells #[.int .i64 v1, .int .i64 v2] 50)))
        have HC5 := Lib.hid (heap_alloc_new w4 (.cells #[.int .i64 v1, .int .i64 v2] 50))
        clear hr4 hj4 HF3
        go_wp2_with fail
        refine (HRS.out _ _ _ (pairs_at HF5.out.own).2).mono ?_
        rintro e w6 ⟨rfl, hb6⟩
        have HF6 := Lib.hid (HF5.out.keep hb6)
        have HC6 := Lib.hid ((hb6.block _ (lt_of_block HC5.out)).trans HC5.out)
        have HCG : Hid (w4.heap.size ≠ g) := by have := HF4.out.just.size; have := HGL1.out; show _ ≠ _; omega
        clear hb6
        go_wp2_with fail
        refine (HNE5.out _ (HNK.out _ HF6.out.just) HF6.out.rd).mono ?_
        rintro e w10 ⟨rfl, hr10, hj10⟩
        have HF10 := Lib.hid (HF6.out.rdr hr10 hj10)
        have hc10 := (hj10.block _ (lt_of_block HC6.out) HCG.out).trans HC6.out
        have g0 := cell_of_row w10 _ 0 _ _ _ hc10
        have g1 := cell_of_row w10 _ 1 _ _ _ hc10
        simp only [List.getElem?_toArray, List.getElem?_cons_zero, List.getElem?_cons_succ] at g0 g1
        have HRX := Lib.hid (HF10.out.keep ((Below.refl _ _).alloc (Nat.le_refl _) (.cells #[.int .i64 v1, .int .i64 v2] 50)))
        clear hr10 hj10 hc10 HF6 HC6 HC5 HF5
        go_wp2_with (at_builtin; refine wpList_append_own _ rfl _ _ 23 rfl w1.heap.size 50 i0 (.agg #[.int .i64 0, .int .i64 0]) 2 16 Tryz.underlying23 hi hz0 hz1 hz2 rfl (by decide) _ lk.length _ rfl HRX.out.own ⟨w10.heap.size, 0, none⟩ 1 1 [.int .i64 v1, .int .i64 v2] rfl rfl ?c1 ?c2 ?c3 ?c4 ?c5 ?_)
        case c1 =>
          intro j u hj
          have hrow := heap_alloc_new w10 (.cells #[.int .i64 v1, .int .i64 v2] 50)
          have e : (Addr.mk w10.heap.size 0 none).add j = ⟨w10.heap.size, j, none⟩ := by cases j <;> simp [Addr.add]
          rw [e, cell_of_row _ _ _ _ _ _ hrow, ← hj]
          simp
        case c2 => intro u hu; simp at hu; rcases hu with rfl | rfl <;> rfl
        case c3 => have := HLE.out; unfold maxLen; omega
        case c4 => have := HLE.out; omega
        case c5 => have := HRX.out.just.size; simp at this ⊢; omega
        intro v' w12 ho12 hg12 _
        have HF12 := Lib.hid (HRX.out.grown (x := ⟨v1, v2⟩) hg12 (lk.length + 1) (by simp) ho12)
        clear ho12 hg12 g0 g1
        have hkb := HLE.out.2
        have hk1 : IntKind.i64.wrap ((k : Int) + 1) = (k : Int) + 1 := IntWalk.i64_in _ (by omega)
        go_wp2
        go_roundw
        case rel => exact ⟨k + 1, by omega, by go_num, by rw [HNX.out]; exact HF12.out⟩
        case measure => simp [intOf]; omega
      · have HB := Lib.hid (err_bad g _ _ HF.out.rd hk0)
        have HE := Lib.hid (err_any g _ _ HF.out.rd)
        have HST := Lib.hid (it_stay T k hk0 (N - k))
        rw [show k + (N - k) = N by omega] at HST
        have HK := Lib.hid hk0
        have HJ := Lib.hid (HJ1.out.trans HF.out.just)
        clear hk0
        go_wp2_with fail
        refine HB.out.mono ?_
        rintro e w' ⟨u, y, rfl, rfl⟩
        go_wp2_with fail
        refine HE.out.mono ?_
        rintro e w' ⟨x, hw, rfl, rfl⟩
        obtain ⟨u, y, rfl⟩ : ∃ u y, x = .iface u y := by
          rcases hw with ⟨h1, _⟩ | ⟨_, _, h3⟩
          · exact absurd h1 HK.out
          · exact err_of h3
        have HW := Lib.hid hw
        clear hw
        go_wp2
        go_ret2
        rw [HST.out]
        exact .inl ⟨HK.out, _, rfl, HW.out, HF.out.rd, HJ.out⟩
    · obtain rfl : k = N := by omega
      have hkn : ¬ (k : Int) < n := by have := HNN.out; omega
      have HJ := Lib.hid (HJ1.out.trans HF.out.just)
      by_cases hk0 : (itP T k).1.k = 0
      · have HE := Lib.hid (err_ok g _ _ HF.out.rd hk0)
        have HK := Lib.hid hk0
        clear hk0
        go_wp2_with (first
          | (go_at_call 24; refine HE.out.mono ?_; rintro e w' ⟨rfl, rfl⟩))
        go_ret2
        exact .inr ⟨HK.out, _, rfl, row_base HF.out.own (by have := HJ1.out.size; omega), HF.out.rd, HJ.out⟩
      · have HE := Lib.hid (err_any g _ _ HF.out.rd)
        have HK := Lib.hid hk0
        clear hk0
        go_wp2_with fail
        refine HE.out.mono ?_
        rintro e w' ⟨x, hw, rfl, rfl⟩
        obtain ⟨u, y, rfl⟩ : ∃ u y, x = .iface u y := by
          rcases hw with ⟨h1, _⟩ | ⟨_, _, h3⟩
          · exact absurd h1 HK.out
          · exact err_of h3
        have HW := Lib.hid hw
        clear hw
        go_wp2
        go_ret2
        exact .inl ⟨HK.out, _, rfl, HW.out, HF.out.rd, HJ.out⟩
end Go.Proofs.YtplllmfbpliciaaGreatDoor.Pai
