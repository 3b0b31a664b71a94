/- Pairs: their order, as the program tells it; what may be an id, and stand behind others. No condition. What is wrong first with pairs, as the program tells it. Condition: the variables hold what the program lays there; at most 1,000 pairs. What package pairs' Put lays behind bytes. Condition: the variables hold what the program lays there; at most 1,000 pairs, at most 2 to the power 30 bytes come in. What the document says of pairs: their order, what is wrong with them, their bytes, and whether two rows are one. Condition: at most 1,000 pairs. What the document says of pairs' bytes. Condition: at most 1,000 pairs. What package pairs' Read reads. Condition: the variables hold what the program lays there; the reader stands within a text of at most 2 to the power 40 bytes. -/
import Derived.Test.YtnngldkpkhabeaaMg10
import Derived.Test.YtnngldkpkhabeaaMg05
import Derived.Deep.RegionHeld3
import Derived.BigQuiet
import Derived.BigRegion
import Derived.Test.YtnngldkpkhabeaaMg11
import Derived.Test.YtnngldkpkhabeaaMg12
namespace Go.Proofs.Ytnngldkpkhabeaa.Pai

open Go.RowKit Go.PlainAid Go.Proofs.Ytnngldkpkhabeaa.Oct Go.Proofs.Ytnngldkpkhabeaa.Flt Go.Proofs.Ytnngldkpkhabeaa.Rdr Go.Proofs.Ytnngldkpkhabeaa.Args

open Go.Proofs.Ytnngldkpkhabeaa.Act (idB I64)

set_option linter.unusedVariables false

set_option linter.unusedSimpArgs false

theorem or_any (x y : Int) (g : Nat) (w : World) (h : w.heap[g]? = some (.cells #[.int .i64 x, .int .i64 y] 3 (0, 0))) :
    Calls Try.prog 52 #[.slice (some ⟨g, 0, none⟩) 2 2] w fun e w' => e = .returned (.int .i64 (if x = 0 then y else x)) ∧ w = w' := by
  have hc0 : w.cell? ⟨g, 0, none⟩ = some (.int .i64 x) := by rw [cell_of_row w _ _ _ _ _ h]; rfl
  have hc1 : w.cell? ⟨g, 1, none⟩ = some (.int .i64 y) := by rw [cell_of_row w _ _ _ _ _ h]; rfl
  clear h
  by_cases hx : x = 0
  · subst hx
    rw [if_pos rfl]
    by_cases hy : y = 0
    · subst hy
      go_enter Try.func52, Try.ntmps52
      go_wp2
      go_loop [8] (fun i => ∃ k : Nat, k ≤ 2 ∧ i = .int .i64 k) (fun i => 2 - (intOf i).toNat)
      case atStart => exact ⟨0, by omega, rfl⟩
      case round =>
        obtain ⟨k, hk, rfl⟩ := hrel
        rcases (show k = 0 ∨ k = 1 ∨ k = 2 by omega) with rfl | rfl | rfl
        · clear hk
          go_wp2
          go_round
          case rel => exact ⟨1, by omega, rfl⟩
          case measure => simp [intOf]
        · clear hk
          go_wp2
          go_round
          case rel => exact ⟨2, by omega, rfl⟩
          case measure => simp [intOf]
        · clear hk
          go_wp2
          go_ret
          exact ⟨rfl, rfl⟩
    · have t1 : (y != 0) = true := by simp; exact hy
      clear hy
      go_enter Try.func52, Try.ntmps52
      go_wp2
      go_loop [8] (fun i => ∃ k : Nat, k ≤ 1 ∧ i = .int .i64 k) (fun i => 2 - (intOf i).toNat)
      case atStart => exact ⟨0, by omega, rfl⟩
      case round =>
        obtain ⟨k, hk, rfl⟩ := hrel
        rcases (show k = 0 ∨ k = 1 by omega) with rfl | rfl
        · clear hk
          go_wp2
          go_round
          case rel => exact ⟨1, by omega, rfl⟩
          case measure => simp [intOf]
        · clear hk
          go_wp2
          go_ret
          exact ⟨rfl, rfl⟩
  · rw [if_neg hx]
    have t1 : (x != 0) = true := by simp; exact hx
    clear hx
    go_enter Try.func52, Try.ntmps52
    go_wp2
    go_loop [8] (fun i => i = .int .i64 0) (fun i => 2 - (intOf i).toNat)
    case atStart => rfl
    case round =>
      obtain rfl := hrel
      go_wp2
      go_ret
      exact ⟨rfl, rfl⟩

def cmpP (x y : P2) : Int := if Lib.compareInt x.f y.f = 0 then Lib.compareInt x.t y.t else Lib.compareInt x.f y.f
theorem cmp_less (x y : P2) : decide (cmpP x y < 0) = lessB x y := by
  unfold cmpP Lib.compareInt lessB
  rw [Bool.eq_iff_iff]
  simp only [decide_eq_true_eq, Bool.or_eq_true, Bool.and_eq_true, beq_iff_eq]
  split <;> (repeat' split at *) <;> omega
set_option maxRecDepth 4000 in
theorem compare_any (x y : P2) (w : World) :
    Calls Try.prog 32 #[.agg (pairC x), .agg (pairC y)] w fun e w' => e = .returned (.int .i64 (cmpP x y)) ∧ Below w.heap.size w w' := by
  unfold cmpP pairC
  have H1 := Lib.hid (fun w => Try.cmp_Compare_int x.f y.f w)
  have H2 := Lib.hid (fun w => Try.cmp_Compare_int x.t y.t w)
  obtain ⟨a, ha⟩ : ∃ a, Lib.compareInt x.f y.f = a := ⟨_, rfl⟩
  obtain ⟨b, hb⟩ : ∃ b, Lib.compareInt x.t y.t = b := ⟨_, rfl⟩
  rw [ha] at H1 ⊢
  rw [hb] at H2 ⊢
  clear ha hb
  have HB := Lib.hid (fun o1 o2 => two_below w o1 o2)
  have HO : Hid (∀ (W : World) (g : Nat), W.heap[g]? = some (.cells #[.int .i64 a, .int .i64 b] 3 (0, 0)) → Calls Try.prog 52 #[.slice (some ⟨g, 0, none⟩) 2 2] W fun e w' => e = .returned (.int .i64 (if a = 0 then b else a)) ∧ W = w') := fun W g h => or_any a b g W h
  obtain ⟨z, hz⟩ : ∃ z, (if a = 0 then b else a) = z := ⟨_, rfl⟩
  rw [hz] at HO ⊢
  clear hz
  go_enter Try.func32, Try.ntmps32
  go_wp2_with fail
  generalize hW : ((w.alloc (.cells #[.int .i64 x.f, .int .i64 x.t] 24)).alloc (.cells #[.int .i64 y.f, .int .i64 y.t] 24)) = W
  have hra : W.heap[w.heap.size]? = some (.cells #[.int .i64 x.f, .int .i64 x.t] 24 (0, 0)) := by rw [← hW]; exact (heap_alloc_old _ _ (by simp)).trans (heap_alloc_new _ _)
  have hrb : W.heap[w.heap.size + 1]? = some (.cells #[.int .i64 y.f, .int .i64 y.t] 24 (0, 0)) := by rw [← hW]; exact Hdr.second_new w _ _
  have HBW : Hid (Below w.heap.size w W) := by show Below _ _ _; rw [← hW]; exact HB.out _ _
  have HCE : Hid (W.cell? ⟨w.heap.size, 0, none⟩ = some (.int .i64 x.f) ∧ W.cell? ⟨w.heap.size, 1, none⟩ = some (.int .i64 x.t) ∧ W.cell? ⟨w.heap.size + 1, 0, none⟩ = some (.int .i64 y.f) ∧ W.cell? ⟨w.heap.size + 1, 1, none⟩ = some (.int .i64 y.t)) := by
    refine ⟨?_, ?_, ?_, ?_⟩
    all_goals first
      | (rw [cell_of_row W _ _ _ _ _ hra]; rfl)
      | (rw [cell_of_row W _ _ _ _ _ hrb]; rfl)
  obtain ⟨q0, q1, q2, q3⟩ := HCE.out
  clear hW hra hrb
  go_region_held3 (fun wx => wx.cell? ⟨w.heap.size, 0, none⟩ = some (.int .i64 x.f) ∧ wx.cell? ⟨w.heap.size, 1, none⟩ = some (.int .i64 x.t) ∧ wx.cell? ⟨w.heap.size + 1, 0, none⟩ = some (.int .i64 y.f) ∧ wx.cell? ⟨w.heap.size + 1, 1, none⟩ = some (.int .i64 y.t)) (first | (go_keep; done) | exact HCE.out | (refine ⟨?_, ?_, ?_, ?_⟩ <;> assumption))
    (first
      | (go_at_call 53; (with_reducible first | (refine (H1.out _).mono ?_) | (refine (H2.out _).mono ?_)); rintro e w' ⟨rfl, rfl⟩)
      | (go_at_call 52; refine (HO.out ((W.alloc (.cells #[.int .i64 a, .int .i64 b] 3)).drew) W.heap.size (by exact heap_alloc_new W _)).mono ?_; rintro e w' ⟨rfl, rfl⟩))
  go_wp2
  go_ret
  exact ⟨rfl, HBW.out.trans ((Below.drew ((Below.refl _ _).alloc (Nat.le_refl _) (.cells #[.int .i64 a, .int .i64 b] 3))).mono HBW.out.size)⟩
theorem less_any (x y : P2) (w : World) :
    Calls Try.prog 18 #[.agg (pairC x), .agg (pairC y)] w fun e w' => e = .returned (.bool (lessB x y)) ∧ Below w.heap.size w w' := by
  have H1 := Lib.hid (fun w => compare_any x y w)
  have HL := Lib.hid (cmp_less x y)
  obtain ⟨c, hc⟩ : ∃ c, cmpP x y = c := ⟨_, rfl⟩
  rw [hc] at H1 HL
  obtain ⟨b, hb⟩ : ∃ b, lessB x y = b := ⟨_, rfl⟩
  rw [hb] at HL ⊢
  have HB := Lib.hid (fun o1 o2 => two_below w o1 o2)
  have ht := HL.out
  unfold pairC at H1 ⊢
  clear hc hb
  go_enter Try.func18, Try.ntmps18
  go_wp2_with (go_at_call 32; refine (H1.out _).mono ?_; rintro e w' ⟨rfl, hb2⟩; have HB2 := Lib.hid ((HB.out _ _).trans (hb2.mono (HB.out _ _).size)); clear hb2)
  go_ret
  exact ⟨rfl, HB2.out⟩
end Go.Proofs.Ytnngldkpkhabeaa.Pai

namespace Go.Proofs.Ytnngldkpkhabeaa.Pai

open Go.RowKit Go.PlainAid Go.Proofs.Ytnngldkpkhabeaa.Oct Go.Proofs.Ytnngldkpkhabeaa.Flt Go.Proofs.Ytnngldkpkhabeaa.Rdr Go.Proofs.Ytnngldkpkhabeaa.Args

open Go.Proofs.Ytnngldkpkhabeaa.Act (idB I64)

open Go.Proofs.Ytnngldkpkhabeaa.Prt (fb fb_step fb_end take_snoc)

set_option linter.unusedVariables false

set_option linter.unusedSimpArgs false

def WRel (l : List P2) (w : World) (i : Value) (wr : World) : Prop := ∃ k : Nat, k ≤ l.length ∧ i = .int .i64 k ∧ badP l = fb bad1 (l.take k) (l.drop k) ∧ Below w.heap.size w wr
end Go.Proofs.Ytnngldkpkhabeaa.Pai

namespace Go.Proofs.Ytnngldkpkhabeaa.Pai

open Go.RowKit Go.PlainAid Go.Proofs.Ytnngldkpkhabeaa.Oct Go.Proofs.Ytnngldkpkhabeaa.Flt Go.Proofs.Ytnngldkpkhabeaa.Rdr Go.Proofs.Ytnngldkpkhabeaa.Args

open Go.Proofs.Ytnngldkpkhabeaa.Prt (fb fb_step fb_end take_snoc QPost)

open Go.Proofs.Ytnngldkpkhabeaa.Hdr (own_bytes owns_base)

open Go.Proofs.Ytnngldkpkhabeaa.Byt (bytes_kept own_open)

set_option linter.unusedVariables false

set_option linter.unusedSimpArgs false

def PYes (l : List P2) (w : World) (xs : List Int) (e : Ending) (w' : World) : Prop :=
  ∃ V n, e = .returned (.tuple #[V, .nilIface]) ∧ w'.ownsRow w.heap.size 5 1 V n ((xs ++ pairB l).map (Value.int .u8)) ∧ Below w.heap.size w w'
def GRel (l : List P2) (len : Nat) (xs : List Int) (w : World) (v i : Value) (wr : World) : Prop :=
  ∃ k : Nat, k ≤ l.length ∧ i = .int .i64 k ∧ wr.ownsRow w.heap.size 5 1 v (len + k * 2) ((xs ++ pairB (l.take k)).map (Value.int .u8)) ∧ Below w.heap.size w wr
end Go.Proofs.Ytnngldkpkhabeaa.Pai

namespace Go.Proofs.Ytnngldkpkhabeaa.Pai

open Go.RowKit Go.PlainAid Go.Proofs.Ytnngldkpkhabeaa.Oct Go.Proofs.Ytnngldkpkhabeaa.Flt Go.Proofs.Ytnngldkpkhabeaa.Rdr Go.Proofs.Ytnngldkpkhabeaa.Args

open Go.Proofs.Ytnngldkpkhabeaa.Act (idB I64)

open Go.Proofs.Ytnngldkpkhabeaa.Prt (fb fb_step fb_end take_snoc)

open Go.Proofs.Ytnngldkpkhabeaa.Hdr (below_set2)

set_option linter.unusedVariables false

set_option linter.unusedSimpArgs false

theorem lessB_open (x y : P2) : lessB x y = (decide (x.f < y.f) || ((x.f == y.f) && decide (x.t < y.t))) := rfl
set_option maxRecDepth 4000 in
theorem less10_any (x y : P2) (w : World) :
    Calls Try.prog 19 #[.agg (pairC x), .agg (pairC y)] w fun e w' => e = .returned (.bool (lessB x y)) ∧ Below w.heap.size w w' := by
  have HB := Lib.hid (fun o1 o2 => two_below w o1 o2)
  rw [lessB_open]
  unfold pairC
  cases h1 : decide (x.f < y.f)
  · cases h2 : (x.f == y.f)
    · go_enter Try.func19, Try.ntmps19
      go_wp2
      go_ret
      exact ⟨rfl, HB.out _ _⟩
    · cases h3 : decide (x.t < y.t)
      all_goals
        go_enter Try.func19, Try.ntmps19
        go_wp2
        go_ret
        exact ⟨rfl, HB.out _ _⟩
  · go_enter Try.func19, Try.ntmps19
    go_wp2
    go_ret
    exact ⟨rfl, HB.out _ _⟩
theorem PairsAt.drewN {w : World} {A : Option Addr} {l : List P2} (h : PairsAt w A l) (n : Nat) : PairsAt (w.drewN n) A l := h
theorem eq_pair (a b : Int) (w : World) : (Op.equalIn 10000 24 (.agg #[.int .i64 a, .int .i64 b]) (.agg #[.int .i64 a, .int .i64 b])).run Try.prog w = .ok true w := by
  have hS : Try.prog.underlying 24 = some (.struct (Try.prog.fieldsOf 24)) := by kernel_rfl
  rw [show (10000 : Nat) = 9999 + 1 from rfl, run_equalIn_agg w 9999 24 _ _ hS (by kernel_rfl)]
  simp only [Program.fieldsOf, Try.underlying24]
  go_simp
set_option maxRecDepth 4000 in
set_option maxHeartbeats 1600000 in
theorem same10_yes (A B : Option Addr) (ca cb : Nat) (l : List P2) (w : World) (h1 : PairsAt w A l) (h2 : PairsAt w B l) (hl : l.length ≤ maxLen) :
    Calls Try.prog 9 #[.slice A l.length ca, .slice B l.length cb] w fun e w' => e = .returned (.bool true) ∧ ∃ n, w' = w.drewN n := by
  unfold maxLen at hl
  obtain ⟨a, ha⟩ : ∃ a, l.length = a := ⟨_, rfl⟩
  have HA := Lib.hid ha
  rw [ha] at hl
  rw [ha]
  have H1 := Lib.hid h1
  have H2 := Lib.hid h2
  clear h1 h2 ha
  have tne : ((a : Int) != (a : Int)) = false := by simp
  go_enter Try.func9, Try.ntmps9
  go_wp2
  go_loopw [5] (fun i wr => ∃ k n : Nat, k ≤ a ∧ i = .int .i64 k ∧ wr = w.drewN n) (fun i _ => a - (intOf i).toNat)
  case atStart => exact ⟨0, 0, Nat.zero_le _, rfl, rfl⟩
  case round =>
    obtain ⟨k, n, hk, rfl, hw⟩ := hrel
    have HW := Lib.hid hw
    by_cases hlt : k < a
    · obtain ⟨x, hx⟩ : ∃ x, l[k]? = some x := ⟨_, List.getElem?_eq_getElem (by rw [HA.out]; exact hlt)⟩
      obtain ⟨ax, rfl, c1, c2⟩ := H1.out k x hx
      obtain ⟨ay, rfl, c4, c5⟩ := H2.out k x hx
      have c1' : wr.cell? (ax.add (k * 2)) = some (.int .i64 x.f) := by rw [hw]; exact c1
      have c2' : wr.cell? ⟨(ax.add (k * 2)).block, (ax.add (k * 2)).off + 1, none⟩ = some (.int .i64 x.t) := by rw [hw]; exact c2
      have c4' : wr.cell? (ay.add (k * 2)) = some (.int .i64 x.f) := by rw [hw]; exact c4
      have c5' : wr.cell? ⟨(ay.add (k * 2)).block, (ay.add (k * 2)).off + 1, none⟩ = some (.int .i64 x.t) := by rw [hw]; exact c5
      have heq : ∀ wx : World, (Op.equalIn 10000 24 (.agg #[.int .i64 x.f, .int .i64 x.t]) (.agg #[.int .i64 x.f, .int .i64 x.t])).run Try.prog wx = .ok true wx := fun wx => eq_pair _ _ wx
      have hki : (0 : Int) ≤ k := by omega
      have hka : (k : Int) < a := by omega
      clear hw hx c1 c2 c4 c5 H1 H2
      go_wp2
      go_quiet (fail)
      go_wp2
      go_roundw
      case rel => exact ⟨k + 1, n + nq, by omega, by go_num, by rw [HW.out, World.drewN_drewN]⟩
      case measure => simp [intOf]; omega
    · obtain rfl : k = a := by omega
      clear hw
      go_wp2
      go_ret
      exact ⟨rfl, n, HW.out⟩
theorem low_1 {n : Int} (h0 : 0 ≤ n) (h1 : n ≤ 255) : low n.toNat 1 = [n] := by
  simp [low]; omega
theorem idB_lo {n : Int} (h : decide (n < 0) = true) : idB n = false := by have := of_decide_eq_true h; unfold idB; simp; omega
theorem idB_hi {n : Int} (h : decide (255 < n) = true) : idB n = false := by have := of_decide_eq_true h; unfold idB; simp; omega
theorem idB_in {n : Int} (h : decide (n < 0) = false) (h2 : decide (255 < n) = false) : idB n = true := by have := of_decide_eq_false h; have := of_decide_eq_false h2; unfold idB; simp; omega
end Go.Proofs.Ytnngldkpkhabeaa.Pai

namespace Go.Proofs.Ytnngldkpkhabeaa.Pai

open Go.RowKit Go.PlainAid Go.Proofs.Ytnngldkpkhabeaa.Oct Go.Proofs.Ytnngldkpkhabeaa.Flt Go.Proofs.Ytnngldkpkhabeaa.Rdr Go.Proofs.Ytnngldkpkhabeaa.Args

open Go.Proofs.Ytnngldkpkhabeaa.Act (idB I64)

open Go.Proofs.Ytnngldkpkhabeaa.Prt (fb fb_step fb_end take_snoc)

open Go.Proofs.Ytnngldkpkhabeaa.Hdr (below_set2)

set_option linter.unusedVariables false

set_option linter.unusedSimpArgs false

def TRel (l : List P2) (w : World) (v i : Value) (wr : World) : Prop := ∃ k : Nat, k ≤ l.length ∧ i = .int .i64 k ∧ v = .string (strOfNums (pairB (l.take k))) ∧ Below w.heap.size w wr
end Go.Proofs.Ytnngldkpkhabeaa.Pai

namespace Go.Proofs.Ytnngldkpkhabeaa.Pai

open Go.RowKit Go.PlainAid Go.Proofs.Ytnngldkpkhabeaa.Oct Go.Proofs.Ytnngldkpkhabeaa.Flt Go.Proofs.Ytnngldkpkhabeaa.Rdr Go.Proofs.Ytnngldkpkhabeaa.Args

open Go.Proofs.Ytnngldkpkhabeaa.Act (row_beside row_base just_trans2)

set_option linter.unusedVariables false

set_option linter.unusedSimpArgs false

theorem num_k0 {t : St} {n : Nat} (h : (numS t n).k = 0) : t.k = 0 ∧ (numS t n).p = t.p + n ∧ getB t.s t.p n = true := by
  unfold numS at h ⊢
  split at h
  · rename_i h0
    rw [if_pos h0]
    split at h
    · rename_i h1
      rw [if_pos h1]
      exact ⟨h0, rfl, h1⟩
    · rw [fail_k h0] at h; omega
  · rename_i h0
    exact absurd h h0
theorem need_k0 {t : St} {b : Bool} {k a : Int} (h1 : 1 ≤ k) (h2 : k ≤ 18) (h : (needS b t k a).k = 0) : needS b t k a = t ∧ b = true := by
  unfold needS at h ⊢
  split at h
  · rename_i hb
    rw [if_pos hb]
    exact ⟨rfl, hb⟩
  · exfalso
    by_cases h0 : t.k = 0
    · have e : k = ((k.toNat : Nat) : Int) := by omega
      rw [e, fail_yes h0 (by omega) (by omega)] at h
      dsimp only at h
      omega
    · rw [fail_had h0] at h
      exact h0 h
theorem pS_place {t : St} {l : List P2} (h : (pS t l).k = 0) : (pS t l).p = t.p + 2 := by
  unfold pS at h ⊢
  obtain ⟨e1, _⟩ := need_k0 (by omega) (by omega) h
  rw [e1] at h ⊢
  unfold pS2 at h ⊢
  obtain ⟨k2, p2, _⟩ := num_k0 h
  obtain ⟨k1, p1, _⟩ := num_k0 k2
  rw [p2, p1]
theorem it_place (t : St) : ∀ i, (itP t i).1.k = 0 → (itP t i).1.p = t.p + i * 2
  | 0, _ => by simp [itP]
  | i + 1, h => by
    have ih := it_place t i
    rw [itP] at h ⊢
    split at h
    · rename_i h0
      rw [if_pos h0]
      have := pS_place h
      dsimp only at this ⊢
      rw [this, ih h0]; omega
    · rename_i h0
      exact absurd h h0
/-- A row of the call's own reads as pairs. -/
theorem own_pairs {w : World} {B G c : Nat} {l : List P2} (h : w.ownsRow B 24 2 (.slice (some ⟨G, 0, none⟩) l.length c) l.length (flatP l)) : PairsAt w (some ⟨G, 0, none⟩) l := by
  intro i x hx
  have hi : i < l.length := by
    rcases Nat.lt_or_ge i l.length with hh | hh
    · exact hh
    · rw [List.getElem?_eq_none hh] at hx; cases hx
  have e : (Addr.mk G 0 none).add (i * 2) = ⟨G, i * 2, none⟩ := by
    rcases Nat.eq_zero_or_pos (i * 2) with h0 | h0
    · rw [h0]; simp [Addr.add]
    · simp [Addr.add]; omega
  refine ⟨_, rfl, ?_, ?_⟩
  · have := h.cellAt (i * 2 + 0) (by omega)
    rw [flatP_get l i x 0 hx (by omega)] at this
    rw [e]; exact this
  · have := h.cellAt (i * 2 + 1) (by omega)
    rw [flatP_get l i x 1 hx (by omega)] at this
    rw [e]; exact this
theorem own_at {w : World} {B : Nat} {V : Value} {l : List P2} (h : w.ownsRow B 24 2 V l.length (flatP l)) : ∃ A c, V = .slice A l.length c ∧ PairsAt w A l ∧ (A = none → c = 0) ∧ l.length ≤ c := by
  rcases h.2 with ⟨rfl, h0⟩ | ⟨g, c, cur, rfl, h2, h3, h4⟩
  · refine ⟨none, 0, by rw [h0], fun i x hx => ?_, fun _ => rfl, by omega⟩
    have : l = [] := List.eq_nil_of_length_eq_zero h0
    rw [this] at hx; simp at hx
  · exact ⟨_, c, rfl, own_pairs h, (fun e => nomatch e), h4.1⟩
theorem pairs_at {w : World} {B n c : Nat} {A : Option Addr} {l : List P2} (h : w.ownsRow B 24 2 (.slice A n c) l.length (flatP l)) : n = l.length ∧ PairsAt w A l := by
  obtain ⟨A', c', e, h2, _⟩ := own_at h
  simp only [Value.slice.injEq] at e
  obtain ⟨rfl, rfl, _⟩ := e
  exact ⟨rfl, h2⟩
theorem infoPair : (Try.prog.info? 24).map (fun i => (i.zero, i.size, i.bytes)) = some (some (.agg #[.int .i64 0, .int .i64 0]), 2, 16) := by kernel_rfl
end Go.Proofs.Ytnngldkpkhabeaa.Pai
