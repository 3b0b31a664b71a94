/- Transitions: what is wrong first, as the program tells it, and the document; whether there is a pair. Condition: the variables hold what the program lays there; at most 1,000 pairs, and 2 to the power 40 ids. Transitions: what is wrong first, as the document tells it; whether there is a pair, as both tell it. Condition: at most 1,000 pairs, and 2 to the power 62 ids. Transitions: where pairs lead to from each id, as a map of rows; a copy of such a map. Condition: at most a million pairs. Transitions: where pairs lead to, the program's links. Condition: at most a million pairs. Transitions: a search in which no id was met. Condition: at most a million pairs. Rows of rows of numbers, of the call's own: a row more, a number more in one of them. No condition. Transitions: groups, at the chapter's example: what stands while they are gathered. No condition. Transitions: the groups of the chapter's example. No condition. Transitions: the chapter's example holds, as law 15 asks it; what an error is told as. No condition. -/
import Derived.Test.YtnngldkpkhabeaaMg25
import Derived.Test.YtnngldkpkhabeaaMg26
import Derived.Deep.CutRange
import Derived.Laws.OwnMore
import Derived.Test.YtnngldkpkhabeaaMg02
namespace Go.Proofs.Ytnngldkpkhabeaa.Rel

open Go.RowKit Go.PlainAid Go.Proofs.Ytnngldkpkhabeaa.Oct Go.Proofs.Ytnngldkpkhabeaa.Flt Go.Proofs.Ytnngldkpkhabeaa.Rdr Go.Proofs.Ytnngldkpkhabeaa.Args Go.Proofs.Ytnngldkpkhabeaa.Win

open Go.Proofs.Ytnngldkpkhabeaa.Pai (P2 pairC lessB riseB PairsAt less_any less10_any rise_take pairs_of kept2 kept4)

open Go.Proofs.Ytnngldkpkhabeaa.Act (I64)

open Go.Proofs.Ytnngldkpkhabeaa.Prt (fb fb_step fb_end take_snoc)

set_option linter.unusedVariables false

set_option linter.unusedSimpArgs false

def bad1R (ids : List Int) (pre : List P2) (x : P2) : Nat := if memB ids x.f = false then 10 else if memB ids x.t = false then 10 else if x.f = x.t then 15 else if riseB pre x = false then 9 else 0
def badR (ids : List Int) (l : List P2) : Nat × Int := fb (bad1R ids) [] l
theorem bad1R_le (ids : List Int) (pre : List P2) (x : P2) : bad1R ids pre x ≤ 18 := by
  unfold bad1R
  split
  · omega
  · split
    · omega
    · split
      · omega
      · split <;> omega
def RKRel (ids : List Int) (l : List P2) (q : Nat × Int) (V : Value) (w : World) (i : Value) (wr : World) : Prop :=
  ∃ k : Nat, k ≤ l.length ∧ i = .int .i64 (k : Int) ∧ q = fb (bad1R ids) (l.take k) (l.drop k) ∧ OwnsZ w.heap.size (risZ ids) V wr ∧ Below w.heap.size w wr
theorem ownsZ_kept {B : Nat} {zs : List Int} {V : Value} {w w' : World} (h : OwnsZ B zs V w) (b : Below w.heap.size w w') : OwnsZ B zs V w' := ⟨owns_kept h.1 b, h.2⟩
end Go.Proofs.Ytnngldkpkhabeaa.Rel

namespace Go.Proofs.Ytnngldkpkhabeaa.Rel

open Go.RowKit Go.PlainAid Go.Proofs.Ytnngldkpkhabeaa.Oct Go.Proofs.Ytnngldkpkhabeaa.Flt Go.Proofs.Ytnngldkpkhabeaa.Rdr Go.Proofs.Ytnngldkpkhabeaa.Args Go.Proofs.Ytnngldkpkhabeaa.Win

open Go.Proofs.Ytnngldkpkhabeaa.Pai (P2 pairC lessB riseB PairsAt less_any less10_any rise_take pairs_of kept2 kept4)

open Go.Proofs.Ytnngldkpkhabeaa.Act (I64)

open Go.Proofs.Ytnngldkpkhabeaa.Prt (fb fb_step fb_end take_snoc)

set_option linter.unusedVariables false

set_option linter.unusedSimpArgs false

theorem in15_any (n₀ : Nat) (I : Option Addr) (li ci : Nat) (ids : List Int) (v : Int) (w : World) (hI : IntsBelow n₀ w (.slice I li ci) ids) (hl : ids.length ≤ 9223372036854775807) :
    Calls Try.prog 37 #[.slice I li ci, .int .i64 v] w fun e w' => e = .returned (.bool (memB ids v)) ∧ w = w' := by
  have hli : li = ids.length := by
    rcases hI with ⟨e, rfl⟩ | ⟨y, cap, e, _, _⟩
    · cases e; rfl
    · cases e; rfl
  have hc : ∀ j, j < li → ∃ y, I = some y ∧ w.cell? (y.add j) = some (.int .i64 (ids[j]?.getD 0)) := by
    rcases hI with ⟨e, rfl⟩ | ⟨y, cap, e, _, hc⟩
    · cases e; intro j hj; omega
    · cases e; exact fun j hj => ⟨y, rfl, hc j hj⟩
  obtain ⟨r, hr⟩ : ∃ r, memB ids v = r := ⟨_, rfl⟩
  have HR := Lib.hid hr
  have HL := Lib.hid hli
  have HC := Lib.hid hc
  rw [hr]
  rw [← hli] at hl
  clear hI hr hli hc
  go_enter Try.func37, Try.ntmps37
  go_wp2
  go_loop [5] (fun i => ∃ k : Nat, k ≤ li ∧ i = .int .i64 k ∧ memB (ids.take k) v = false) (fun i => li - (intOf i).toNat)
  case atStart => exact ⟨0, Nat.zero_le _, rfl, by simp [memB]⟩
  case round =>
    obtain ⟨k, hk, rfl, hm⟩ := hrel
    have HM := Lib.hid hm
    clear hm
    by_cases hlt : k < li
    · obtain ⟨y, rfl, hcell⟩ := HC.out k hlt
      have hms := mem_snoc ids k (by rw [← HL.out]; exact hlt) v HM.out
      obtain ⟨z, hz⟩ : ∃ z, ids[k]?.getD 0 = z := ⟨_, rfl⟩
      rw [hz] at hcell hms
      have HMS := Lib.hid hms
      have HZ := Lib.hid hz
      clear hms hz
      have hki : (0 : Int) ≤ k := by omega
      have hkb : (k : Int) < li := by omega
      cases hzv : (z == v) with
      | true =>
        have hrt : r = true := by
          rw [← HR.out]
          have h := HMS.out
          rw [hzv] at h
          unfold memB at *
          simp at h ⊢
          exact List.mem_of_mem_take h
        subst hrt
        go_wp2
        go_ret
        exact ⟨rfl, rfl⟩
      | false =>
        go_wp2
        go_round
        case rel => exact ⟨k + 1, by omega, by go_num, by rw [HMS.out, hzv]⟩
        case measure => simp [intOf]; omega
    · obtain rfl : k = li := by omega
      have hrf : r = false := by
        rw [← HR.out]
        have h := HM.out
        rw [HL.out, List.take_length] at h
        exact h
      subst hrf
      go_wp2
      go_ret
      exact ⟨rfl, rfl⟩

def eqP2 (x p : P2) : Bool := (x.f == p.f) && (x.t == p.t)
theorem eqP2_iff (x p : P2) : eqP2 x p = true ↔ x = p := by
  obtain ⟨a, b⟩ := x
  obtain ⟨c, d⟩ := p
  unfold eqP2
  simp
def hasB (l : List P2) (p : P2) : Bool := l.any fun x => eqP2 x p
theorem has_snoc (l : List P2) (k : Nat) (x p : P2) (hx : l[k]? = some x) (h : hasB (l.take k) p = false) : hasB (l.take (k + 1)) p = eqP2 x p := by
  unfold hasB at h ⊢
  rw [List.take_add_one, hx, List.any_append, h]
  simp
theorem has_take (l : List P2) (k : Nat) (p : P2) (h : hasB (l.take k) p = true) : hasB l p = true := by
  unfold hasB at *
  rw [List.any_eq_true] at h ⊢
  obtain ⟨x, hx, he⟩ := h
  exact ⟨x, List.mem_of_mem_take hx, he⟩
theorem eq_pair (a b c d : Int) (w : World) : (Op.equalIn 10000 24 (.agg #[.int .i64 a, .int .i64 b]) (.agg #[.int .i64 c, .int .i64 d])).run Try.prog w = .ok ((a == c) && (b == d)) w := by
  have hS : Try.prog.underlying 24 = some (.struct (Try.prog.fieldsOf 24)) := by kernel_rfl
  rw [show (10000 : Nat) = 9999 + 1 from rfl, run_equalIn_agg w 9999 24 _ _ hS (by kernel_rfl)]
  simp only [Program.fieldsOf, Try.underlying24]
  cases h1 : (a == c) <;> cases h2 : (b == d) <;> simp [go_sem, h1, h2]
def HRel (p : P2) (l : List P2) (b : Nat) (w : World) (i : Value) (wr : World) : Prop :=
  ∃ k : Nat, k ≤ l.length ∧ i = .int .i64 (k : Int) ∧ hasB (l.take k) p = false ∧ wr.heap[b]? = some (.cells #[.int .i64 p.f, .int .i64 p.t] 24 (0, 0)) ∧ Below w.heap.size w wr
set_option maxRecDepth 4000 in
set_option maxHeartbeats 1600000 in
theorem has10_any (A : Option Addr) (cap n : Nat) (l : List P2) (p : P2) (w : World) (h : PairsAt w A l) (hln : l.length = n) (hl : n ≤ 1099511627776) :
    Calls Try.prog 17 #[.slice A n cap, .agg #[.int .i64 p.f, .int .i64 p.t]] w fun e w' => e = .returned (.bool (hasB l p)) ∧ Below w.heap.size w w' := by
  have hb0 : Below w.heap.size w (w.alloc (.cells #[.int .i64 p.f, .int .i64 p.t] 24)) := (Below.refl _ _).alloc (Nat.le_refl _) _
  have HS0 : Hid (HRel p l w.heap.size w (.int .i64 0) (w.alloc (.cells #[.int .i64 p.f, .int .i64 p.t] 24))) := ⟨0, Nat.zero_le _, rfl, rfl, heap_alloc_new _ _, hb0⟩
  have HA := Lib.hid hln
  have H := Lib.hid h
  obtain ⟨r, hr⟩ : ∃ r, hasB l p = r := ⟨_, rfl⟩
  have HR := Lib.hid hr
  rw [hr]
  clear h hln hb0 hr
  go_enter Try.func17, Try.ntmps17
  go_wp2
  go_loopw [5] (fun i wr => HRel p l w.heap.size w i wr) (fun i _ => n - (intOf i).toNat)
  case atStart => exact HS0.out
  case round =>
    obtain ⟨k, hk, rfl, hno, hbx, hb⟩ := hrel
    have HNO := Lib.hid hno
    have HBX := Lib.hid hbx
    have HB := Lib.hid hb
    have hka : k ≤ n := by rw [← HA.out]; exact hk
    clear hk hno hbx hb HS0
    by_cases hlt : k < n
    · obtain ⟨x, hx⟩ : ∃ x, l[k]? = some x := ⟨_, List.getElem?_eq_getElem (by rw [HA.out]; exact hlt)⟩
      obtain ⟨ax, rfl, c1, c2⟩ := (H.out.kept HB.out) k x hx
      have HSN := Lib.hid (has_snoc l k x p hx HNO.out)
      have y0 := cell_of_row _ _ 0 _ _ _ HBX.out
      have y1 := cell_of_row _ _ 1 _ _ _ HBX.out
      simp only [List.getElem?_toArray, List.getElem?_cons_zero, List.getElem?_cons_succ] at y0 y1
      have hki : (0 : Int) ≤ k := by omega
      have hkb : (k : Int) < n := by omega
      have hk1 : IntKind.i64.wrap ((k : Int) + 1) = (k : Int) + 1 := IntWalk.i64_in _ (by omega)
      obtain ⟨q, hq⟩ : ∃ q, eqP2 x p = q := ⟨_, rfl⟩
      have heq : ∀ wx : World, (Op.equalIn 10000 24 (.agg #[.int .i64 x.f, .int .i64 x.t]) (.agg #[.int .i64 p.f, .int .i64 p.t])).run Try.prog wx = .ok q wx := fun wx => by rw [← hq]; exact eq_pair _ _ _ _ wx
      rw [hq] at HSN
      clear hx hq
      cases q with
      | true =>
        have HT : Hid (r = true) := by show _ = _; rw [← HR.out]; exact has_take l (k + 1) p HSN.out
        go_wp2
        go_quiet (fail)
        have HBQ := Lib.hid (below_drewN HB.out nq)
        go_wp2
        go_ret
        exact ⟨by have h := HT.out; subst h; rfl, HBQ.out⟩
      | false =>
        go_wp2
        go_quiet (fail)
        have HBQ := Lib.hid (below_drewN HB.out nq)
        have HXQ : Hid ((wr.drewN nq).heap[w.heap.size]? = some (.cells #[.int .i64 p.f, .int .i64 p.t] 24 (0, 0))) := HBX.out
        go_wp2
        go_roundw
        case rel => exact ⟨k + 1, by rw [HA.out]; omega, by go_num, HSN.out, HXQ.out, HBQ.out⟩
        case measure => simp [intOf]; omega
    · obtain rfl : k = n := by omega
      have HF : Hid (r = false) := by
        show _ = _
        have h := HNO.out
        rw [List.take_of_length_le (by rw [HA.out]; exact Nat.le_refl _), HR.out] at h
        exact h
      go_wp2
      go_ret
      exact ⟨by have h := HF.out; subst h; rfl, HB.out⟩
set_option maxRecDepth 4000 in
set_option maxHeartbeats 1600000 in
theorem pindex_any (A : Option Addr) (cap n : Nat) (l : List P2) (p : P2) (w : World) (h : PairsAt w A l) (hln : l.length = n) (hl : n ≤ 1099511627776) :
    Calls Try.prog 57 #[.slice A n cap, .agg #[.int .i64 p.f, .int .i64 p.t]] w fun e w' => ∃ i : Int, e = .returned (.int .i64 i) ∧ decide (0 ≤ i) = hasB l p ∧ Below w.heap.size w w' := by
  have hb0 : Below w.heap.size w (w.alloc (.cells #[.int .i64 p.f, .int .i64 p.t] 24)) := (Below.refl _ _).alloc (Nat.le_refl _) _
  have HS0 : Hid (HRel p l w.heap.size w (.int .i64 0) (w.alloc (.cells #[.int .i64 p.f, .int .i64 p.t] 24))) := ⟨0, Nat.zero_le _, rfl, rfl, heap_alloc_new _ _, hb0⟩
  have HA := Lib.hid hln
  have H := Lib.hid h
  obtain ⟨r, hr⟩ : ∃ r, hasB l p = r := ⟨_, rfl⟩
  have HR := Lib.hid hr
  rw [hr]
  clear h hln hb0 hr
  go_enter Try.func57, Try.ntmps57
  go_wp2
  go_loopw [8] (fun i wr => HRel p l w.heap.size w i wr) (fun i _ => n - (intOf i).toNat)
  case atStart => exact HS0.out
  case round =>
    obtain ⟨k, hk, rfl, hno, hbx, hb⟩ := hrel
    have HNO := Lib.hid hno
    have HBX := Lib.hid hbx
    have HB := Lib.hid hb
    have hka : k ≤ n := by rw [← HA.out]; exact hk
    clear hk hno hbx hb HS0
    by_cases hlt : k < n
    · obtain ⟨x, hx⟩ : ∃ x, l[k]? = some x := ⟨_, List.getElem?_eq_getElem (by rw [HA.out]; exact hlt)⟩
      obtain ⟨ax, rfl, c1, c2⟩ := (H.out.kept HB.out) k x hx
      have HSN := Lib.hid (has_snoc l k x p hx HNO.out)
      have y0 := cell_of_row _ _ 0 _ _ _ HBX.out
      have y1 := cell_of_row _ _ 1 _ _ _ HBX.out
      simp only [List.getElem?_toArray, List.getElem?_cons_zero, List.getElem?_cons_succ] at y0 y1
      have hki : (0 : Int) ≤ k := by omega
      have hkb : (k : Int) < n := by omega
      have hk1 : IntKind.i64.wrap ((k : Int) + 1) = (k : Int) + 1 := IntWalk.i64_in _ (by omega)
      obtain ⟨q, hq⟩ : ∃ q, eqP2 x p = q := ⟨_, rfl⟩
      have heq : ∀ wx : World, (Op.equalIn 10000 24 (.agg #[.int .i64 p.f, .int .i64 p.t]) (.agg #[.int .i64 x.f, .int .i64 x.t])).run Try.prog wx = .ok q wx := fun wx => by
        rw [← hq, show eqP2 x p = ((p.f == x.f) && (p.t == x.t)) by unfold eqP2; rw [Bool.beq_comm (a := x.f), Bool.beq_comm (a := x.t)]]
        exact eq_pair _ _ _ _ wx
      rw [hq] at HSN
      clear hx hq
      cases q with
      | true =>
        have HT : Hid (r = true) := by show _ = _; rw [← HR.out]; exact has_take l (k + 1) p HSN.out
        go_wp2
        go_quiet (fail)
        have HBQ := Lib.hid (below_drewN HB.out nq)
        go_wp2
        go_ret
        exact ⟨(k : Int), rfl, by rw [HT.out]; simp, HBQ.out⟩
      | false =>
        go_wp2
        go_quiet (fail)
        have HBQ := Lib.hid (below_drewN HB.out nq)
        have HXQ : Hid ((wr.drewN nq).heap[w.heap.size]? = some (.cells #[.int .i64 p.f, .int .i64 p.t] 24 (0, 0))) := HBX.out
        go_wp2
        go_roundw
        case rel => exact ⟨k + 1, by rw [HA.out]; omega, by go_num, HSN.out, HXQ.out, HBQ.out⟩
        case measure => simp [intOf]; omega
    · obtain rfl : k = n := by omega
      have HF : Hid (r = false) := by
        show _ = _
        have h := HNO.out
        rw [List.take_of_length_le (by rw [HA.out]; exact Nat.le_refl _), HR.out] at h
        exact h
      go_wp2
      go_ret
      exact ⟨-1, rfl, by rw [HF.out]; rfl, HB.out⟩
theorem pcontains_any (A : Option Addr) (cap n : Nat) (l : List P2) (p : P2) (w : World) (h : PairsAt w A l) (hln : l.length = n) (hl : n ≤ 1099511627776) :
    Calls Try.prog 36 #[.slice A n cap, .agg #[.int .i64 p.f, .int .i64 p.t]] w fun e w' => e = .returned (.bool (hasB l p)) ∧ Below w.heap.size w w' := by
  have hb0 : Below w.heap.size w (w.alloc (.cells #[.int .i64 p.f, .int .i64 p.t] 24)) := (Below.refl _ _).alloc (Nat.le_refl _) _
  have HI := Lib.hid (pindex_any A cap n l p _ (h.kept hb0) hln hl)
  have HB0 := Lib.hid hb0
  obtain ⟨r, hr⟩ : ∃ r, hasB l p = r := ⟨_, rfl⟩
  rw [hr] at HI ⊢
  clear h hln hl hb0 hr
  go_enter Try.func36, Try.ntmps36
  go_wp2_with fail
  refine HI.out.mono ?_
  rintro e w2 ⟨i, rfl, hi, hb2⟩
  have HB2 := Lib.hid (HB0.out.trans (hb2.mono HB0.out.size))
  clear hb2
  go_wp2
  go_ret
  exact ⟨by simp [← hi], HB2.out⟩
theorem phas_any (A : Option Addr) (cap n : Nat) (l : List P2) (p : P2) (w : World) (h : PairsAt w A l) (hln : l.length = n) (hl : n ≤ 1099511627776) :
    Calls Try.prog 16 #[.slice A n cap, .agg #[.int .i64 p.f, .int .i64 p.t]] w fun e w' => e = .returned (.bool (hasB l p)) ∧ Below w.heap.size w w' := by
  have hb0 : Below w.heap.size w (w.alloc (.cells #[.int .i64 p.f, .int .i64 p.t] 24)) := (Below.refl _ _).alloc (Nat.le_refl _) _
  have HI := Lib.hid (pcontains_any A cap n l p _ (h.kept hb0) hln hl)
  have HB0 := Lib.hid hb0
  clear h hln hl hb0
  go_enter Try.func16, Try.ntmps16
  go_wp2_with fail
  refine HI.out.mono ?_
  rintro e w2 ⟨rfl, hb2⟩
  have HB2 := Lib.hid (HB0.out.trans (hb2.mono HB0.out.size))
  clear hb2
  go_wp2
  go_ret
  exact ⟨rfl, HB2.out⟩
end Go.Proofs.Ytnngldkpkhabeaa.Rel

namespace Go.Proofs.Ytnngldkpkhabeaa.Rel

open Go.RowKit Go.PlainAid Go.Proofs.Ytnngldkpkhabeaa.Oct Go.Proofs.Ytnngldkpkhabeaa.Flt Go.Proofs.Ytnngldkpkhabeaa.Rdr Go.Proofs.Ytnngldkpkhabeaa.Args Go.Proofs.Ytnngldkpkhabeaa.Win Go.Proofs.Ytnngldkpkhabeaa.Mpv

open Go.Proofs.Ytnngldkpkhabeaa.Pai (P2 PairsAt pairC Wide)

set_option linter.unusedVariables false

set_option linter.unusedSimpArgs false

theorem clone_any (b c : Nat) (F : Int → Option Value) (w : World) (h : MapV w b c F) :
    Calls Try.prog 65 #[.map (some b)] w fun e w' => e = .returned (.map (some w.heap.size)) ∧ MapV w' w.heap.size c F ∧ Below w.heap.size w w' := by
  obtain ⟨D, h1, h2⟩ := h
  have hcon := AnyW.maps_Clone_owns Try.mclone 3 rdV b c D w h1
  change Calls Try.prog 65 _ _ _ at hcon
  refine hcon.mono ?_
  rintro e w' ⟨rfl, h3, _, hB⟩
  exact ⟨rfl, ⟨D, h3, h2⟩, hB⟩
/-- Where pairs lead to from an id. -/
def tg (l : List P2) (id : Int) : List Int := (l.filter (fun x => x.f == id)).map P2.t
theorem tg_snoc (l : List P2) (x : P2) (id : Int) : tg (l ++ [x]) id = if x.f = id then tg l id ++ [x.t] else tg l id := by
  unfold tg
  rw [List.filter_append, List.map_append]
  by_cases h : x.f = id
  · rw [if_pos h]; simp [h]
  · rw [if_neg h]; simp [h]
theorem tg_len (l : List P2) (id : Int) : (tg l id).length ≤ l.length := by
  unfold tg
  rw [List.length_map]
  exact List.length_filter_le _ _
/-- A map of rows: where some pairs lead to. -/
structure LK (w0 : World) (l : List P2) (c : Nat) (F : Int → Option Value) (W : World) : Prop where
  mp : MapV W w0.heap.size c F
  cl : c ≤ l.length
  row : ∀ id V, F id = some V → W.ownsRow (w0.heap.size + 1) 3 1 V (tg l id).length ((tg l id).map (Value.int .i64))
  nn : ∀ id V, F id = some V → tg l id ≠ []
  non : ∀ id, F id = none → tg l id = []
  dis : ∀ id id' V V', id ≠ id' → F id = some V → F id' = some V' → ∀ j, V.ownBlock = some j → V'.ownBlock ≠ some j
  below : Below w0.heap.size w0 W
section

variable {w0 W W' : World} {l : List P2} {c : Nat} {F : Int → Option Value}

theorem LK.keep (h : LK w0 l c F W) (b : Below W.heap.size W W') : LK w0 l c F W' :=
  ⟨h.mp.keep b, h.cl, fun id V hv => owns_kept (h.row id V hv) b, h.nn, h.non, h.dis, h.below.trans (b.mono h.below.size)⟩
theorem LK.drewN (h : LK w0 l c F W) (m : Nat) : LK w0 l c F (W.drewN m) := h.keep ⟨rfl, rfl, rfl, Nat.le_refl _, fun _ _ => rfl⟩
/-- What stands at an id, as a row. -/
theorem LK.at_ (h : LK w0 l c F W) (id : Int) : ∃ A n cp, (F id).getD (.slice none 0 0) = .slice A n cp ∧ W.ownsRow (w0.heap.size + 1) 3 1 (.slice A n cp) n ((tg l id).map (Value.int .i64)) ∧ n = (tg l id).length := by
  cases hF : F id with
  | none =>
    refine ⟨none, 0, 0, rfl, ?_, by rw [h.non id hF]; rfl⟩
    rw [h.non id hF]
    exact World.ownsRow_nil _ _ _ _
  | some V =>
    have hr := h.row id V hF
    obtain ⟨A, cp, rfl⟩ : ∃ A cp, V = .slice A (tg l id).length cp := by
      rcases hr.2 with ⟨rfl, h0⟩ | ⟨g, cap, cur, rfl, _⟩
      · exact ⟨none, 0, by rw [h0]⟩
      · exact ⟨_, _, rfl⟩
    exact ⟨A, _, cp, rfl, hr, rfl⟩
/-- A pair more. -/
theorem LK.more (h : LK w0 l c F W) (x : P2) (hx : Mpv.I64 x.f) {A : Option Addr} {n cp : Nat} (hV : (F x.f).getD (.slice none 0 0) = .slice A n cp) {V' : Value} {W2 : World}
    (ho : W'.ownsRow (w0.heap.size + 1) 3 1 V' (n + 1) ((tg l x.f).map (Value.int .i64) ++ [.int .i64 x.t])) (hn : n = (tg l x.f).length) (hg : W.grownBy W' (Value.slice A n cp).ownBlock) (hat : V'.ownBlock = (Value.slice A n cp).ownBlock ∨ V'.ownBlock = some W.heap.size) (hc : c ≤ 1000000) :
    ∃ W2, (Instr.mapUpdate 49 (.map (some w0.heap.size)) (.int .i64 x.f) V').run Try.prog W' = .ok () W2 ∧ W'.grownBy W2 (some w0.heap.size) ∧ ∃ c2, LK w0 (l ++ [x]) c2 (fun i => if i = x.f then some V' else F i) W2 := by
  have hown : ∀ j, (Value.slice A n cp).ownBlock = some j → w0.heap.size + 1 ≤ j := fun j hj => by
    cases hF : F x.f with
    | none =>
      rw [hF] at hV
      injection hV with h1
      subst h1
      cases hj
    | some V =>
      rw [hF] at hV
      obtain rfl : V = .slice A n cp := hV
      exact ((h.row _ _ hF).lt j hj).1
  have hm : MapV W' w0.heap.size c F := h.mp.kept (hg.block _ h.mp.blk (fun e => by have := hown _ e.symm; omega))
  obtain ⟨W2, hr, hm2, hg2⟩ := hm.put Try.underlying49 x.f hx V' (by omega)
  refine ⟨W2, hr, hg2, _, hm2, ?_, ?_, ?_, ?_, ?_, ?_⟩
  · rw [List.length_append, List.length_singleton]
    have := h.cl
    split <;> omega
  · intro id V hv
    rw [tg_snoc]
    by_cases hid : id = x.f
    · subst hid
      rw [if_pos rfl] at hv
      obtain rfl := Option.some.inj hv
      rw [if_pos rfl]
      have ho2 : W2.ownsRow (w0.heap.size + 1) 3 1 V' (n + 1) ((tg l x.f).map (Value.int .i64) ++ [.int .i64 x.t]) := ho.kept hg2 (by
        cases hb : V'.ownBlock with
        | none => exact .inl rfl
        | some j => exact .inr (fun e => by have := (ho.lt j hb).1; have := Option.some.inj e; omega))
      rw [List.length_append, List.length_singleton, List.map_append, ← hn]
      exact ho2
    · rw [if_neg hid] at hv
      rw [if_neg (fun e => hid e.symm)]
      have hro := h.row id V hv
      have h1 : W'.ownsRow (w0.heap.size + 1) 3 1 V (tg l id).length ((tg l id).map (Value.int .i64)) := hro.kept hg (by
        cases hb : V.ownBlock with
        | none => exact .inl rfl
        | some j =>
          refine .inr (fun e => ?_)
          cases hF : F x.f with
          | none =>
            rw [hF] at hV
            injection hV with h1
            subst h1
            cases e
          | some V0 =>
            rw [hF] at hV
            obtain rfl : V0 = .slice A n cp := hV
            exact h.dis id x.f V _ hid hv hF j hb e.symm)
      exact h1.kept hg2 (by
        cases hb : V.ownBlock with
        | none => exact .inl rfl
        | some j => exact .inr (fun e => by have := (hro.lt j hb).1; have := Option.some.inj e; omega))
  · intro id V hv
    rw [tg_snoc]
    by_cases hid : id = x.f
    · rw [if_pos hid.symm]; simp
    · rw [if_neg hid] at hv
      rw [if_neg (fun e => hid e.symm)]
      exact h.nn id V hv
  · intro id hv
    by_cases hid : id = x.f
    · rw [if_pos hid] at hv; cases hv
    · rw [if_neg hid] at hv
      rw [tg_snoc, if_neg (fun e => hid e.symm)]
      exact h.non id hv
  · have hnew : ∀ id V, id ≠ x.f → F id = some V → ∀ j, V.ownBlock = some j → V'.ownBlock ≠ some j := fun id V hid hv j hb e => by
      rcases hat with h1 | h1
      · cases hF : F x.f with
        | none =>
          rw [hF] at hV
          injection hV with h2
          subst h2
          rw [h1] at e
          cases e
        | some V0 =>
          rw [hF] at hV
          obtain rfl : V0 = .slice A n cp := hV
          exact h.dis id x.f V _ hid hv hF j hb (by rw [← h1]; exact e)
      · rw [h1] at e
        have := Option.some.inj e
        have := ((h.row id V hv).lt j hb).2
        omega
    intro id id' U U' hne hu hu' j hj
    by_cases h1 : id = x.f
    · subst h1
      rw [if_pos rfl] at hu
      obtain rfl := Option.some.inj hu
      rw [if_neg (fun e => hne e.symm)] at hu'
      intro e
      exact hnew id' U' (fun e => hne e.symm) hu' j e hj
    · rw [if_neg h1] at hu
      by_cases h2 : id' = x.f
      · subst h2
        rw [if_pos rfl] at hu'
        obtain rfl := Option.some.inj hu'
        exact hnew id U h1 hu j hj
      · rw [if_neg h2] at hu'
        exact h.dis id id' U U' hne hu hu' j hj
  · have h1 := h.below.grown hg h.below.size (fun j hj => by have := hown j hj; omega)
    exact h1.grown hg2 (Nat.le_trans h.below.size hg.size) (fun j hj => by have := Option.some.inj hj; omega)
end

end Go.Proofs.Ytnngldkpkhabeaa.Rel

namespace Go.Proofs.Ytnngldkpkhabeaa.Rel

open Go.RowKit Go.PlainAid Go.Proofs.Ytnngldkpkhabeaa.Oct Go.Proofs.Ytnngldkpkhabeaa.Flt Go.Proofs.Ytnngldkpkhabeaa.Rdr Go.Proofs.Ytnngldkpkhabeaa.Args Go.Proofs.Ytnngldkpkhabeaa.Win Go.Proofs.Ytnngldkpkhabeaa.Mpv

open Go.Proofs.Ytnngldkpkhabeaa.Pai (P2 PairsAt pairC Wide)

set_option linter.unusedVariables false

set_option linter.unusedSimpArgs false

theorem step_append_at {P : Program} {ops : Array Oper} {o : Oper} {a : Act} {w : World} {K : Act → World → Prop} {Q : Exit → Act → World → Prop} {E : Prop}
    (hg : o.guard = none) (s x : Operand) (t : TypeId) (ho : o.op = .call { callee := .builtin .append, args := #[s, x], argTypes := #[t, t] })
    (base : Nat) (e : TypeId) (i : TypeInfo) (z : Value) (size bytes : Nat) (ht : P.underlying t = some (.slice e)) (hi : P.info? e = some i) (hz : i.zero = some z)
    (hsize : i.size = size) (hby : i.bytes = bytes) (hzs : z.cells.size = size) (hsz : 0 < size)
    (v : Value) (n : Nat) (xs : List Value) (hs : a.eval s = v) (hown : w.ownsRow base e size v n xs)
    (ad : Addr) (m c : Nat) (news : List Value) (hx : a.eval x = .slice (some ad) m c) (hl : news.length = m * size) (hnews : ∀ j u, news[j]? = some u → w.cell? (ad.add j) = some u) (h1 : ∀ u ∈ news, u.oneCell' = true)
    (h63 : n + m ≤ maxLen) (hbytes : (n + m) * bytes ≤ 140737488355328) (hbase : base ≤ w.heap.size)
    (hK : ∀ v' w', w'.ownsRow base e size v' (n + m) (xs ++ news) → w.grownBy w' v.ownBlock → (v'.ownBlock = v.ownBlock ∨ v'.ownBlock = some w.heap.size) → K (a.put o.dst v') w') :
    if Region.wanted o (yielded ops a.tmps) = true then Oper.wp P o a w K Q else E := by
  have hw : Region.wanted o (yielded ops a.tmps) = true := by simp [Region.wanted, hg]
  rw [if_pos hw]
  obtain ⟨v', w', hr, h2, h3, h4, h5⟩ := run_append_own_at (P := P) w base t o.type e i z size bytes ht hi hz hsize hby hzs hsz v n xs hown ad m c news hl hnews h1 h63 hbytes hbase
  unfold Oper.wp execOp
  simp only [ho, resolve, invoke, builtin, Sem.run_bind, Sem.run_pure, Result.andThen_ok, List.map_toArray, List.map_cons, List.map_nil, hs, hx, hr]
  exact hK _ _ h2 h3 h5
theorem new1L (w : World) (T : TypeId) (u : Value) : ∀ j q, ([u] : List Value)[j]? = some q → (w.alloc (.cells #[u] T)).drew.cell? ((Addr.mk w.heap.size 0 none).add j) = some q := cell_one_new w u T
theorem new1M (w : World) (T : TypeId) (u : Value) : ∀ j q, ([u] : List Value)[j]? = some q → (w.drew.alloc (.cells #[u] T)).cell? ((Addr.mk w.heap.size 0 none).add j) = some q := cell_one_new w u T
def LkRel (w0 : World) (l : List P2) (m : Nat) (i : Value) (wr : World) : Prop :=
  ∃ (k c : Nat) (F : Int → Option Value), k ≤ m ∧ i = .int .i64 (k : Int) ∧ LK w0 (l.take k) c F wr
def LinksPost (l : List P2) (w : World) (e : Ending) (w' : World) : Prop := ∃ (c : Nat) (F : Int → Option Value), e = .returned (.map (some w.heap.size)) ∧ LK w l c F w'
set_option maxRecDepth 8000 in
set_option maxHeartbeats 3200000 in
theorem links_any (A : Option Addr) (cap m : Nat) (l : List P2) (w : World) (hx : PairsAt w A l) (hw : ∀ x ∈ l, Wide x) (hlm : l.length = m) (hl : m ≤ 1000000) :
    Calls Try.prog 38 #[.slice A m cap] w (LinksPost l w) := by
  obtain ⟨i0, hi, hz0, hz1, hz2⟩ := info_parts infoInt2
  have HX := Lib.hid hx
  have HWD : Hid (∀ x ∈ l, Mpv.I64 x.f) := fun x h => (hw x h).1
  have HLM := Lib.hid hlm
  have HL : Hid (m ≤ 1000000) := hl
  have hlk : LK w [] 0 (fun _ => none) (w.alloc (.map #[] 0)) := ⟨map_made w, Nat.le_refl _, fun id V h => (by cases h), fun id V h => (by cases h), fun id _ => rfl, fun id id' V V' _ h => (by cases h), (Below.refl _ _).alloc (Nat.le_refl _) _⟩
  have HLK := Lib.hid hlk
  have hmm := @run_makeMap Try.prog
  clear hx hw hlm hl hlk
  go_enter Try.func38, Try.ntmps38
  go_wp2_with fail
  go_loopw [9] (fun i wr => LkRel w l m i wr) (fun i _ => m - (intOf i).toNat)
  case atStart => exact ⟨0, 0, _, Nat.zero_le _, rfl, HLK.out⟩
  case round =>
    obtain ⟨k, c, F, hk, rfl, hlk⟩ := hrel
    have HK := Lib.hid hlk
    clear hlk HLK
    by_cases hlt : k < m
    · obtain ⟨x, hx⟩ : ∃ x, l[k]? = some x := ⟨_, List.getElem?_eq_getElem (by rw [HLM.out]; exact hlt)⟩
      obtain ⟨y, rfl, e1, e2⟩ := (HX.out.kept HK.out.below) k x hx
      have hxm : x ∈ l := List.mem_of_getElem? hx
      have HXI := Lib.hid (HWD.out x hxm)
      have htk : l.take (k + 1) = l.take k ++ [x] := by rw [List.take_add_one, hx]; rfl
      have HTK := Lib.hid htk
      have HLT := Lib.hid hlt
      have hkb : (k : Int) < m := by omega
      have hki : (0 : Int) ≤ k := by omega
      have hk1 : IntKind.i64.wrap ((k : Int) + 1) = (k : Int) + 1 := IntWalk.i64_in _ (by have := HL.out; omega)
      have hb5 : Below wr.heap.size wr (wr.alloc (.cells #[.int .i64 x.f, .int .i64 x.t] 24)) := (Below.refl _ _).alloc (Nat.le_refl _) _
      have hk5 := HK.out.keep hb5
      have hx5 := heap_alloc_new wr (.cells #[.int .i64 x.f, .int .i64 x.t] 24)
      clear hx hxm htk hlt hk hb5
      go_upto_region 5 with fail
      obtain ⟨W5, hW5⟩ : ∃ W, wr.alloc (.cells #[.int .i64 x.f, .int .i64 x.t] 24) = W := ⟨_, rfl⟩
      obtain ⟨Q, hQ⟩ : ∃ Q, wr.heap.size = Q := ⟨_, rfl⟩
      rw [hW5] at hx5 hk5
      rw [hQ] at hx5
      have HQQ := Lib.hid hQ
      rw [hW5, hQ]
      have HX5 := Lib.hid hx5
      have HK5 := Lib.hid hk5
      obtain ⟨V0, n, cp, hV, hrow, hn⟩ := hk5.at_ x.f
      obtain ⟨xf, xt⟩ := x
      dsimp only at HXI HX5 HK5 e1 e2 hV hrow hn
      have HV := Lib.hid hV
      have HNN := Lib.hid hn
      have x0 := cell_of_row _ _ 0 _ _ _ HX5.out
      have x1 := cell_of_row _ _ 1 _ _ _ HX5.out
      simp only [List.getElem?_toArray, List.getElem?_cons_zero, List.getElem?_cons_succ] at x0 x1
      have hlk1 : (Instr.lookup 49 (.map (some w.heap.size)) (.int .i64 xf) false).run Try.prog W5.drew = .ok (.slice V0 n cp) W5.drew := by
        have h := (HK5.out.drewN 1).mp.look Try.underlying49 (zero_ints _) xf HXI.out
        rw [HV.out] at h
        exact h
      have HKA := Lib.hid ((HK5.out.keep ((Below.refl _ _).alloc (Nat.le_refl _) (.cells #[.int .i64 xt] 3))).drewN 1)
      have HKB := Lib.hid ((HK5.out.drewN 1).keep ((Below.refl _ _).alloc (Nat.le_refl _) (.cells #[.int .i64 xt] 3)))
      have hlk2 : (Instr.lookup 49 (.map (some w.heap.size)) (.int .i64 xf) false).run Try.prog (W5.alloc (.cells #[.int .i64 xt] 3)).drew = .ok (.slice V0 n cp) (W5.alloc (.cells #[.int .i64 xt] 3)).drew := by
        have h := HKA.out.mp.look Try.underlying49 (zero_ints _) xf HXI.out
        rw [HV.out] at h
        exact h
      have hlk3 : (Instr.lookup 49 (.map (some w.heap.size)) (.int .i64 xf) false).run Try.prog (W5.drew.alloc (.cells #[.int .i64 xt] 3)) = .ok (.slice V0 n cp) (W5.drew.alloc (.cells #[.int .i64 xt] 3)) := by
        have h := HKB.out.mp.look Try.underlying49 (zero_ints _) xf HXI.out
        rw [HV.out] at h
        exact h
      have HRA : Hid ((W5.alloc (.cells #[.int .i64 xt] 3)).drew.ownsRow (w.heap.size + 1) 3 1 (.slice V0 n cp) n ((tg (l.take k) xf).map (Value.int .i64))) := owns_kept hrow ⟨rfl, rfl, rfl, by simp [World.drew], fun i hi => heap_alloc_old W5 _ hi⟩
      have HRB : Hid ((W5.drew.alloc (.cells #[.int .i64 xt] 3)).ownsRow (w.heap.size + 1) 3 1 (.slice V0 n cp) n ((tg (l.take k) xf).map (Value.int .i64))) := HRA.out
      have HXA : Hid ((W5.alloc (.cells #[.int .i64 xt] 3)).drew.heap[Q]? = some (.cells #[.int .i64 xf, .int .i64 xt] 24 (0, 0))) := (heap_alloc_old W5 _ (lt_of_block HX5.out)).trans HX5.out
      have HXB : Hid ((W5.drew.alloc (.cells #[.int .i64 xt] 3)).heap[Q]? = some (.cells #[.int .i64 xf, .int .i64 xt] 24 (0, 0))) := HXA.out
      have HNB : Hid (n ≤ 1000000) := by show _ ≤ _; rw [hn]; have h1 := tg_len (l.take k) xf; have h2 : (l.take k).length ≤ k := by simp; omega
                                         have := HLT.out; have := HL.out; omega
      have HCB : Hid (c ≤ 1000000) := by show _ ≤ _; have h1 := HK5.out.cl; have h2 : (l.take k).length ≤ k := by simp; omega
                                         have := HLT.out; have := HL.out; omega
      have HSZ : Hid (w.heap.size + 1 ≤ (W5.alloc (.cells #[.int .i64 xt] 3)).heap.size) := by show _ ≤ _; have := HK5.out.mp.blk; simp; omega
      have HQO : Hid (∀ j, (Value.slice V0 n cp).ownBlock = some j → j ≠ Q) := fun j hj => by
        obtain ⟨V1, n1, cp1, hV1, hrow1, -⟩ := HK.out.at_ xf
        rw [HV.out] at hV1
        injection hV1 with h1 h2 h3
        subst h1 h2 h3
        have := (hrow1.lt j hj).2
        rw [← HQQ.out]
        omega
      have HQM : Hid (w.heap.size < Q) := by show _ < _; rw [← HQQ.out]; exact HK.out.mp.blk
      clear hrow hn hV e1 e2
      go_region_held3 (fun wx => wx.cell? ⟨Q, 0, none⟩ = some (.int .i64 xf) ∧ wx.cell? ⟨Q, 1, none⟩ = some (.int .i64 xt))
        (first | exact HKP.out | exact HKQ.out | (refine ⟨?_, ?_⟩ <;> first | assumption | (go_keep; done)) | (go_keep; done))
        (first
          | (
              refine step_append_at (s := .tmp 19) (x := .tmp 22) (t := 29) rfl rfl (base := w.heap.size + 1) (e := 3) (i := i0) (z := .int .i64 0) (size := 1) (bytes := 8) Try.underlying29 hi hz0 hz1 hz2 rfl (by decide) (v := .slice V0 n cp) (n := n) (xs := (tg (l.take k) xf).map (Value.int .i64)) rfl HRA.out ⟨W5.heap.size, 0, none⟩ 1 1 [.int .i64 xt] rfl rfl (new1L _ _ _) ?_ ?_ ?_ ?_ ?_
              · intro u hu; simp at hu; subst hu; rfl
              · have := HNB.out; unfold maxLen; omega
              · have := HNB.out; omega
              · exact HSZ.out
              intro v' w' ho hg hat
              obtain ⟨W2, hr2, hg2, c2, hk2⟩ := HKA.out.more ⟨xf, xt⟩ HXI.out HV.out (W2 := w') ho HNN.out hg (by first | exact hat | (simpa using hat)) (by have := HCB.out; omega)
              have HK9 := Lib.hid hk2
              have HQ1 := Lib.hid ((hg.block Q (by have := lt_of_block HX5.out; simp; omega) (fun e => HQO.out Q e.symm rfl)).trans (HXA.out))
              have HKP : Hid (w'.cell? ⟨Q, 0, none⟩ = some (.int .i64 xf) ∧ w'.cell? ⟨Q, 1, none⟩ = some (.int .i64 xt)) := ⟨by rw [cell_of_row _ _ _ _ _ _ HQ1.out]; rfl, by rw [cell_of_row _ _ _ _ _ _ HQ1.out]; rfl⟩
              have HQ2 := Lib.hid ((hg2.block Q (lt_of_block HQ1.out) (fun e => by have := Option.some.inj e; have := HQM.out; omega)).trans HQ1.out)
              have HKQ : Hid (W2.cell? ⟨Q, 0, none⟩ = some (.int .i64 xf) ∧ W2.cell? ⟨Q, 1, none⟩ = some (.int .i64 xt)) := ⟨by rw [cell_of_row _ _ _ _ _ _ HQ2.out]; rfl, by rw [cell_of_row _ _ _ _ _ _ HQ2.out]; rfl⟩
              clear ho hg hat hk2 hg2)
          | (
              refine step_append_at (s := .tmp 19) (x := .tmp 22) (t := 29) rfl rfl (base := w.heap.size + 1) (e := 3) (i := i0) (z := .int .i64 0) (size := 1) (bytes := 8) Try.underlying29 hi hz0 hz1 hz2 rfl (by decide) (v := .slice V0 n cp) (n := n) (xs := (tg (l.take k) xf).map (Value.int .i64)) rfl HRB.out ⟨W5.heap.size, 0, none⟩ 1 1 [.int .i64 xt] rfl rfl (new1M _ _ _) ?_ ?_ ?_ ?_ ?_
              · intro u hu; simp at hu; subst hu; rfl
              · have := HNB.out; unfold maxLen; omega
              · have := HNB.out; omega
              · exact HSZ.out
              intro v' w' ho hg hat
              obtain ⟨W2, hr2, hg2, c2, hk2⟩ := HKB.out.more ⟨xf, xt⟩ HXI.out HV.out (W2 := w') ho HNN.out hg (by first | exact hat | (simpa using hat)) (by have := HCB.out; omega)
              have HK9 := Lib.hid hk2
              have HQ1 := Lib.hid ((hg.block Q (by have := lt_of_block HX5.out; simp; omega) (fun e => HQO.out Q e.symm rfl)).trans (HXB.out))
              have HKP : Hid (w'.cell? ⟨Q, 0, none⟩ = some (.int .i64 xf) ∧ w'.cell? ⟨Q, 1, none⟩ = some (.int .i64 xt)) := ⟨by rw [cell_of_row _ _ _ _ _ _ HQ1.out]; rfl, by rw [cell_of_row _ _ _ _ _ _ HQ1.out]; rfl⟩
              have HQ2 := Lib.hid ((hg2.block Q (lt_of_block HQ1.out) (fun e => by have := Option.some.inj e; have := HQM.out; omega)).trans HQ1.out)
              have HKQ : Hid (W2.cell? ⟨Q, 0, none⟩ = some (.int .i64 xf) ∧ W2.cell? ⟨Q, 1, none⟩ = some (.int .i64 xt)) := ⟨by rw [cell_of_row _ _ _ _ _ _ HQ2.out]; rfl, by rw [cell_of_row _ _ _ _ _ _ HQ2.out]; rfl⟩
              clear ho hg hat hk2 hg2))
      all_goals
        clear HKP HKQ x0 x1 hlk1 hlk2 hlk3
        go_wp2
        go_roundw
        case rel => exact ⟨k + 1, _, _, HLT.out, by go_num, by rw [HTK.out]; exact HK9.out⟩
        case measure => have := HLT.out; simp [intOf]; omega
    · obtain rfl : k = m := by omega
      have hfull : l.take k = l := List.take_of_length_le (by rw [HLM.out]; exact Nat.le_refl _)
      rw [hfull] at HK
      clear hfull hk hlt
      go_wp2
      go_ret
      exact ⟨c, F, rfl, HK.out⟩
end Go.Proofs.Ytnngldkpkhabeaa.Rel

namespace Go.Proofs.Ytnngldkpkhabeaa.Rel

open Go.RowKit Go.PlainAid Go.Proofs.Ytnngldkpkhabeaa.Oct Go.Proofs.Ytnngldkpkhabeaa.Flt Go.Proofs.Ytnngldkpkhabeaa.Rdr Go.Proofs.Ytnngldkpkhabeaa.Args Go.Proofs.Ytnngldkpkhabeaa.Win Go.Proofs.Ytnngldkpkhabeaa.Mpv

open Go.Proofs.Ytnngldkpkhabeaa.Pai (P2 PairsAt pairC Wide)

set_option linter.unusedVariables false

set_option linter.unusedSimpArgs false

def StPost (l : List P2) (w : World) (e : Ending) (w' : World) : Prop :=
  ∃ (s mr mm mc mg c : Nat) (F : Int → Option Value), e = .returned (.pointer (some ⟨s, 0, none⟩)) ∧ LK w l c F w' ∧ SS w' w'.heap.size s w.heap.size mr mm mc mg 0 0 F noI noI noI [] none w' ∧
    (∀ id V j, F id = some V → V.ownBlock = some j → j < w'.heap.size ∧ j ≠ s ∧ j ≠ mr ∧ j ≠ mm ∧ j ≠ mc ∧ j ≠ mg) ∧ (w.heap.size ≤ s ∧ w.heap.size ≤ mr ∧ w.heap.size ≤ mm ∧ w.heap.size ≤ mc ∧ w.heap.size ≤ mg) ∧ Below w.heap.size w w'
theorem ints_no : ints noI = fun _ => none := rfl
set_option maxRecDepth 8000 in
set_option maxHeartbeats 3200000 in
theorem start_any (A : Option Addr) (cap m : Nat) (l : List P2) (w : World) (hx : PairsAt w A l) (hw : ∀ x ∈ l, Wide x) (hlm : l.length = m) (hl : m ≤ 1000000) :
    Calls Try.prog 47 #[.slice A m cap] w (StPost l w) := by
  have HLI := Lib.hid (links_any A cap m l w hx hw hlm hl)
  have HLM : Hid (l.length ≤ 1000000) := by show _ ≤ _; omega
  have hmm := @run_makeMap Try.prog
  clear hx hw hlm hl
  go_enter Try.func47, Try.ntmps47
  go_wp2_with fail
  refine HLI.out.mono ?_
  rintro e w1 ⟨c, F, rfl, hk⟩
  have HK := Lib.hid hk
  clear hk HLI
  go_wp2_with fail
  refine (clone_any _ c F _ HK.out.mp).mono ?_
  rintro e w2 ⟨rfl, hm2, hb2⟩
  have HK2 := Lib.hid (HK.out.keep hb2)
  have HM2 := Lib.hid hm2
  have HS2 : Hid (w1.heap.size < w2.heap.size) := hm2.blk
  have HRB : Hid (∀ id V j, F id = some V → V.ownBlock = some j → w.heap.size < j ∧ j < w1.heap.size) := fun id V j hv hj => by
    have h := (HK.out.row id V hv).lt j hj
    omega
  have HS1 : Hid (w.heap.size < w1.heap.size) := HK.out.mp.blk
  clear hm2 hb2
  go_wp2_with fail
  go_wp2
  go_ret
  obtain ⟨wa, hwa⟩ : ∃ W, w2.alloc (.map #[] 0) = W := ⟨_, rfl⟩
  obtain ⟨wb, hwb⟩ : ∃ W, wa.alloc (.map #[] 0) = W := ⟨_, rfl⟩
  obtain ⟨wc, hwc⟩ : ∃ W, wb.alloc (.map #[] 0) = W := ⟨_, rfl⟩
  obtain ⟨wd, hwd⟩ : ∃ W, wc.alloc (.cells #[.map (some w.heap.size), .map (some w1.heap.size), .map (some w2.heap.size), .map (some (w2.heap.size + 1)), .slice none 0 0, .map (some (w2.heap.size + 1 + 1))] 82) = W := ⟨_, rfl⟩
  rw [hwa, hwb, hwc, hwd]
  have sa : wa.heap.size = w2.heap.size + 1 := by rw [← hwa]; simp
  have sb : wb.heap.size = w2.heap.size + 1 + 1 := by rw [← hwb]; simp [sa]
  have sc : wc.heap.size = w2.heap.size + 1 + 1 + 1 := by rw [← hwc]; simp [sb]
  have sd : wd.heap.size = w2.heap.size + 1 + 1 + 1 + 1 := by rw [← hwd]; simp [sc]
  have ba : Below w2.heap.size w2 wa := by rw [← hwa]; exact (Below.refl _ _).alloc (Nat.le_refl _) _
  have bb : Below wa.heap.size wa wb := by rw [← hwb]; exact (Below.refl _ _).alloc (Nat.le_refl _) _
  have bc : Below wb.heap.size wb wc := by rw [← hwc]; exact (Below.refl _ _).alloc (Nat.le_refl _) _
  have bd : Below wc.heap.size wc wd := by rw [← hwd]; exact (Below.refl _ _).alloc (Nat.le_refl _) _
  have ma : MapV wa w2.heap.size 0 (fun _ => none) := by rw [← hwa]; exact map_made w2
  have mb : MapV wb (w2.heap.size + 1) 0 (fun _ => none) := by rw [← hwb, ← sa]; exact map_made wa
  have mc : MapV wc (w2.heap.size + 1 + 1) 0 (fun _ => none) := by rw [← hwc, ← sb]; exact map_made wb
  have bad : Below w2.heap.size w2 wd := ba.trans ((bb.trans ((bc.trans (bd.mono (by omega))).mono (by omega))).mono (by omega))
  have bx : wd.heap[w2.heap.size + 1 + 1 + 1]? = some (.cells #[.map (some w.heap.size), .map (some w1.heap.size), .map (some w2.heap.size), .map (some (w2.heap.size + 1)), .slice none 0 0, .map (some (w2.heap.size + 1 + 1))] 82 (0, 0)) := by
    rw [← hwd, ← sc]; exact heap_alloc_new _ _
  have h1 := HS1.out
  have h2 := HS2.out
  have hcl := HK.out.cl
  have hlm := HLM.out
  have hkd := HK2.out.keep bad
  refine ⟨_, w1.heap.size, w2.heap.size, w2.heap.size + 1, w2.heap.size + 1 + 1, c, F, rfl, hkd, ⟨⟨_, rfl, bx, World.ownsRow_nil _ _ _ _⟩, ⟨c, by omega, HM2.out.keep bad⟩, ?_, ⟨0, Nat.le_refl _, ?_⟩, ⟨0, Nat.le_refl _, ?_⟩, fun _ _ _ _ _ _ _ => rfl, ⟨by omega, by omega, by omega, by omega, by omega, by omega, by omega, by omega, by omega, by omega, by omega, by omega, by omega, by omega, by omega⟩, ⟨by omega, by omega, by omega, by omega, by omega, by omega⟩, ⟨rfl, rfl, rfl, Nat.le_refl _⟩⟩, fun id V j hv hj => ?_, ⟨by omega, by omega, by omega, by omega, by omega⟩, hkd.below⟩
  · exact ma.keep (bb.trans ((bc.trans (bd.mono (by omega))).mono (by omega)))
  · exact mb.keep (bc.trans (bd.mono (by omega)))
  · exact mc.keep bd
  · have := HRB.out id V j hv hj
    exact ⟨by omega, by omega, by omega, by omega, by omega, by omega⟩
end Go.Proofs.Ytnngldkpkhabeaa.Rel

namespace Go.Proofs.Ytnngldkpkhabeaa.Rel

open Go.RowKit Go.PlainAid Go.Proofs.Ytnngldkpkhabeaa.Oct Go.Proofs.Ytnngldkpkhabeaa.Flt Go.Proofs.Ytnngldkpkhabeaa.Rdr Go.Proofs.Ytnngldkpkhabeaa.Args Go.Proofs.Ytnngldkpkhabeaa.Win Go.Proofs.Ytnngldkpkhabeaa.Mpv

set_option linter.unusedVariables false

set_option linter.unusedSimpArgs false

/-- A row of rows: each one's value and its numbers. -/
structure GR (B : Nat) (GV : Value) (rs : List (Value × List Int)) (w : World) : Prop where
  g : w.ownsRow B 29 1 GV rs.length (rs.map Prod.fst)
  r : ∀ p ∈ rs, w.ownsRow B 3 1 p.1 p.2.length (p.2.map (Value.int .i64))
  d0 : ∀ p ∈ rs, ∀ j, p.1.ownBlock = some j → GV.ownBlock ≠ some j
  d1 : ∀ (i i' : Nat) (p p' : Value × List Int), i ≠ i' → rs[i]? = some p → rs[i']? = some p' → ∀ j, p.1.ownBlock = some j → p'.1.ownBlock ≠ some j
section

variable {B : Nat} {GV GV' V' : Value} {rs : List (Value × List Int)} {w w' : World}

theorem GR.none_ (B : Nat) (w : World) : GR B (.slice none 0 0) [] w := ⟨World.ownsRow_nil _ _ _ _, fun p h => (by cases h), fun p h => (by cases h), fun i i' p p' _ h => by simp at h⟩
theorem GR.keep (h : GR B GV rs w) (b : Below w.heap.size w w') : GR B GV rs w' := ⟨owns_kept h.g b, fun p hp => owns_kept (h.r p hp) b, h.d0, h.d1⟩
theorem row_apart {w w' : World} {B e s n : Nat} {V : Value} {xs : List Value} {r : Option Nat} (h : w.ownsRow B e s V n xs) (hg : w.grownBy w' r) (hr : ∀ j, V.ownBlock = some j → r ≠ some j) : w'.ownsRow B e s V n xs := h.kept hg (by
  cases hb : V.ownBlock with
  | none => exact .inl rfl
  | some j => exact .inr (fun e => hr j hb e.symm))
/-- A block below is changed. -/
theorem GR.other (h : GR B GV rs w) {P : Nat} (hg : w.grownBy w' (some P)) (hP : P < B) : GR B GV rs w' :=
  ⟨row_apart h.g hg (fun j hj e => by have := (h.g.lt j hj).1; have := Option.some.inj e; omega), fun p hp => row_apart (h.r p hp) hg (fun j hj e => by have := ((h.r p hp).lt j hj).1; have := Option.some.inj e; omega), h.d0, h.d1⟩
/-- A row more, with no number. -/
theorem GR.more (h : GR B GV rs w) (ho : w'.ownsRow B 29 1 GV' (rs.length + 1) (rs.map Prod.fst ++ [.slice none 0 0])) (hg : w.grownBy w' GV.ownBlock) (hat : GV'.ownBlock = GV.ownBlock ∨ GV'.ownBlock = some w.heap.size) : GR B GV' (rs ++ [(.slice none 0 0, [])]) w' := by
  refine ⟨by rw [List.length_append, List.length_singleton, List.map_append]; exact ho, fun p hp => ?_, fun p hp j hj => ?_, fun i i' p p' hne hi hi' j hj => ?_⟩
  · rcases List.mem_append.1 hp with hp | hp
    · exact row_apart (h.r p hp) hg (fun j hj e => h.d0 p hp j hj e)
    · obtain rfl := List.mem_singleton.1 hp
      exact World.ownsRow_nil _ _ _ _
  · rcases List.mem_append.1 hp with hp | hp
    · rcases hat with e | e
      · rw [e]; exact h.d0 p hp j hj
      · rw [e]
        intro e2
        have := ((h.r p hp).lt j hj).2
        have := Option.some.inj e2
        omega
    · obtain rfl := List.mem_singleton.1 hp
      cases hj
  · have key : ∀ (i : Nat) (p : Value × List Int), (rs ++ [((.slice none 0 0 : Value), ([] : List Int))])[i]? = some p → rs[i]? = some p ∨ p = (.slice none 0 0, []) := fun i p hi => by
      rcases Nat.lt_or_ge i rs.length with hl | hl
      · rw [List.getElem?_append_left hl] at hi; exact .inl hi
      · rw [List.getElem?_append_right hl] at hi
        right
        have hi2 := List.mem_of_getElem? hi
        exact List.mem_singleton.1 hi2
    rcases key i p hi with h1 | rfl
    · rcases key i' p' hi' with h2 | rfl
      · exact h.d1 i i' p p' hne h1 h2 j hj
      · intro e; cases e
    · cases hj
/-- A number more in the row i: the row has grown. -/
theorem GR.grown (h : GR B GV rs w) {i : Nat} {V : Value} {L : List Int} {x : Int} (hi : rs[i]? = some (V, L)) (ho : w'.ownsRow B 3 1 V' (L.length + 1) (L.map (Value.int .i64) ++ [.int .i64 x])) (hg : w.grownBy w' V.ownBlock) (hat : V'.ownBlock = V.ownBlock ∨ V'.ownBlock = some w.heap.size)
    {g cap : Nat} (hG : GV = .slice (some ⟨g, 0, none⟩) rs.length cap) : w'.cell? ⟨g, i, none⟩ = some V ∧ w'.frozen? ⟨g, i, none⟩ = false ∧ GR B GV (rs.set i (V', L ++ [x])) (w'.setCell ⟨g, i, none⟩ V') ∧ w'.grownBy (w'.setCell ⟨g, i, none⟩ V') (some g) ∧ B ≤ g := by
  subst hG
  have hm : (V, L) ∈ rs := List.mem_of_getElem? hi
  have hil : i < rs.length := (List.getElem?_eq_some_iff.1 hi).1
  have hg1 : w'.ownsRow B 29 1 (.slice (some ⟨g, 0, none⟩) rs.length cap) rs.length (rs.map Prod.fst) := row_apart h.g hg (fun j hj e => h.d0 _ hm j e hj)
  have hst := hg1.stored i V'
  have hgb := h.g.lt g rfl
  have hVg : ∀ j, V'.ownBlock = some j → j ≠ g := fun j hj e => by
    subst e
    rcases hat with h1 | h1
    · rw [h1] at hj
      exact h.d0 _ hm j hj rfl
    · rw [h1] at hj
      have := Option.some.inj hj
      omega
  have key : ∀ (k : Nat) (p : Value × List Int), (rs.set i (V', L ++ [x]))[k]? = some p → (k = i ∧ p = (V', L ++ [x])) ∨ (k ≠ i ∧ rs[k]? = some p) := fun k p hk => by
    by_cases hki : k = i
    · subst hki
      rw [List.getElem?_set, if_pos rfl, if_pos hil] at hk
      exact .inl ⟨rfl, (Option.some.inj hk).symm⟩
    · rw [List.getElem?_set, if_neg (fun e => hki e.symm)] at hk
      exact .inr ⟨hki, hk⟩
  have keym : ∀ p ∈ rs.set i (V', L ++ [x]), p = (V', L ++ [x]) ∨ ∃ k, k ≠ i ∧ rs[k]? = some p := fun p hp => by
    obtain ⟨k, hk, e⟩ := List.mem_iff_getElem.1 hp
    rcases key k p (by rw [List.getElem?_eq_getElem hk, e]) with ⟨_, h1⟩ | h1
    · exact .inl h1
    · exact .inr ⟨k, h1⟩
  refine ⟨?_, hg1.frozenAt i, ⟨?_, fun p hp => ?_, fun p hp j hj e => ?_, fun k k' p p' hne hk hk' j hj => ?_⟩, hst.2, hgb.1⟩
  · rw [hg1.cellAt i (by omega), List.getElem?_map, hi]; rfl
  · rw [List.length_set, List.map_set]; exact hst.1
  · rcases keym p hp with rfl | ⟨k, hki, hk⟩
    · dsimp only
      rw [List.length_append, List.length_singleton, List.map_append]
      exact row_apart ho hst.2 (fun j hj e => hVg j hj (Option.some.inj e).symm)
    · have hpm := List.mem_of_getElem? hk
      have h1 := row_apart (h.r p hpm) hg (fun j hj e => h.d1 k i p (V, L) hki hk hi j hj e)
      exact row_apart h1 hst.2 (fun j hj e => by have := Option.some.inj e; subst this; exact h.d0 p hpm g hj rfl)
  · rcases keym p hp with rfl | ⟨k, hki, hk⟩
    · exact hVg j hj (Option.some.inj e).symm
    · exact h.d0 p (List.mem_of_getElem? hk) j hj e
  · have hnew : ∀ (k : Nat) (p : Value × List Int), k ≠ i → rs[k]? = some p → ∀ j, p.1.ownBlock = some j → V'.ownBlock ≠ some j := fun k p hki hk j hj e => by
      rcases hat with h1 | h1
      · rw [h1] at e
        exact h.d1 k i p (V, L) hki hk hi j hj e
      · rw [h1] at e
        have := Option.some.inj e
        have := ((h.r p (List.mem_of_getElem? hk)).lt j hj).2
        omega
    rcases key k p hk with ⟨h1, rfl⟩ | ⟨h1, h2⟩
    · rcases key k' p' hk' with ⟨h3, rfl⟩ | ⟨h3, h4⟩
      · omega
      · intro e; exact hnew k' p' h3 h4 j e hj
    · rcases key k' p' hk' with ⟨h3, rfl⟩ | ⟨h3, h4⟩
      · exact hnew k p h1 h2 j hj
      · exact h.d1 k k' p p' hne h2 h4 j hj
end

end Go.Proofs.Ytnngldkpkhabeaa.Rel

namespace Go.Proofs.Ytnngldkpkhabeaa.Rel

open Go.RowKit Go.PlainAid Go.Proofs.Ytnngldkpkhabeaa.Oct Go.Proofs.Ytnngldkpkhabeaa.Flt Go.Proofs.Ytnngldkpkhabeaa.Rdr Go.Proofs.Ytnngldkpkhabeaa.Args Go.Proofs.Ytnngldkpkhabeaa.Win Go.Proofs.Ytnngldkpkhabeaa.Mpv

open Go.Proofs.Ytnngldkpkhabeaa.Pai (P2 PairsAt pairC Wide)

set_option linter.unusedVariables false

set_option linter.unusedSimpArgs false

def exM : Int → Option Int := upd (upd (upd noI 1 1) 2 2) 3 3
def exG : Int → Option Int := upd (upd (upd noI 3 3) 2 1) 1 1
/-- Where a gathering's things lie. -/
structure TD where
  W0 : World
  N : Nat
  s : Nat
  mt : Nat
  mr : Nat
  mm : Nat
  mc : Nat
  mg : Nat
  ob : Option Nat
  P : Nat
  R : Nat
  B : Nat
structure TS (d : TD) (w0 : World) (cp : Nat) (Fp : Int → Option Value) (GV : Value) (rs : List (Value × List Int)) (w : World) : Prop where
  ss : ∃ cg FR FC, SS d.W0 d.N d.s d.mt d.mr d.mm d.mc d.mg 3 cg FR exM FC exG [] d.ob w
  pl : MapV w d.P cp Fp
  rr : ∀ (i : Nat) (z : Int), ([1, 2, 3] : List Int)[i]? = some z → w.cell? ⟨d.R, i, none⟩ = some (.int .i64 z)
  gr : GR d.B GV rs w
  c1 : d.N ≤ d.P ∧ d.P < d.B ∧ d.R < d.B ∧ d.P ≠ d.R ∧ d.B ≤ w.heap.size ∧ w0.heap.size ≤ d.N
  ob : ∀ j, d.ob = some j → j < d.B ∧ j ≠ d.P ∧ j ≠ d.R
  below : Below w0.heap.size w0 w
section

variable {d : TD} {w0 w w' : World} {cp cp' : Nat} {Fp Fp' : Int → Option Value} {GV GV' V' : Value} {rs rs' : List (Value × List Int)}

theorem TS.keep (h : TS d w0 cp Fp GV rs w) (b : Below w.heap.size w w') : TS d w0 cp Fp GV rs w' := by
  obtain ⟨cg, FR, FC, hs⟩ := h.ss
  obtain ⟨a1, a2, a3, a4, a5, a6⟩ := h.c1
  exact ⟨⟨cg, FR, FC, hs.keep b⟩, h.pl.keep b, fun i z hz => (b.cell (Go.block_lt_of_cell (h.rr i z hz))).trans (h.rr i z hz), h.gr.keep b, ⟨a1, a2, a3, a4, Nat.le_trans a5 b.size, a6⟩, h.ob, h.below.trans (b.mono h.below.size)⟩
theorem TS.put (h : TS d w0 cp Fp GV rs w) (hm : MapV w' d.P cp' Fp') (hg : w.grownBy w' (some d.P)) : TS d w0 cp' Fp' GV rs w' := by
  obtain ⟨cg, FR, FC, hs⟩ := h.ss
  obtain ⟨a1, a2, a3, a4, a5, a6⟩ := h.c1
  refine ⟨⟨cg, FR, FC, hs.grownRow hg (fun j hj => ?_)⟩, hm, fun i z hz => hg.cell (h.rr i z hz) (fun e => a4 (Option.some.inj e).symm), h.gr.other hg a2, ⟨a1, a2, a3, a4, Nat.le_trans a5 hg.size, a6⟩, h.ob, ?_⟩
  · have e := Option.some.inj hj
    exact ⟨by omega, fun e2 => (h.ob j e2).2.1 e.symm⟩
  · exact h.below.grown hg h.below.size (fun j hj => by have := Option.some.inj hj; omega)
/-- A row at B and above is changed. -/
theorem TS.rest (h : TS d w0 cp Fp GV rs w) {r : Option Nat} (hg : w.grownBy w' r) (hr : ∀ j, r = some j → d.B ≤ j) (hG : GR d.B GV' rs' w') : TS d w0 cp Fp GV' rs' w' := by
  obtain ⟨cg, FR, FC, hs⟩ := h.ss
  obtain ⟨a1, a2, a3, a4, a5, a6⟩ := h.c1
  refine ⟨⟨cg, FR, FC, hs.grownRow hg (fun j hj => ?_)⟩, h.pl.kept (hg.block _ h.pl.blk (fun e => by have := hr _ e.symm; omega)), fun i z hz => hg.cell (h.rr i z hz) (fun e => by have := hr _ e.symm; dsimp only at this; omega), hG, ⟨a1, a2, a3, a4, Nat.le_trans a5 hg.size, a6⟩, h.ob, ?_⟩
  · have := hr j hj
    exact ⟨by omega, fun e2 => by have := (h.ob j e2).1; omega⟩
  · exact h.below.grown hg h.below.size (fun j hj => by have := hr j hj; omega)
theorem TS.more (h : TS d w0 cp Fp GV rs w) (ho : w'.ownsRow d.B 29 1 GV' (rs.length + 1) (rs.map Prod.fst ++ [.slice none 0 0])) (hg : w.grownBy w' GV.ownBlock) (hat : GV'.ownBlock = GV.ownBlock ∨ GV'.ownBlock = some w.heap.size) : TS d w0 cp Fp GV' (rs ++ [(.slice none 0 0, [])]) w' :=
  h.rest hg (fun j hj => (h.gr.g.lt j hj).1) (h.gr.more ho hg hat)
theorem TS.grown (h : TS d w0 cp Fp GV rs w) {i : Nat} {V : Value} {L : List Int} {x : Int} (hi : rs[i]? = some (V, L)) (ho : w'.ownsRow d.B 3 1 V' (L.length + 1) (L.map (Value.int .i64) ++ [.int .i64 x])) (hg : w.grownBy w' V.ownBlock) (hat : V'.ownBlock = V.ownBlock ∨ V'.ownBlock = some w.heap.size)
    {g cap : Nat} (hG : GV = .slice (some ⟨g, 0, none⟩) rs.length cap) : w'.cell? ⟨g, i, none⟩ = some V ∧ w'.frozen? ⟨g, i, none⟩ = false ∧ TS d w0 cp Fp GV (rs.set i (V', L ++ [x])) (w'.setCell ⟨g, i, none⟩ V') := by
  have hm := List.mem_of_getElem? hi
  obtain ⟨h1, h2, h3, h4, h5⟩ := h.gr.grown hi ho hg hat hG
  obtain ⟨cg, FR, FC, hs⟩ := h.ss
  obtain ⟨a1, a2, a3, a4, a5, a6⟩ := h.c1
  have hV : ∀ j, V.ownBlock = some j → d.B ≤ j := fun j hj => ((h.gr.r _ hm).lt j hj).1
  have hs1 := hs.grownRow hg (fun j hj => ⟨by have := hV j hj; omega, fun e => by have := (h.ob j e).1; have := hV j hj; omega⟩)
  have hs2 := hs1.grownRow h4 (fun j hj => by have e := Option.some.inj hj; exact ⟨by omega, fun e2 => by have := (h.ob j e2).1; omega⟩)
  have hp1 := h.pl.kept (hg.block _ h.pl.blk (fun e => by have := hV _ e.symm; omega))
  have hp2 := hp1.kept (h4.block _ hp1.blk (fun e => by have := Option.some.inj e; omega))
  refine ⟨h1, h2, ⟨cg, FR, FC, hs2⟩, hp2, fun j z hz => ?_, h3, ⟨a1, a2, a3, a4, Nat.le_trans a5 (Nat.le_trans hg.size h4.size), a6⟩, h.ob, ?_⟩
  · have e1 := hg.cell (h.rr j z hz) (fun e => by have := hV _ e.symm; dsimp only at this; omega)
    exact h4.cell e1 (fun e => by have := Option.some.inj e; dsimp only at this; omega)
  · have b1 := h.below.grown hg h.below.size (fun j hj => by have := hV j hj; omega)
    exact b1.grown h4 (Nat.le_trans h.below.size hg.size) (fun j hj => by have := Option.some.inj hj; omega)
end

end Go.Proofs.Ytnngldkpkhabeaa.Rel

namespace Go.Proofs.Ytnngldkpkhabeaa.Rel

open Go.RowKit Go.PlainAid Go.Proofs.Ytnngldkpkhabeaa.Oct Go.Proofs.Ytnngldkpkhabeaa.Flt Go.Proofs.Ytnngldkpkhabeaa.Rdr Go.Proofs.Ytnngldkpkhabeaa.Args Go.Proofs.Ytnngldkpkhabeaa.Win Go.Proofs.Ytnngldkpkhabeaa.Mpv

open Go.Proofs.Ytnngldkpkhabeaa.Pai (P2 PairsAt pairC Wide)

set_option linter.unusedVariables false

set_option linter.unusedSimpArgs false

def exL : List P2 := [⟨1, 2⟩, ⟨2, 1⟩, ⟨2, 3⟩]
theorem infoSl : (Try.prog.info? 29).map (fun i => (i.zero, i.size, i.bytes)) = some (some (.slice none 0 0), 1, 24) := by kernel_rfl
theorem row_form {w : World} {B e n : Nat} {V : Value} {xs : List Value} (h : w.ownsRow B e 1 V (n + 1) xs) : ∃ g c, V = .slice (some ⟨g, 0, none⟩) (n + 1) c ∧ n + 1 ≤ c := by
  rcases h.2 with ⟨_, h0⟩ | ⟨g, cap, cur, e, _, _, h3, _⟩
  · omega
  · exact ⟨g, cap, e, h3⟩
theorem row_ints {w : World} {B g n c : Nat} {L : List Int} (h : w.ownsRow B 3 1 (.slice (some ⟨g, 0, none⟩) n c) n (L.map (Value.int .i64))) (hl : L.length = n) : RowAt w (some ⟨g, 0, none⟩) L := fun j z hz => by
  have hj := (List.getElem?_eq_some_iff.1 hz).1
  refine ⟨_, rfl, ?_⟩
  have e : (Addr.mk g 0 none).add j = ⟨g, j, none⟩ := by cases j <;> simp [Addr.add]
  rw [e, h.cellAt j (by omega), List.getElem?_map, hz]; rfl
/-- The example's rows. -/
theorem ex_rows {w0 W : World} {c : Nat} {F : Int → Option Value} (h : LK w0 exL c F W) : ∃ g1 c1 g2 c2, F 1 = some (.slice (some ⟨g1, 0, none⟩) 1 c1) ∧ F 2 = some (.slice (some ⟨g2, 0, none⟩) 2 c2) ∧ F 3 = none ∧ RowAt W (some ⟨g1, 0, none⟩) [2] ∧ RowAt W (some ⟨g2, 0, none⟩) [1, 3] ∧ 1 ≤ c1 ∧ 2 ≤ c2 := by
  have e1 : tg exL 1 = [2] := rfl
  have e2 : tg exL 2 = [1, 3] := rfl
  have e3 : tg exL 3 = [] := rfl
  cases h1 : F 1 with
  | none => have := h.non 1 h1; rw [e1] at this; cases this
  | some V1 =>
    cases h2 : F 2 with
    | none => have := h.non 2 h2; rw [e2] at this; cases this
    | some V2 =>
      cases h3 : F 3 with
      | some V3 => exact absurd e3 (h.nn 3 V3 h3)
      | none =>
        have r1 := h.row 1 V1 h1
        have r2 := h.row 2 V2 h2
        rw [e1] at r1
        rw [e2] at r2
        obtain ⟨g1, c1, rfl, hc1⟩ := row_form (n := 0) r1
        obtain ⟨g2, c2, rfl, hc2⟩ := row_form (n := 1) r2
        exact ⟨g1, c1, g2, c2, rfl, rfl, rfl, row_ints r1 rfl, row_ints r2 rfl, hc1, hc2⟩
def StrPost (w : World) (e : Ending) (w' : World) : Prop :=
  ∃ (g cap : Nat) (A0 : Option Addr) (c0 h c1 : Nat), e = .returned (.slice (some ⟨g, 0, none⟩) 2 cap) ∧ w'.cell? ⟨g, 0, none⟩ = some (.slice A0 2 c0) ∧ w'.cell? ⟨g, 1, none⟩ = some (.slice (some ⟨h, 0, none⟩) 1 c1) ∧ w'.cell? ⟨h, 0, none⟩ = some (.int .i64 3) ∧ Below w.heap.size w w'
theorem ris_ex : risZ [1, 2, 3] = [1, 2, 3] := by
  have h : sortZ [1, 2, 3] = [1, 2, 3] := List.mergeSort_of_pairwise (by decide)
  unfold risZ
  rw [h]
  rfl
set_option maxRecDepth 8000 in
set_option maxHeartbeats 12800000 in
theorem strong_ex (p q : Nat) (w : World) (hp : PairsAt w (some ⟨p, 0, none⟩) exL) (hq : IntsBelow w.heap.size w (.slice (some ⟨q, 0, none⟩) 3 3) [1, 2, 3]) :
    Calls Try.prog 27 #[.slice (some ⟨p, 0, none⟩) 3 3, .slice (some ⟨q, 0, none⟩) 3 3] w (StrPost w) := by
  obtain ⟨i0, hi, hz0, hz1, hz2⟩ := info_parts infoInt2
  obtain ⟨iS, hiS, hy0, hy1, hy2⟩ := info_parts infoSl
  have HST := Lib.hid (start_any (some ⟨p, 0, none⟩) 3 3 exL w hp (fun x hx => by
    have h : x = ⟨1, 2⟩ ∨ x = ⟨2, 1⟩ ∨ x = ⟨2, 3⟩ := by simpa [exL] using hx
    rcases h with rfl | rfl | rfl <;> exact ⟨⟨by decide, by decide⟩, ⟨by decide, by decide⟩⟩) rfl (by decide))
  have HQ := Lib.hid hq
  have hmm := @run_makeMap Try.prog
  clear hp hq
  go_enter Try.func27, Try.ntmps27
  go_wp2_with fail
  refine HST.out.mono ?_
  rintro e w1 ⟨s, mr, mm, mc, mg, c, F, rfl, hlk, hss, hrb, hge, hb1⟩
  have HLK := Lib.hid hlk
  have HSS := Lib.hid hss
  have HRB := Lib.hid hrb
  have HB1 := Lib.hid hb1
  have HGE := Lib.hid hge
  obtain ⟨N, hN⟩ : ∃ N, w1.heap.size = N := ⟨_, rfl⟩
  rw [hN] at HSS
  have HN := Lib.hid hN
  clear hlk hss hrb hb1 hge HST hN
  go_upto_region 4 with fail
  have hba : Below w1.heap.size w1 (w1.alloc (.map #[] 0)) := (Below.refl _ _).alloc (Nat.le_refl _) _
  have hp2 : MapV (w1.alloc (.map #[] 0)) w1.heap.size 0 (fun _ => none) := map_made w1
  have hsz2 : (w1.alloc (.map #[] 0)).heap.size = w1.heap.size + 1 := by simp
  obtain ⟨w2, hw2⟩ : ∃ W, w1.alloc (.map #[] 0) = W := ⟨_, rfl⟩
  rw [hw2] at hba hp2 hsz2
  rw [hw2, HN.out]
  rw [HN.out] at hp2 hsz2
  have HBA := Lib.hid hba
  have HP2 := Lib.hid hp2
  have HZ2 := Lib.hid hsz2
  have HRI := Lib.hid (rising_any (some ⟨q, 0, none⟩) 3 3 [1, 2, 3] w2 ((HQ.out.below (HB1.out.trans (hba.mono HB1.out.size))).mono (Nat.le_trans HB1.out.size hba.size)) (by decide))
  clear hw2 hba hp2 hsz2
  go_wp2_with fail
  refine HRI.out.mono ?_
  rintro e w3 ⟨RV, rfl, ⟨ho3, -⟩, hb3⟩
  rw [ris_ex] at ho3
  obtain ⟨R, cr, rfl, hcr⟩ := row_form (n := 2) ho3
  have HO3 := Lib.hid ho3
  have HP3 := Lib.hid (HP2.out.keep hb3)
  have HSS3 := Lib.hid ((HSS.out.keep HBA.out).keep hb3)
  have HB3 := Lib.hid ((HB1.out.trans (HBA.out.mono HB1.out.size)).trans (hb3.mono (Nat.le_trans HB1.out.size HBA.out.size)))
  have hR := ho3.lt R rfl
  have HRR : Hid (w2.heap.size ≤ R ∧ R < w3.heap.size) := hR
  obtain ⟨g1, c1, g2, c2, hF1, hF2, hF3, hr1, hr2, hc1, hc2⟩ := ex_rows HLK.out
  have hg1 := HRB.out 1 _ g1 hF1 rfl
  have hg2 := HRB.out 2 _ g2 hF2 rfl
  rw [HN.out] at hg1 hg2
  have HG1 := Lib.hid (group_ex HSS3.out g1 c1 g2 c2 c hF1 hF2 hF3 HLK.out.mp hr1 hr2 hg1 hg2 ⟨hc1, trivial⟩ ⟨hc2, trivial⟩)
  have d0 : w3.cell? ⟨R, 0, none⟩ = some (.int .i64 1) := by rw [ho3.cellAt 0 (by decide)]; rfl
  clear ho3 hb3 hR hF1 hF2 hF3 hr1 hr2 hc1 hc2 hg1 hg2 HRI HQ hcr
  go_wp2_with fail
  refine wp_loop_rounds 4 ?_
  rw [rounds_succ]
  go_wp2_with fail
  refine HG1.out.mono ?_
  rintro e w4 ⟨rfl, ob, cg, FR, FC, hs4, hr4, hob⟩
  have HT0 : Hid (TS ⟨w1, N, s, w.heap.size, mr, mm, mc, mg, ob, N, R, w4.heap.size⟩ w 0 (fun _ => none) (.slice none 0 0) [] w4) := by
    have hz2 := HZ2.out
    have hRR := HRR.out
    have h34 := hr4.size
    have hnn := HN.out
    have hpb := HP3.out.blk
    refine ⟨⟨cg, FR, FC, hs4⟩, HP3.out.kept (hr4.block N (Nat.le_refl _) hpb (by simp)), fun i z hz => ?_, GR.none_ _ _, ⟨Nat.le_refl _, by dsimp only; omega, by dsimp only; omega, by dsimp only; omega, Nat.le_refl _, by have := HB1.out.size; dsimp only; omega⟩, fun j hj => ?_, ?_⟩
    · have hil := (List.getElem?_eq_some_iff.1 hz).1
      have e : w3.cell? ⟨R, i, none⟩ = some (.int .i64 z) := by rw [HO3.out.cellAt i (by simpa using hil), List.getElem?_map, hz]; rfl
      exact (World.cell?_of_block (a := ⟨R, i, none⟩) (hr4.block R (by omega) hRR.2 (by simp))).trans e
    · have h5 := hs4.ob_lt j hj
      rcases hob with h6 | ⟨k, h6, h7⟩
      · rw [h6] at hj; cases hj
      · rw [h6] at hj
        obtain rfl := Option.some.inj hj
        exact ⟨h5, by dsimp only; omega, by dsimp only; omega⟩
    · have h8 := hs4.os
      have hN1 := HB1.out.size
      refine ⟨h8.1.trans HB1.out.os, h8.2.1.trans HB1.out.tape, h8.2.2.1.trans HB1.out.output, by omega, fun k hk => ?_⟩
      have hge := HGE.out
      exact (hs4.still k (by omega) (by omega) (by omega) (by omega) (by omega) (by omega)).trans (HB1.out.block k hk)
  clear hs4 hr4 hob HG1 HSS3 HP3 HO3 d0
  have hlo : (Instr.lookup 59 (.map (some N)) (.int .i64 1) true).run Try.prog w4 = .ok (.tuple #[.int .i64 0, .bool false]) w4 := by
    have h := HT0.out.pl.look_ok Try.underlying59 (zero_int _) 1 (small_i64 1 (by decide))
    simpa using h
  obtain ⟨wu1, hru, hmu, hgu⟩ := HT0.out.pl.put Try.underlying59 1 (small_i64 1 (by decide)) (.int .i64 0) (by decide)
  have HTU1 := Lib.hid (HT0.out.put hmu hgu)
  have HRU1 := Lib.hid hru
  clear hmu hgu hru
  go_upto_region 12 with (first
    | (at_lookup; refine wpList_look _ rfl _ _ 59 true rfl _ _ _ rfl rfl hlo ?_)
    | (at_mapUpdate; refine wpList_upd _ rfl _ _ _ 59 rfl _ _ _ rfl rfl rfl wu1 HRU1.out ?_))
  clear hlo
  have hba : Below wu1.heap.size wu1 (wu1.alloc (.cells #[.slice none 0 0] 29)) := (Below.refl _ _).alloc (Nat.le_refl _) _
  have HTA := Lib.hid (HTU1.out.keep hba)
  have HGA := Lib.hid HTA.out.gr.g
  clear hba
  go_upto_region 13 with (at_builtin; refine wpList_append_own_at _ rfl _ _ 41 rfl w4.heap.size 29 iS (.slice none 0 0) 1 24 Try.underlying41 hiS hy0 hy1 hy2 rfl (by decide) _ 0 _ rfl HGA.out ⟨wu1.heap.size, 0, none⟩ 1 1 [.slice none 0 0] rfl rfl (cell_one_new _ _ _) ?n1c2 ?n1c3 ?n1c4 ?n1c5 ?_)
  case n1c2 => first | rfl | (intro u hu; simp at hu; subst hu; rfl)
  try (case n1c3 => decide)
  try (case n1c4 => decide)
  case n1c5 => have := HTA.out.c1.2.2.2.2.1; first | exact this | (simp at this ⊢; omega)
  intro GV1 wg1 ho hgx _ hat
  obtain ⟨G1, cg1, rfl, hcv⟩ : ∃ g c, GV1 = .slice (some ⟨g, 0, none⟩) 1 c ∧ 1 ≤ c := row_form (n := 0) ho
  have htg : TS _ w _ _ _ [(.slice none 0 0, [])] wg1 := HTA.out.more ho hgx (by first | exact hat | (rw [World.size_alloc]; exact hat))
  have HTG1 := Lib.hid htg
  clear ho hgx hat hcv htg HTA HGA
  have HRK : Hid ((([((.slice none 0 0 : Value), ([] : List Int))] : List (Value × List Int)))[0]? = some (.slice none 0 0, ([] : List Int))) := rfl
  have hcell : wg1.cell? ⟨G1, 0, none⟩ = some (.slice none 0 0) := by rw [HTG1.out.gr.g.cellAt 0 (by decide)]; rfl
  have hbb : Below wg1.heap.size wg1 (wg1.alloc (.cells #[.int .i64 1] 3)) := (Below.refl _ _).alloc (Nat.le_refl _) _
  have HTB := Lib.hid (HTG1.out.keep hbb)
  have HRW := Lib.hid (HTB.out.gr.r _ (List.mem_of_getElem? HRK.out))
  clear hbb
  go_wp2_with (at_builtin; refine wpList_append_own_at _ rfl _ _ 29 rfl w4.heap.size 3 i0 (.int .i64 0) 1 8 Try.underlying29 hi hz0 hz1 hz2 rfl (by decide) _ 0 _ rfl HRW.out ⟨wg1.heap.size, 0, none⟩ 1 1 [.int .i64 1] rfl rfl (cell_one_new _ _ _) ?d1c2 ?d1c3 ?d1c4 ?d1c5 ?_)
  case d1c2 => first | rfl | (intro u hu; simp at hu; subst hu; rfl)
  try (case d1c3 => decide)
  try (case d1c4 => decide)
  case d1c5 => have := HTB.out.c1.2.2.2.2.1; first | exact this | (simp at this ⊢; omega)
  intro V1 wx1 ho hgx _ hat
  obtain ⟨h1, cv1, rfl, hcv⟩ : ∃ g c, V1 = .slice (some ⟨g, 0, none⟩) 1 c ∧ 1 ≤ c := row_form (n := 0) ho
  obtain ⟨hz1c, hz2c, htx⟩ := HTB.out.grown HRK.out (x := 1) ho hgx (by first | exact hat | (rw [World.size_alloc]; exact hat)) rfl
  obtain ⟨y1, hy1⟩ : ∃ W, wx1.setCell ⟨G1, 0, none⟩ (.slice (some ⟨h1, 0, none⟩) 1 cv1) = W := ⟨_, rfl⟩
  rw [hy1] at htx
  have htc : TS _ w _ _ _ [(.slice (some ⟨h1, 0, none⟩) 1 cv1, [1])] y1 := htx
  have HTY1 := Lib.hid htc
  clear ho hgx hat htx htc hcell HTB HRW HRK hcv
  go_wp2_with fail
  try rw [hy1]
  clear hz1c hz2c hy1
  have d1 := HTY1.out.rr 1 2 rfl
  obtain ⟨cgi2, FRi2, FCi2, hsi⟩ := HTY1.out.ss
  have hgm := group_met hsi 2 (small_i64 2 (by decide)) (by decide)
  rw [show (exG 2).getD 0 = 1 from rfl] at hgm
  have HGM2 := Lib.hid hgm
  clear hsi hgm
  rw [rounds_succ]
  go_wp2_with fail
  refine HGM2.out.mono ?_
  rintro e w' ⟨rfl, rfl⟩
  clear HGM2 d1
  have hlo : (Instr.lookup 59 (.map (some N)) (.int .i64 1) true).run Try.prog y1 = .ok (.tuple #[.int .i64 0, .bool true]) y1 := by
    have h := HTY1.out.pl.look_ok Try.underlying59 (zero_int _) 1 (small_i64 1 (by decide))
    simpa using h
  go_upto_region 13 with (at_lookup; refine wpList_look _ rfl _ _ 59 true rfl _ _ _ rfl rfl hlo ?_)
  clear hlo
  have HRK : Hid ((([(.slice (some ⟨h1, 0, none⟩) 1 cv1, [1])] : List (Value × List Int)))[0]? = some (.slice (some ⟨h1, 0, none⟩) 1 cv1, ([1] : List Int))) := rfl
  have hcell : y1.cell? ⟨G1, 0, none⟩ = some (.slice (some ⟨h1, 0, none⟩) 1 cv1) := by rw [HTY1.out.gr.g.cellAt 0 (by decide)]; rfl
  have hbb : Below y1.heap.size y1 (y1.alloc (.cells #[.int .i64 2] 3)) := (Below.refl _ _).alloc (Nat.le_refl _) _
  have HTB := Lib.hid (HTY1.out.keep hbb)
  have HRW := Lib.hid (HTB.out.gr.r _ (List.mem_of_getElem? HRK.out))
  clear hbb
  go_wp2_with (at_builtin; refine wpList_append_own_at _ rfl _ _ 29 rfl w4.heap.size 3 i0 (.int .i64 0) 1 8 Try.underlying29 hi hz0 hz1 hz2 rfl (by decide) _ 1 _ rfl HRW.out ⟨y1.heap.size, 0, none⟩ 1 1 [.int .i64 2] rfl rfl (cell_one_new _ _ _) ?d2c2 ?d2c3 ?d2c4 ?d2c5 ?_)
  case d2c2 => first | rfl | (intro u hu; simp at hu; subst hu; rfl)
  try (case d2c3 => decide)
  try (case d2c4 => decide)
  case d2c5 => have := HTB.out.c1.2.2.2.2.1; first | exact this | (simp at this ⊢; omega)
  intro V2 wx2 ho hgx _ hat
  obtain ⟨h2, cv2, rfl, hcv⟩ : ∃ g c, V2 = .slice (some ⟨g, 0, none⟩) 2 c ∧ 2 ≤ c := row_form (n := 1) ho
  obtain ⟨hz1c, hz2c, htx⟩ := HTB.out.grown HRK.out (x := 2) ho hgx (by first | exact hat | (rw [World.size_alloc]; exact hat)) rfl
  obtain ⟨y2, hy2⟩ : ∃ W, wx2.setCell ⟨G1, 0, none⟩ (.slice (some ⟨h2, 0, none⟩) 2 cv2) = W := ⟨_, rfl⟩
  rw [hy2] at htx
  have htc : TS _ w _ _ _ [(.slice (some ⟨h2, 0, none⟩) 2 cv2, [1, 2])] y2 := htx
  have HTY2 := Lib.hid htc
  clear ho hgx hat htx htc hcell HTB HRW HRK hcv
  go_wp2_with fail
  try rw [hy2]
  clear hz1c hz2c hy2
  have d2 := HTY2.out.rr 2 3 rfl
  obtain ⟨cgi3, FRi3, FCi3, hsi⟩ := HTY2.out.ss
  have hgm := group_met hsi 3 (small_i64 3 (by decide)) (by decide)
  rw [show (exG 3).getD 0 = 3 from rfl] at hgm
  have HGM3 := Lib.hid hgm
  clear hsi hgm
  rw [rounds_succ]
  go_wp2_with fail
  refine HGM3.out.mono ?_
  rintro e w' ⟨rfl, rfl⟩
  clear HGM3 d2
  have hlo : (Instr.lookup 59 (.map (some N)) (.int .i64 3) true).run Try.prog y2 = .ok (.tuple #[.int .i64 0, .bool false]) y2 := by
    have h := HTY2.out.pl.look_ok Try.underlying59 (zero_int _) 3 (small_i64 3 (by decide))
    simpa using h
  obtain ⟨wu3, hru, hmu, hgu⟩ := HTY2.out.pl.put Try.underlying59 3 (small_i64 3 (by decide)) (.int .i64 1) (by decide)
  have HTU3 := Lib.hid (HTY2.out.put hmu hgu)
  have HRU3 := Lib.hid hru
  clear hmu hgu hru
  go_upto_region 12 with (first
    | (at_lookup; refine wpList_look _ rfl _ _ 59 true rfl _ _ _ rfl rfl hlo ?_)
    | (at_mapUpdate; refine wpList_upd _ rfl _ _ _ 59 rfl _ _ _ rfl rfl rfl wu3 HRU3.out ?_))
  clear hlo
  have hba : Below wu3.heap.size wu3 (wu3.alloc (.cells #[.slice none 0 0] 29)) := (Below.refl _ _).alloc (Nat.le_refl _) _
  have HTA := Lib.hid (HTU3.out.keep hba)
  have HGA := Lib.hid HTA.out.gr.g
  clear hba
  go_upto_region 13 with (at_builtin; refine wpList_append_own_at _ rfl _ _ 41 rfl w4.heap.size 29 iS (.slice none 0 0) 1 24 Try.underlying41 hiS hy0 hy1 hy2 rfl (by decide) _ 1 _ rfl HGA.out ⟨wu3.heap.size, 0, none⟩ 1 1 [.slice none 0 0] rfl rfl (cell_one_new _ _ _) ?n3c2 ?n3c3 ?n3c4 ?n3c5 ?_)
  case n3c2 => first | rfl | (intro u hu; simp at hu; subst hu; rfl)
  try (case n3c3 => decide)
  try (case n3c4 => decide)
  case n3c5 => have := HTA.out.c1.2.2.2.2.1; first | exact this | (simp at this ⊢; omega)
  intro GV3 wg3 ho hgx _ hat
  obtain ⟨G3, cg3, rfl, hcv⟩ : ∃ g c, GV3 = .slice (some ⟨g, 0, none⟩) 2 c ∧ 2 ≤ c := row_form (n := 1) ho
  have htg : TS _ w _ _ _ [(.slice (some ⟨h2, 0, none⟩) 2 cv2, [1, 2]), (.slice none 0 0, [])] wg3 := HTA.out.more ho hgx (by first | exact hat | (rw [World.size_alloc]; exact hat))
  have HTG3 := Lib.hid htg
  clear ho hgx hat hcv htg HTA HGA
  have HRK : Hid ((([(.slice (some ⟨h2, 0, none⟩) 2 cv2, [1, 2]), (.slice none 0 0, [])] : List (Value × List Int)))[1]? = some (.slice none 0 0, ([] : List Int))) := rfl
  have hcell : wg3.cell? ⟨G3, 1, none⟩ = some (.slice none 0 0) := by rw [HTG3.out.gr.g.cellAt 1 (by decide)]; rfl
  have hbb : Below wg3.heap.size wg3 (wg3.alloc (.cells #[.int .i64 3] 3)) := (Below.refl _ _).alloc (Nat.le_refl _) _
  have HTB := Lib.hid (HTG3.out.keep hbb)
  have HRW := Lib.hid (HTB.out.gr.r _ (List.mem_of_getElem? HRK.out))
  clear hbb
  go_wp2_with (at_builtin; refine wpList_append_own_at _ rfl _ _ 29 rfl w4.heap.size 3 i0 (.int .i64 0) 1 8 Try.underlying29 hi hz0 hz1 hz2 rfl (by decide) _ 0 _ rfl HRW.out ⟨wg3.heap.size, 0, none⟩ 1 1 [.int .i64 3] rfl rfl (cell_one_new _ _ _) ?d3c2 ?d3c3 ?d3c4 ?d3c5 ?_)
  case d3c2 => first | rfl | (intro u hu; simp at hu; subst hu; rfl)
  try (case d3c3 => decide)
  try (case d3c4 => decide)
  case d3c5 => have := HTB.out.c1.2.2.2.2.1; first | exact this | (simp at this ⊢; omega)
  intro V3 wx3 ho hgx _ hat
  obtain ⟨h3, cv3, rfl, hcv⟩ : ∃ g c, V3 = .slice (some ⟨g, 0, none⟩) 1 c ∧ 1 ≤ c := row_form (n := 0) ho
  obtain ⟨hz1c, hz2c, htx⟩ := HTB.out.grown HRK.out (x := 3) ho hgx (by first | exact hat | (rw [World.size_alloc]; exact hat)) rfl
  obtain ⟨y3, hy3⟩ : ∃ W, wx3.setCell ⟨G3, 1, none⟩ (.slice (some ⟨h3, 0, none⟩) 1 cv3) = W := ⟨_, rfl⟩
  rw [hy3] at htx
  have htc : TS _ w _ _ _ [(.slice (some ⟨h2, 0, none⟩) 2 cv2, [1, 2]), (.slice (some ⟨h3, 0, none⟩) 1 cv3, [3])] y3 := htx
  have HTY3 := Lib.hid htc
  clear ho hgx hat htx htc hcell HTB HRW HRK hcv
  go_wp2_with fail
  try rw [hy3]
  clear hz1c hz2c hy3
  rw [rounds_succ]
  have HGE3 := HTY3.out.gr
  have y0 : y3.cell? ⟨G3, 0, none⟩ = some (.slice (some ⟨h2, 0, none⟩) 2 cv2) := by rw [HGE3.g.cellAt 0 (by decide)]; rfl
  have y1 : y3.cell? ⟨G3, 1, none⟩ = some (.slice (some ⟨h3, 0, none⟩) 1 cv3) := by rw [HGE3.g.cellAt 1 (by decide)]; rfl
  have y2c := HGE3.r (.slice (some ⟨h3, 0, none⟩) 1 cv3, [3]) (List.mem_of_getElem? (i := 1) rfl)
  have y2 : y3.cell? ⟨h3, 0, none⟩ = some (.int .i64 3) := by rw [y2c.cellAt 0 (by decide)]; rfl
  have yb := HTY3.out.below
  have hq : Hid (∃ (g cap : Nat) (A0 : Option Addr) (c0 h c1 : Nat), (.returned (.slice (some ⟨G3, 0, none⟩) 2 cg3) : Ending) = .returned (.slice (some ⟨g, 0, none⟩) 2 cap) ∧ y3.cell? ⟨g, 0, none⟩ = some (.slice A0 2 c0) ∧ y3.cell? ⟨g, 1, none⟩ = some (.slice (some ⟨h, 0, none⟩) 1 c1) ∧ y3.cell? ⟨h, 0, none⟩ = some (.int .i64 3) ∧ Below w.heap.size w y3) := ⟨_, _, _, _, _, _, rfl, y0, y1, y2, yb⟩
  clear y0 y1 y2 yb y2c HGE3
  go_wp2_with fail
  simp [bodyPost, results, Try.results27, go_sem]
  exact hq.out
end Go.Proofs.Ytnngldkpkhabeaa.Rel

namespace Go.Proofs.Ytnngldkpkhabeaa.Rel

open Go.RowKit Go.PlainAid Go.Proofs.Ytnngldkpkhabeaa.Oct Go.Proofs.Ytnngldkpkhabeaa.Flt Go.Proofs.Ytnngldkpkhabeaa.Rdr Go.Proofs.Ytnngldkpkhabeaa.Args Go.Proofs.Ytnngldkpkhabeaa.Win Go.Proofs.Ytnngldkpkhabeaa.Mpv

open Go.Proofs.Ytnngldkpkhabeaa.Pai (P2 PairsAt pairC Wide)

set_option linter.unusedVariables false

set_option linter.unusedSimpArgs false

set_option maxRecDepth 4000 in
theorem awake15 (w : World) : Calls Try.prog 20 #[] w fun e w' => e = .returned (.bool true) ∧ Below w.heap.size w w' := by
  obtain ⟨W, hW⟩ : ∃ W, (w.alloc (.cells #[.int .i64 1, .int .i64 2, .int .i64 2, .int .i64 1, .int .i64 2, .int .i64 3] 24)).alloc (.cells #[.int .i64 1, .int .i64 2, .int .i64 3] 3) = W := ⟨_, rfl⟩
  have hb0 : Below w.heap.size w W := by rw [← hW]; exact two_below w _ _
  have hra : W.heap[w.heap.size]? = some (.cells #[.int .i64 1, .int .i64 2, .int .i64 2, .int .i64 1, .int .i64 2, .int .i64 3] 24 (0, 0)) := by rw [← hW]; exact (heap_alloc_old _ _ (by simp)).trans (heap_alloc_new _ _)
  have hrb : W.heap[w.heap.size + 1]? = some (.cells #[.int .i64 1, .int .i64 2, .int .i64 3] 3 (0, 0)) := by rw [← hW]; have h := heap_alloc_new (w.alloc (.cells #[.int .i64 1, .int .i64 2, .int .i64 2, .int .i64 1, .int .i64 2, .int .i64 3] 24)) (.cells #[.int .i64 1, .int .i64 2, .int .i64 3] 3); simpa using h
  have hacts : PairsAt W (some ⟨w.heap.size, 0, none⟩) exL := by
    intro i x hx
    match i, hx with
    | 0, hx => obtain rfl : (⟨1, 2⟩ : P2) = x := by simpa [exL] using hx
               exact ⟨_, rfl, (cell_of_row _ _ _ _ _ _ hra).trans rfl, (cell_of_row _ _ _ _ _ _ hra).trans rfl⟩
    | 1, hx => obtain rfl : (⟨2, 1⟩ : P2) = x := by simpa [exL] using hx
               exact ⟨_, rfl, (cell_of_row _ _ _ _ _ _ hra).trans rfl, (cell_of_row _ _ _ _ _ _ hra).trans rfl⟩
    | 2, hx => obtain rfl : (⟨2, 3⟩ : P2) = x := by simpa [exL] using hx
               exact ⟨_, rfl, (cell_of_row _ _ _ _ _ _ hra).trans rfl, (cell_of_row _ _ _ _ _ _ hra).trans rfl⟩
    | n + 3, hx => simp [exL] at hx
  have hints : IntsBelow W.heap.size W (.slice (some ⟨w.heap.size + 1, 0, none⟩) 3 3) [1, 2, 3] := by
    refine .inr ⟨⟨w.heap.size + 1, 0, none⟩, 3, rfl, fun _ => lt_of_block hrb, fun j hj => ?_⟩
    have hj3 : j < 3 := hj
    rcases (show j = 0 ∨ j = 1 ∨ j = 2 by omega) with rfl | rfl | rfl <;> exact (cell_of_row _ _ _ _ _ _ hrb).trans rfl
  have HST := Lib.hid (strong_ex w.heap.size (w.heap.size + 1) W hacts hints)
  have HB0 := Lib.hid hb0
  have HWE := Lib.hid hW
  clear hra hrb hacts hints hb0 hW
  go_enter Try.func20, Try.ntmps20
  go_wp2_with fail
  rw [HWE.out]
  refine HST.out.mono ?_
  rintro e w1 ⟨g, cap, A0, c0, h, c1, rfl, x0, x1, x2, hb⟩
  have HB1 := Lib.hid (HB0.out.trans (hb.mono HB0.out.size))
  clear hb
  go_wp2
  go_ret
  exact ⟨rfl, HB1.out⟩
end Go.Proofs.Ytnngldkpkhabeaa.Rel
