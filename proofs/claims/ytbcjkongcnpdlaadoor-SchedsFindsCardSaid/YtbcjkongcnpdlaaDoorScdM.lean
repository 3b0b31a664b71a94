
/- Schedules that came in, rows of schedules of a call's own, and which are too long. Condition: none. The chapter's example of schedules. Condition: the variables hold what the program lays there. -/

import Derived.Test.YtbcjkongcnpdlaaDoorScdA

import Derived.Test.YtbcjkongcnpdlaaDoorScdI

import Derived.Test.YtbcjkongcnpdlaaDoorArgs

import Derived.Test.YtbcjkongcnpdlaaDoorPrtL

namespace Go.Proofs.YtbcjkongcnpdlaaDoor.Scd

open Go.RowKit Go.PlainAid Go.Proofs.YtbcjkongcnpdlaaDoor.Oct Go.Proofs.YtbcjkongcnpdlaaDoor.Flt Go.Proofs.YtbcjkongcnpdlaaDoor.Rdr Go.Proofs.YtbcjkongcnpdlaaDoor.Act Go.Proofs.YtbcjkongcnpdlaaDoor.Args

set_option linter.unusedVariables false

set_option linter.unusedSimpArgs false

theorem rows3_of {w : World} {a : Option Addr} {len cap : Nat} (h : IsRecs w a len cap [.int .i64, .int .i64, .int .i64]) : ∃ l : List A3, l.length = len ∧ ActsAt w a l ∧ (∀ x ∈ l, Wide x) ∧ (a = none → cap = 0) ∧ len ≤ cap ∧ cap ≤ maxLen := by
  obtain ⟨l, h1, h2, h3, h4, h5⟩ := acts_of h
  refine ⟨l, h1, h2, h3, ?_, h4, h5⟩
  rcases h with ⟨rfl, rfl, rfl⟩ | ⟨y, rfl, _⟩
  · exact fun _ => rfl
  · exact fun h => by cases h
theorem scheds_of {w : World} {a : Option Addr} {len cap : Nat} (h : IsRows w a len cap [.one (.int .i64), .one (.int .i64), .recs [.int .i64, .int .i64, .int .i64], .recs [.int .i64, .int .i64, .int .i64]]) : ∃ l : List SC, l.length = len ∧ ScdAt w a l ∧ (∀ x ∈ l, WideS x) ∧ len ≤ cap ∧ cap ≤ maxLen := by
  rcases h with ⟨rfl, rfl, rfl⟩ | ⟨y, rfl, hlc, hcm, hcell⟩
  · exact ⟨[], rfl, fun i x hx => by simp at hx, by simp, Nat.le_refl _, Nat.zero_le _⟩
  · obtain ⟨l, hl, hp⟩ := list_of (fun i (x : SC) => (∃ B cb C cc, w.cell? (y.add (i * 4)) = some (.int .i64 x.id) ∧ w.cell? ⟨(y.add (i * 4)).block, (y.add (i * 4)).off + 1, none⟩ = some (.int .i64 x.fr) ∧ w.cell? ⟨(y.add (i * 4)).block, (y.add (i * 4)).off + 2, none⟩ = some (.slice B x.ws.length cb) ∧ w.cell? ⟨(y.add (i * 4)).block, (y.add (i * 4)).off + 3, none⟩ = some (.slice C x.ns.length cc) ∧
        ActsAt w B x.ws ∧ (B = none → cb = 0) ∧ x.ws.length ≤ cb ∧ cb ≤ maxLen ∧ ActsAt w C x.ns ∧ (C = none → cc = 0) ∧ x.ns.length ≤ cc ∧ cc ≤ maxLen) ∧ WideS x) len (by
      intro i hi
      obtain ⟨_, c0, s, rfl, hs⟩ := hcell i hi 0 _ rfl
      obtain ⟨_, c1, f, rfl, hf⟩ := hcell i hi 1 _ rfl
      obtain ⟨_, c2, B, bl, bc, rfl, hr⟩ := hcell i hi 2 _ rfl
      obtain ⟨_, c3, C, cl, cc, rfl, hr2⟩ := hcell i hi 3 _ rfl
      obtain ⟨ws, w1, w2, w3, w4, w5, w6⟩ := rows3_of hr
      obtain ⟨ns, n1, n2, n3, n4, n5, n6⟩ := rows3_of hr2
      subst w1 n1
      exact ⟨⟨s, f, ws, ns⟩, ⟨B, bc, C, cc, c0, c1, c2, c3, w2, w4, w5, w6, n2, n4, n5, n6⟩, bounds_i64 hs, w3, n3⟩)
    refine ⟨l, hl, fun i x hx => ?_, fun x hx => ?_, hlc, hcm⟩
    · obtain ⟨⟨B, cb, C, cc, h⟩, _⟩ := hp i x hx
      exact ⟨y, B, cb, C, cc, rfl, h⟩
    · obtain ⟨i, hi, rfl⟩ := List.mem_iff_getElem.1 hx
      exact (hp i _ (List.getElem?_eq_getElem hi)).2
theorem own_at3 {w : World} {T : TypeId} {B : Nat} {V : Value} {l : List A3} (h : w.ownsRow B T 3 V l.length (flatA l)) : ∃ A c, V = .slice A l.length c ∧ ActsAt w A l ∧ (A = none → c = 0) ∧ l.length ≤ c ∧ c ≤ maxLen := by
  rcases h.2 with ⟨rfl, h0⟩ | ⟨g, c, cur, rfl, hg1, hg2, hg3, hg4, hg5⟩
  · have : l = [] := List.length_eq_zero_iff.1 h0
    subst this
    exact ⟨none, 0, rfl, fun i x hx => by simp at hx, fun _ => rfl, Nat.le_refl _, Nat.zero_le _⟩
  · refine ⟨_, c, rfl, fun i x hx => ⟨_, rfl, ?_⟩, (fun h => by cases h), hg3, hg4⟩
    have hi : i < l.length := (List.getElem?_eq_some_iff.1 hx).1
    rw [Prt.add_at]
    refine ⟨?_, ?_, ?_⟩
    · rw [h.cellAt (i * 3) (by omega)]
      exact flatA_get l i x 0 hx (by omega)
    · show w.cell? ⟨g, i * 3 + 1, none⟩ = _
      rw [h.cellAt (i * 3 + 1) (by omega)]
      exact flatA_get l i x 1 hx (by omega)
    · show w.cell? ⟨g, i * 3 + 2, none⟩ = _
      rw [h.cellAt (i * 3 + 2) (by omega)]
      exact flatA_get l i x 2 hx (by omega)
theorem flatS_get (L : List (SC × Value × Value)) : ∀ (i : Nat) (q : SC × Value × Value) (j : Nat), L[i]? = some q → j < 4 → (flatS L)[i * 4 + j]? = (scL q)[j]? := by
  induction L with
  | nil => intro i x j h; simp at h
  | cons y l ih =>
    intro i x j h hj
    have e : flatS (y :: l) = scL y ++ flatS l := rfl
    have ely : (scL y).length = 4 := rfl
    cases i with
    | zero =>
      obtain rfl : y = x := by simpa using h
      rw [e, Nat.zero_mul, Nat.zero_add, List.getElem?_append_left (by omega)]
    | succ i =>
      have hx : l[i]? = some x := by simpa using h
      rw [e, List.getElem?_append_right (by omega), ← ih i x j hx hj, ely]
      congr 1
      omega
theorem srows_at {B : Nat} {L : List (SC × Value × Value)} {V : Value} {W : World} (h : W.ownsRow B 51 4 V L.length (flatS L)) (hW : ∀ q ∈ L, ∃ B2, W.ownsRow B2 59 3 q.2.1 q.1.ws.length (flatA q.1.ws)) (hN : ∀ q ∈ L, ∃ B2, W.ownsRow B2 68 3 q.2.2 q.1.ns.length (flatA q.1.ns)) :
    ∃ A c, V = .slice A (L.map Prod.fst).length c ∧ ScdAt W A (L.map Prod.fst) ∧ (A = none → c = 0) := by
  rw [List.length_map]
  rcases h.2 with ⟨hv, h0⟩ | ⟨b, c, cur, hv, _⟩
  · have : L = [] := List.length_eq_zero_iff.1 h0
    subst this
    exact ⟨none, 0, hv, (fun i x hx => by simp at hx), fun _ => rfl⟩
  · refine ⟨_, c, hv, (fun i x hx => ?_), fun h => by cases h⟩
    rw [hv] at h
    rw [List.getElem?_map] at hx
    obtain ⟨q, hq, rfl⟩ := Option.map_eq_some_iff.1 hx
    have hi : i < L.length := (List.getElem?_eq_some_iff.1 hq).1
    obtain ⟨_, hw⟩ := hW q (List.mem_of_getElem? hq)
    obtain ⟨_, hn⟩ := hN q (List.mem_of_getElem? hq)
    obtain ⟨A, c2, hV2, h5⟩ := own_at3 hw
    obtain ⟨C, c3, hV3, h6⟩ := own_at3 hn
    refine ⟨_, A, c2, C, c3, rfl, ?_, ?_, ?_, ?_, h5.1, h5.2.1, h5.2.2.1, h5.2.2.2, h6⟩
    all_goals rw [Prt.add_at]
    · rw [h.cellAt (i * 4) (by omega)]
      exact flatS_get L i q 0 hq (by omega)
    · show W.cell? ⟨b, i * 4 + 1, none⟩ = _
      rw [h.cellAt (i * 4 + 1) (by omega)]
      exact flatS_get L i q 1 hq (by omega)
    · show W.cell? ⟨b, i * 4 + 2, none⟩ = _
      rw [h.cellAt (i * 4 + 2) (by omega), flatS_get L i q 2 hq (by omega), ← hV2]
      rfl
    · show W.cell? ⟨b, i * 4 + 3, none⟩ = _
      rw [h.cellAt (i * 4 + 3) (by omega), flatS_get L i q 3 hq (by omega), ← hV3]
      rfl
theorem RP.at {g : Nat} {t : St} {L : List (SC × Value × Value)} {V : Value} {w W : World} (f : RP g t L V w W) : ∃ A c, V = .slice A (L.map Prod.fst).length c ∧ ScdAt W A (L.map Prod.fst) ∧ (A = none → c = 0) :=
  srows_at f.own (fun q hq => ⟨_, f.subW q hq⟩) (fun q hq => ⟨_, f.subN q hq⟩)
/-- Not too long. -/
def ShortS (l : List SC) : Prop := l.length ≤ 20 ∧ ∀ x ∈ l, x.ws.length ≤ 300 ∧ x.ns.length ≤ 60
def LPost (l : List SC) (w : World) (e : Ending) (w' : World) : Prop := ∃ b, e = .returned (.bool b) ∧ (b = false → ShortS l) ∧ Below w.heap.size w w'
def LRel (l : List SC) (w : World) (i : Value) (wr : World) : Prop := ∃ k : Nat, k ≤ l.length ∧ i = .int .i64 k ∧ (∀ j x, j < k → l[j]? = some x → x.ws.length ≤ 300 ∧ x.ns.length ≤ 60) ∧ Below w.heap.size w wr
set_option maxRecDepth 8000 in
set_option maxHeartbeats 3200000 in
theorem long_any (A : Option Addr) (cap : Nat) (l : List SC) (w : World) (h1 : ScdAt w A l) (hl : l.length ≤ maxLen) :
    Calls Tryd.prog 6 #[.slice A l.length cap] w (LPost l w) := by
  have H1 := Lib.hid h1
  unfold maxLen at hl
  obtain ⟨a, ha⟩ : ∃ a, l.length = a := ⟨_, rfl⟩
  have HA := Lib.hid ha
  rw [ha] at hl
  rw [ha]
  clear h1 ha
  go_enter Tryd.func6, Tryd.ntmps6
  go_wp2
  go_loopw [7] (fun i wr => LRel l w i wr) (fun i _ => a - (intOf i).toNat)
  case atStart => exact ⟨0, Nat.zero_le _, rfl, fun j x hj => by omega, Below.refl _ _⟩
  case round =>
    obtain ⟨k, hk, rfl, hb, hbel⟩ := hrel
    have HB := Lib.hid hb
    have HE := Lib.hid hbel
    have hka : k ≤ a := by rw [← HA.out]; exact hk
    clear hb hk hbel
    by_cases hlt : k < a
    · obtain ⟨x, hx⟩ : ∃ x, l[k]? = some x := ⟨_, List.getElem?_eq_getElem (by rw [HA.out]; exact hlt)⟩
      obtain ⟨ax, B, cb, C, cc, rfl, c1, c2, c3, c4, _, _, b6, b7, _, _, b8, b9⟩ := (H1.out.kept HE.out) k x hx
      have HX := Lib.hid hx
      have hki : (0 : Int) ≤ k := by omega
      have hkb : (k : Int) < a := by omega
      have HBA : Hid (∀ o, Below w.heap.size w (wr.alloc o)) := fun o => HE.out.alloc HE.out.size o
      have HBB : Hid (∀ cs, Below w.heap.size w ((wr.alloc (.cells #[.int .i64 0, .int .i64 0, .slice none 0 0, .slice none 0 0] 51)).setRow wr.heap.size cs)) := fun cs => Hdr.below_set2 (HBA.out _) HE.out.size
      obtain ⟨id, fr, ws, ns⟩ := x
      dsimp only at c1 c2 c3 c4 b6 b8
      unfold maxLen at b7 b9
      obtain ⟨L1, hL1⟩ : ∃ L1, ws.length = L1 := ⟨_, rfl⟩
      obtain ⟨L2, hL2⟩ : ∃ L2, ns.length = L2 := ⟨_, rfl⟩
      have HL1 := Lib.hid hL1
      have HL2 := Lib.hid hL2
      rw [hL1] at c3 b6
      rw [hL2] at c4 b8
      clear hx hL1 hL2
      by_cases hn : 300 < L1
      · have t1 : decide (300 < (L1 : Int)) = true := decide_eq_true (by omega)
        go_wp2
        go_ret
        exact ⟨true, rfl, fun h => (by cases h), HBA.out _⟩
      · have t1 : decide (300 < (L1 : Int)) = false := decide_eq_false (by omega)
        by_cases hc : 60 < L2
        · have t2 : decide (60 < (L2 : Int)) = true := decide_eq_true (by omega)
          go_wp2
          go_ret
          exact ⟨true, rfl, fun h => (by cases h), HBA.out _⟩
        · have t2 : decide (60 < (L2 : Int)) = false := decide_eq_false (by omega)
          go_wp2
          go_roundw
          case rel => exact ⟨k + 1, by rw [HA.out]; omega, by go_num, fun j x hj hx => by
            by_cases hjk : j = k
            · subst hjk
              rw [HX.out] at hx
              obtain rfl := Option.some.inj hx
              exact ⟨by show ws.length ≤ 300; rw [HL1.out]; omega, by show ns.length ≤ 60; rw [HL2.out]; omega⟩
            · exact HB.out j x (by omega) hx, HBA.out _⟩
          case measure => simp [intOf]; omega
    · obtain rfl : k = a := by omega
      have HS : Hid (∀ x ∈ l, x.ws.length ≤ 300 ∧ x.ns.length ≤ 60) := fun x hx => by
        obtain ⟨i, hi, rfl⟩ := List.mem_iff_getElem.1 hx
        exact HB.out i _ (by rw [← HA.out]; exact hi) (List.getElem?_eq_getElem hi)
      by_cases hc : 20 < k
      · have t2 : decide (20 < (k : Int)) = true := decide_eq_true (by omega)
        go_wp2
        go_ret
        exact ⟨true, rfl, fun h => (by cases h), HE.out⟩
      · have t2 : decide (20 < (k : Int)) = false := decide_eq_false (by omega)
        go_wp2
        go_ret
        exact ⟨false, rfl, fun _ => ⟨by rw [HA.out]; omega, HS.out⟩, HE.out⟩
end Go.Proofs.YtbcjkongcnpdlaaDoor.Scd

namespace Go.Proofs.YtbcjkongcnpdlaaDoor.Scd

open Go.RowKit Go.PlainAid Go.Proofs.YtbcjkongcnpdlaaDoor.Oct Go.Proofs.YtbcjkongcnpdlaaDoor.Flt Go.Proofs.YtbcjkongcnpdlaaDoor.Rdr Go.Proofs.YtbcjkongcnpdlaaDoor.Act Go.Proofs.YtbcjkongcnpdlaaDoor.Args

set_option linter.unusedVariables false

set_option linter.unusedSimpArgs false

def sN : SC := ⟨0, 10, [⟨3, 0, 4⟩], []⟩
theorem sN_bad : (badS [sN]).1 = 0 := by decide +kernel
theorem sN_text : strOfNums ([] ++ textS [sN]) = ⟨#[0, 0, 0, 0, 10, 0, 1, 3, 0, 0, 0, 0, 0, 0, 0, 4, 0]⟩ := by decide +kernel
set_option maxRecDepth 4000 in
theorem awake_any (w : World) (hn : Names w) :
    Calls Tryd.prog 7 #[] w fun e w' => e = .returned (.bool true) ∧ Below w.heap.size w w' := by
  have hb0 : Below w.heap.size w (w.alloc (.cells #[.int .i64 3, .int .i64 0, .int .i64 4] 59)) := (Below.refl _ _).alloc (Nat.le_refl _) _
  have hb1 := hb0.alloc hb0.size (.cells #[.int .i64 0, .int .i64 10, .slice (some ⟨w.heap.size, 0, none⟩) 1 1, .slice none 0 0] 51)
  have hrow0 := (heap_alloc_old (w.alloc (.cells #[.int .i64 3, .int .i64 0, .int .i64 4] 59)) (.cells #[.int .i64 0, .int .i64 10, .slice (some ⟨w.heap.size, 0, none⟩) 1 1, .slice none 0 0] 51) (by simp : w.heap.size < _)).trans (heap_alloc_new w (.cells #[.int .i64 3, .int .i64 0, .int .i64 4] 59))
  have hrow := Hdr.second_new w (.cells #[.int .i64 3, .int .i64 0, .int .i64 4] 59) (.cells #[.int .i64 0, .int .i64 10, .slice (some ⟨w.heap.size, 0, none⟩) 1 1, .slice none 0 0] 51)
  have hpa : ScdAt ((w.alloc (.cells #[.int .i64 3, .int .i64 0, .int .i64 4] 59)).alloc (.cells #[.int .i64 0, .int .i64 10, .slice (some ⟨w.heap.size, 0, none⟩) 1 1, .slice none 0 0] 51)) (some ⟨w.heap.size + 1, 0, none⟩) [sN] := by
    intro i x hx
    cases i with
    | succ i => simp at hx
    | zero =>
      obtain rfl : sN = x := by simpa using hx
      refine ⟨_, some ⟨w.heap.size, 0, none⟩, 1, none, 0, rfl, ?_, ?_, ?_, ?_, ?_, fun h => (by cases h), Nat.le_refl _, by unfold maxLen; omega, (fun i x hx => by simp [sN] at hx), fun _ => rfl, Nat.le_refl _, by unfold maxLen; omega⟩
      case refine_5 =>
        intro i x hx
        cases i with
        | succ i => simp [sN] at hx
        | zero =>
          obtain rfl : (⟨3, 0, 4⟩ : A3) = x := by simpa [sN] using hx
          refine ⟨_, rfl, ?_, ?_, ?_⟩
          all_goals
            rw [show (Addr.mk w.heap.size 0 none).add (0 * 3) = ⟨w.heap.size, 0, none⟩ by simp [Addr.add], cell_of_row _ _ _ _ _ _ hrow0]
            rfl
      all_goals
        rw [show (Addr.mk (w.heap.size + 1) 0 none).add (0 * 4) = ⟨w.heap.size + 1, 0, none⟩ by simp [Addr.add], cell_of_row _ _ _ _ _ _ hrow]
        rfl
  have HP := Lib.hid (sput_yes [sN] (some ⟨w.heap.size + 1, 0, none⟩) 1 none 0 0 [] _ sN_bad (hn.kept hb1) hpa (fun x hx => by
    obtain rfl : x = sN := by simpa using hx
    refine ⟨?_, fun y hy => ?_, fun y hy => (by simp [sN] at hy)⟩
    · show -9223372036854775808 ≤ (0 : Int) ∧ (0 : Int) ≤ 9223372036854775807; omega
    · obtain rfl : y = ⟨3, 0, 4⟩ := by simpa [sN] using hy
      exact ⟨by show -9223372036854775808 ≤ (3 : Int) ∧ (3 : Int) ≤ 9223372036854775807; omega, by show -9223372036854775808 ≤ (0 : Int) ∧ (0 : Int) ≤ 9223372036854775807; omega, by show -9223372036854775808 ≤ (4 : Int) ∧ (4 : Int) ≤ 9223372036854775807; omega⟩) (by show 1 ≤ 1000; omega) ⟨rfl, fun h => absurd h (by omega)⟩ (fun _ => ⟨rfl, rfl⟩) (by omega))
  have HB1 := Lib.hid hb1
  clear hn hb0 hb1 hrow0 hrow hpa
  go_enter Tryd.func7, Tryd.ntmps7
  go_wp2_with fail
  refine HP.out.mono ?_
  rintro e w2 ⟨V, n, rfl, ho, hb2⟩
  have hcv := Nam.conv_owns ho
  rw [sN_text] at hcv
  have HB2 := Lib.hid (HB1.out.trans (hb2.mono HB1.out.size))
  clear ho hb2
  go_wp2
  go_ret
  exact ⟨rfl, HB2.out⟩
end Go.Proofs.YtbcjkongcnpdlaaDoor.Scd
