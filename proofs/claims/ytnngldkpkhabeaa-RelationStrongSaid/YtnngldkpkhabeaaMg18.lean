/- Pairs that rise: where those from an id stand, and these (slices.BinarySearchFunc, package pairs' leaving). Condition: at most a million pairs. -/
import Derived.Test.YtnngldkpkhabeaaMg17
namespace Go.Proofs.Ytnngldkpkhabeaa.Pai

open Go.RowKit Go.PlainAid

set_option linter.unusedVariables false

set_option linter.unusedSimpArgs false

/-- Pairs lie at a block's beginning. -/
def PAt (w : World) (A : Option Addr) (L : List P2) : Prop := ∀ k x, L[k]? = some x → ∃ g, A = some ⟨g, 0, none⟩ ∧ w.cell? ⟨g, k * 2, none⟩ = some (.int .i64 x.f) ∧ w.cell? ⟨g, k * 2 + 1, none⟩ = some (.int .i64 x.t)
theorem PAt.kept {w w' : World} {A : Option Addr} {L : List P2} (h : PAt w A L) (b : Below w.heap.size w w') : PAt w' A L := fun k x hx => by
  obtain ⟨g, e, c0, c1⟩ := h k x hx
  exact ⟨g, e, (b.cell (Go.block_lt_of_cell c0)).trans c0, (b.cell (Go.block_lt_of_cell c1)).trans c1⟩
theorem OwnP.at_ {B n c : Nat} {A : Option Addr} {C : List P2} {W : World} (h : OwnP B A n c C W) : PAt W A C := fun k x hx => by
  rcases h.2.2.2 with ⟨_, h0, _⟩ | ⟨g, tl, rfl, _, hr⟩
  · have := (List.getElem?_eq_some_iff.1 hx).1
    have := h.1
    omega
  · exact ⟨g, rfl, hr.cells hx⟩
theorem OwnP.nil_ {B n c : Nat} {A : Option Addr} {C : List P2} {W : World} (h : OwnP B A n c C W) : A = none → c = 0 := fun e => by
  rcases h.2.2.2 with ⟨_, _, h0⟩ | ⟨g, tl, h1, _, _⟩
  · exact h0
  · rw [e] at h1; cases h1
theorem OwnP.zero {B n c : Nat} {A : Option Addr} {C : List P2} {W : World} (h : OwnP B A n c C W) : ∀ y, A = some y → ∃ g, y = ⟨g, 0, none⟩ := fun y e => by
  rcases h.2.2.2 with ⟨h1, _, h0⟩ | ⟨g, tl, h1, _, _⟩
  · rw [e] at h1; cases h1
  · rw [e] at h1; exact ⟨g, Option.some.inj h1⟩
/-- Pairs lie at an address within a block. -/
def SAt (w : World) (A : Option Addr) (R : List P2) : Prop := ∀ k x, R[k]? = some x → ∃ g o, A = some ⟨g, o, none⟩ ∧ w.cell? ⟨g, o + k * 2, none⟩ = some (.int .i64 x.f) ∧ w.cell? ⟨g, o + k * 2 + 1, none⟩ = some (.int .i64 x.t)
theorem SAt.kept {w w' : World} {A : Option Addr} {L : List P2} (h : SAt w A L) (b : Below w.heap.size w w') : SAt w' A L := fun k x hx => by
  obtain ⟨g, o, e, c0, c1⟩ := h k x hx
  exact ⟨g, o, e, (b.cell (Go.block_lt_of_cell c0)).trans c0, (b.cell (Go.block_lt_of_cell c1)).trans c1⟩
theorem PAt.s {w : World} {A : Option Addr} {L : List P2} (h : PAt w A L) : SAt w A L := fun k x hx => by
  obtain ⟨g, e, c0, c1⟩ := h k x hx
  refine ⟨g, 0, e, ?_, ?_⟩
  · rw [Nat.zero_add]; exact c0
  · rw [Nat.zero_add]; exact c1
set_option maxRecDepth 8000 in
/-- A slice of pairs from the place i on, up to j. -/
theorem run_cut (A : Option Addr) (n c i j : Nat) (hij : i ≤ j) (hj : j ≤ n) (hn : n ≤ c) (hnil : A = none → c = 0) (hz : ∀ y, A = some y → ∃ g o, y = ⟨g, o, none⟩) (I J : Int) (hI : I = (i : Int)) (hJ : J = (j : Int)) :
    ∃ A' c', (∀ W : World, (Instr.slice 22 (.slice A n c) (some (.int .i64 I)) (some (.int .i64 J)) none).run Try.prog W = .ok (.slice A' (j - i) c') W) ∧ j - i ≤ c' ∧ (A' = none → c' = 0) ∧ (∀ y, A' = some y → ∃ g o, y = ⟨g, o, none⟩) ∧ ∀ (w : World) (R : List P2), R.length = n → SAt w A R → SAt w A' ((R.drop i).take (j - i)) := by
  subst hI hJ
  by_cases hc : c - i = 0
  · have e0 : j - i = 0 := by omega
    refine ⟨A, 0, fun W => ?_, by omega, fun _ => rfl, hz, fun w R hR h k x hx => ?_⟩
    · rw [run_slice_lh (P := Try.prog) W 22 A n c rfl .i64 .i64 (i : Int) (j : Int) (by omega) (by omega) (by omega)]
      have e1 : c - i = 0 := hc
      have e2 : j - i = 0 := e0
      cases A <;> go_simp <;> simp_all [sliced]
      all_goals (intro h; exact absurd (by omega) h)
    · rw [e0] at hx; simp at hx
  · cases hA : A with
    | none => have := hnil hA; omega
    | some y =>
      obtain ⟨g, o, rfl⟩ := hz y hA
      refine ⟨some ⟨g, o + i * 2, none⟩, c - i, fun W => ?_, by omega, fun h => by simp at h, fun y h => ⟨g, o + i * 2, (Option.some.inj h).symm⟩, fun w R hR h k x hx => ?_⟩
      · rw [run_slice_lh (P := Try.prog) W 22 (some ⟨g, o, none⟩) n c rfl .i64 .i64 (i : Int) (j : Int) (by omega) (by omega) (by omega)]
        have e1 : ¬ c - i = 0 := hc
        go_simp
        try (unfold Addr.add; split <;> simp_all)
        all_goals (intro h; exact absurd h (by omega))
      · have hk : k < j - i := by
          have := (List.getElem?_eq_some_iff.1 hx).1
          simp at this; omega
        rw [List.getElem?_take_of_lt hk, List.getElem?_drop] at hx
        obtain ⟨g', o', e, c0, c1⟩ := h (i + k) x hx
        obtain ⟨rfl, rfl⟩ : g = g' ∧ o = o' := by
          have := Option.some.inj e
          simp at this; exact this
        refine ⟨g, o + i * 2, rfl, ?_, ?_⟩
        · rw [show o + i * 2 + k * 2 = o + (i + k) * 2 by omega]; exact c0
        · rw [show o + i * 2 + k * 2 = o + (i + k) * 2 by omega]; exact c1
set_option maxRecDepth 8000 in
/-- From the place i on. -/
theorem run_tail (A : Option Addr) (n c i : Nat) (hi : i ≤ n) (hn : n ≤ c) (hnil : A = none → c = 0) (hz : ∀ y, A = some y → ∃ g o, y = ⟨g, o, none⟩) (I : Int) (hI : I = (i : Int)) :
    ∃ A' c', (∀ W : World, (Instr.slice 22 (.slice A n c) (some (.int .i64 I)) none none).run Try.prog W = .ok (.slice A' (n - i) c') W) ∧ n - i ≤ c' ∧ (A' = none → c' = 0) ∧ (∀ y, A' = some y → ∃ g o, y = ⟨g, o, none⟩) ∧ ∀ (w : World) (R : List P2), R.length = n → SAt w A R → SAt w A' (R.drop i) := by
  obtain ⟨A', c', h1, h2, h3, h4, h5⟩ := run_cut A n c i n hi (Nat.le_refl _) hn hnil hz I n hI rfl
  refine ⟨A', c', fun W => ?_, h2, h3, h4, fun w R hR h => ?_⟩
  · rw [← h1 W, run_slice_lh (P := Try.prog) W 22 A n c rfl .i64 .i64 I (n : Int) (by omega) (by omega) (by omega), run_slice_l (P := Try.prog) W 22 A n c rfl .i64 I (by omega) (by omega)]
    simp
  · have := h5 w R hR h
    rwa [List.take_of_length_le (by rw [List.length_drop]; omega)] at this
theorem half_factsP {u v : Nat} (h : u + v ≤ 4000000) : IntKind.i64.wrap ((u : Int) + (v : Int)) = ((u + v : Nat) : Int) ∧ IntKind.u64.wrap (((u + v : Nat) : Nat) : Int) = ((u + v : Nat) : Int) := by
  constructor
  · rw [Int.natCast_add]; exact IntWalk.i64_in _ (by omega)
  · rw [IntKind.wrap_u64]; omega
/-- The place i: below it all stand ahead of the id, from it on none does. -/
def AtF (L : List P2) (v : Int) (i : Nat) : Prop := i ≤ L.length ∧ (∀ y, 0 < i → L[i - 1]? = some y → y.f < v) ∧ (∀ y, L[i]? = some y → v ≤ y.f)
def BiRel (L : List P2) (v : Int) (w : World) (i j : Value) (W : World) : Prop :=
  ∃ (p q : Nat), p ≤ q ∧ q ≤ L.length ∧ i = .int .i64 (p : Int) ∧ j = .int .i64 (q : Int) ∧ (∀ y, 0 < p → L[p - 1]? = some y → y.f < v) ∧ (∀ y, L[q]? = some y → v ≤ y.f) ∧ Below w.heap.size w W
theorem compareInt_lt (a b : Int) : Lib.compareInt a b < 0 ↔ a < b := by
  unfold Lib.compareInt
  repeat' split
  all_goals omega
set_option maxRecDepth 8000 in
set_option maxHeartbeats 3200000 in
theorem searchP_any (A : Option Addr) (n cap : Nat) (L : List P2) (v : Int) (w : World) (hr : PAt w A L) (hn : L.length = n) (hl : n ≤ 1000000) :
    Calls Try.prog 55 #[.slice A n cap, .int .i64 v, leavV] w fun e w' => ∃ (i : Nat) (b : Bool), e = .returned (.tuple #[.int .i64 (i : Int), .bool b]) ∧ AtF L v i ∧ Below w.heap.size w w' := by
  have HR := Lib.hid hr
  have HN : Hid (L.length = n ∧ n ≤ 1000000) := ⟨hn, hl⟩
  have HST : Hid (∀ x : Nat, x = 0 → BiRel L v w (.int .i64 (x : Int)) (.int .i64 (n : Int)) w) := fun x hx => ⟨x, n, by omega, by omega, rfl, rfl, fun y h _ => by omega, fun y h => (by rw [List.getElem?_eq_none (by omega)] at h; cases h), Below.refl _ _⟩
  unfold leavV
  clear hr hn hl
  go_enter Try.func55, Try.ntmps55
  go_wp2_with fail
  go_loopw [9, 10] (fun i j W => BiRel L v w i j W) (fun i j _ => (intOf j).toNat - (intOf i).toNat)
  case atStart => exact HST.out 0 rfl
  case round =>
    rename World => W
    clear HST
    obtain ⟨p, q, hpq, hqb, rfl, rfl, hlo, hhi, hbw⟩ := hrel
    have HBW := Lib.hid hbw
    have HLO := Lib.hid hlo
    have HHI := Lib.hid hhi
    clear hbw hlo hhi
    have hnn := HN.out
    by_cases hlt : p < q
    · have tpq : decide ((p : Int) < (q : Int)) = true := decide_eq_true (by omega)
      have tpqn : decide (p < q) = true := decide_eq_true hlt
      obtain ⟨hw1, hw2⟩ := half_factsP (u := p) (v := q) (by omega)
      obtain ⟨pq, hpqs⟩ : ∃ pq, p + q = pq := ⟨_, rfl⟩
      rw [hpqs] at hw1 hw2
      obtain ⟨h, hh⟩ : ∃ h, pq / 2 = h := ⟨_, rfl⟩
      have hhI : ((pq : Int) / 2) = (h : Int) := by omega
      have hhw : IntKind.i64.wrap (h : Int) = (h : Int) := IntWalk.i64_in _ (by omega)
      obtain ⟨y, hy⟩ : ∃ y, L[h]? = some y := ⟨_, List.getElem?_eq_getElem (by omega)⟩
      obtain ⟨g, rfl, l0, l1⟩ := (HR.out.kept HBW.out) h y hy
      have bh0 : (0 : Int) ≤ h := by omega
      have bh1 : (h : Int) < n := by omega
      have HCM : Hid (∀ W, Calls Try.prog 56 #[.agg #[.int .i64 y.f, .int .i64 y.t], .int .i64 v] W fun e w' => e = .returned (.int .i64 (Lib.compareInt y.f v)) ∧ Below W.heap.size W w') := fun W => by_from y v W
      have HCL : Hid (Lib.compareInt y.f v < 0 ↔ y.f < v) := compareInt_lt _ _
      obtain ⟨c, hcc⟩ : ∃ c, Lib.compareInt y.f v = c := ⟨_, rfl⟩
      rw [hcc] at HCM HCL
      have HYY := Lib.hid hy
      have HPH : Hid (p ≤ h ∧ h < q ∧ q ≤ L.length) := by show _ ∧ _; omega
      have wh : IntKind.i64.wrap ((h : Int) + 1) = ((h + 1 : Nat) : Int) := by rw [Int.natCast_add]; exact IntWalk.i64_in _ (by omega)
      clear hcc hy hh hpqs hnn hlt hpq hqb
      go_wp2_with fail
      try rw [hhI]
      go_wp2_with fail
      refine (HCM.out _).mono ?_
      rintro e V2 ⟨rfl, hb⟩
      have HB2 := Lib.hid (HBW.out.trans (hb.mono HBW.out.size))
      clear hb hw1 hw2 hhI hhw
      obtain ⟨bc, hbc⟩ : ∃ bc, decide (c < 0) = bc := ⟨_, rfl⟩
      cases bc with
      | true =>
        have hc0 : c < 0 := of_decide_eq_true hbc
        have HNX : Hid (BiRel L v w (.int .i64 ((h + 1 : Nat) : Int)) (.int .i64 (q : Int)) V2) := ⟨h + 1, q, HPH.out.2.1, HPH.out.2.2, rfl, rfl, fun z _ hz => by
          rw [Nat.add_sub_cancel, HYY.out] at hz
          obtain rfl := Option.some.inj hz
          exact HCL.out.1 hc0, HHI.out, HB2.out⟩
        clear HCM HCL hc0
        go_wp2
        go_roundw
        case rel => exact HNX.out
        case measure => have := HPH.out; simp [intOf]; omega
      | false =>
        have hc0 : ¬ c < 0 := of_decide_eq_false hbc
        have HNX : Hid (BiRel L v w (.int .i64 (p : Int)) (.int .i64 (h : Int)) V2) := ⟨p, h, HPH.out.1, by have := HPH.out; omega, rfl, rfl, HLO.out, fun z hz => by
          rw [HYY.out] at hz
          obtain rfl := Option.some.inj hz
          exact Int.not_lt.1 fun hl => hc0 (HCL.out.2 hl), HB2.out⟩
        clear HCM HCL hc0
        go_wp2
        go_roundw
        case rel => exact HNX.out
        case measure => have := HPH.out; simp [intOf]; omega
    · obtain rfl : p = q := by omega
      have tpq : decide ((p : Int) < (p : Int)) = false := decide_eq_false (by omega)
      have HAT : Hid (AtF L v p) := ⟨hqb, HLO.out, HHI.out⟩
      by_cases hpn : p < n
      · have tp : decide ((p : Int) < (n : Int)) = true := decide_eq_true (by omega)
        have tpn : decide (p < n) = true := decide_eq_true hpn
        obtain ⟨y, hy⟩ : ∃ y, L[p]? = some y := ⟨_, List.getElem?_eq_getElem (by omega)⟩
        obtain ⟨g, rfl, l0, l1⟩ := (HR.out.kept HBW.out) p y hy
        have bh0 : (0 : Int) ≤ p := by omega
        have bh1 : (p : Int) < n := by omega
        have HCM : Hid (∀ W, Calls Try.prog 56 #[.agg #[.int .i64 y.f, .int .i64 y.t], .int .i64 v] W fun e w' => e = .returned (.int .i64 (Lib.compareInt y.f v)) ∧ Below W.heap.size W w') := fun W => by_from y v W
        obtain ⟨c, hcc⟩ : ∃ c, Lib.compareInt y.f v = c := ⟨_, rfl⟩
        rw [hcc] at HCM
        clear hcc hy hnn hlt hpq hqb hpn
        go_wp2_with fail
        refine (HCM.out _).mono ?_
        rintro e V2 ⟨rfl, hb⟩
        have HB2 := Lib.hid (HBW.out.trans (hb.mono HBW.out.size))
        clear hb HCM
        go_wp2
        go_ret2
        exact ⟨p, _, rfl, HAT.out, HB2.out⟩
      · have tp : decide ((p : Int) < (n : Int)) = false := decide_eq_false (by omega)
        have tpn : decide (p < n) = false := decide_eq_false hpn
        clear hnn hlt hpq hqb hpn
        go_wp2
        go_ret2
        first | exact ⟨p, rfl, HAT.out, HBW.out⟩ | exact ⟨p, _, rfl, HAT.out, HBW.out⟩
theorem lea_cut {L : List P2} {v : Int} {i j : Nat} (hL : L.Pairwise Lt) (h : AtF L v i) (hij : i ≤ j) (hj : j ≤ L.length) (hin : ∀ k y, i ≤ k → k < j → L[k]? = some y → y.f = v) (hend : ∀ y, L[j]? = some y → y.f ≠ v) : lea L v = (L.drop i).take (j - i) := by
  obtain ⟨h1, h2, h3⟩ := h
  have hpw := List.pairwise_iff_getElem.1 hL
  have e : L = L.take i ++ ((L.drop i).take (j - i) ++ (L.drop i).drop (j - i)) := by rw [List.take_append_drop, List.take_append_drop]
  have f1 : (L.take i).filter (fun x => x.f == v) = [] := by
    rw [List.filter_eq_nil_iff]
    intro x hx
    obtain ⟨k, hk, rfl⟩ := List.mem_iff_getElem.1 hx
    rw [List.length_take] at hk
    rw [List.getElem_take]
    have h0 := h2 (L[i - 1]'(by omega)) (by omega) (List.getElem?_eq_getElem (by omega))
    have : (L[k]'(by omega)).f ≤ (L[i - 1]'(by omega)).f := by
      rcases Nat.lt_or_ge k (i - 1) with hh | hh
      · have := hpw k (i - 1) (by omega) (by omega) hh
        unfold Lt at this; omega
      · have : k = i - 1 := by omega
        subst this; omega
    simp; omega
  have f2 : ((L.drop i).take (j - i)).filter (fun x => x.f == v) = (L.drop i).take (j - i) := by
    rw [List.filter_eq_self]
    intro x hx
    obtain ⟨k, hk, rfl⟩ := List.mem_iff_getElem.1 hx
    rw [List.length_take, List.length_drop] at hk
    rw [List.getElem_take, List.getElem_drop]
    have := hin (i + k) (L[i + k]'(by omega)) (by omega) (by omega) (List.getElem?_eq_getElem (by omega))
    simp [this]
  have f3 : ((L.drop i).drop (j - i)).filter (fun x => x.f == v) = [] := by
    rw [List.filter_eq_nil_iff]
    intro x hx
    rw [List.drop_drop] at hx
    obtain ⟨k, hk, rfl⟩ := List.mem_iff_getElem.1 hx
    rw [List.length_drop] at hk
    rw [List.getElem_drop]
    have hi' : v ≤ (L[i]'(by omega)).f := h3 _ (List.getElem?_eq_getElem (by omega))
    have hj' := hend (L[j]'(by omega)) (List.getElem?_eq_getElem (by omega))
    have mono : ∀ (a b : Nat) (ha : a < L.length) (hb : b < L.length), a ≤ b → L[a].f ≤ L[b].f := fun a b ha hb hab => by
      rcases Nat.lt_or_ge a b with hh | hh
      · have := hpw a b ha hb hh
        unfold Lt at this; omega
      · have : a = b := by omega
        subst this; omega
    have m1 := mono i j (by omega) (by omega) hij
    have m2 := mono j (i + (j - i) + k) (by omega) (by omega) (by omega)
    simp
    omega
  unfold lea
  conv => lhs; rw [e]
  rw [List.filter_append, List.filter_append, f1, f2, f3, List.nil_append, List.append_nil]
def LvRel (L : List P2) (v : Int) (i0 : Nat) (w : World) (i : Value) (W : World) : Prop :=
  ∃ j : Nat, i0 ≤ j ∧ j ≤ L.length ∧ i = .int .i64 (j : Int) ∧ (∀ k y, i0 ≤ k → k < j → L[k]? = some y → y.f = v) ∧ Below w.heap.size w W
/-- A slice that reads as some pairs. -/
def SV (w : World) (V : Value) (R : List P2) : Prop := ∃ A c, V = .slice A R.length c ∧ R.length ≤ c ∧ (A = none → c = 0) ∧ (∀ y, A = some y → ∃ g o, y = ⟨g, o, none⟩) ∧ SAt w A R
theorem SV.kept {w w' : World} {V : Value} {R : List P2} (h : SV w V R) (b : Below w.heap.size w w') : SV w' V R := by
  obtain ⟨A, c, h1, h2, h3, h4, h5⟩ := h
  exact ⟨A, c, h1, h2, h3, h4, h5.kept b⟩
def LvPost (A : Option Addr) (L : List P2) (v : Int) (w : World) (e : Ending) (w' : World) : Prop := ∃ V, e = .returned V ∧ (∀ w0, PAt w0 A L → SV w0 V (lea L v)) ∧ Below w.heap.size w w'
set_option maxRecDepth 8000 in
set_option maxHeartbeats 3200000 in
theorem leaving_any (A : Option Addr) (n cap : Nat) (L : List P2) (v : Int) (w : World) (hr : PAt w A L) (hn : L.length = n) (hl : n ≤ 1000000) (hc : n ≤ cap) (hnil : A = none → cap = 0) (hz : ∀ y, A = some y → ∃ g, y = ⟨g, 0, none⟩) (hL : L.Pairwise Lt) :
    Calls Try.prog 35 #[.slice A n cap, .int .i64 v] w (LvPost A L v w) := by
  have HS := Lib.hid (searchP_any A n cap L v w hr hn hl)
  unfold leavV at HS
  have HR := Lib.hid hr
  have HN : Hid (L.length = n ∧ n ≤ 1000000 ∧ n ≤ cap) := ⟨hn, hl, hc⟩
  have HL := Lib.hid hL
  have HNIL := Lib.hid hnil
  have HZ := Lib.hid hz
  unfold LvPost
  clear hr hn hl hc hnil hz hL
  go_enter Try.func35, Try.ntmps35
  go_wp2_with fail
  refine HS.out.mono ?_
  rintro e w1 ⟨i0, b0, rfl, hat, hb1⟩
  have HAT := Lib.hid hat
  have HB1 := Lib.hid hb1
  have HST : Hid (∀ x : Nat, x = i0 → LvRel L v i0 w (.int .i64 (x : Int)) w1) := fun x hx => ⟨x, by omega, by rw [hx]; exact hat.1, rfl, fun k y h1 h2 => by omega, hb1⟩
  clear hat hb1 HS
  go_wp2_with fail
  go_loopw [7] (fun i W => LvRel L v i0 w i W) (fun i _ => (n + 1) - (intOf i).toNat)
  case atStart => exact HST.out i0 rfl
  case round =>
    rename World => W
    clear HST
    obtain ⟨j, h1, h2, rfl, h3, hbw⟩ := hrel
    have HBW := Lib.hid hbw
    have H3 := Lib.hid h3
    have hnn := HN.out
    have H12 : Hid (i0 ≤ j ∧ j ≤ n) := ⟨h1, by omega⟩
    clear hbw h3 h1 h2
    have HDONE : Hid ((∀ y, L[j]? = some y → y.f ≠ v) → ∃ A' c', (∀ W : World, (Instr.slice 22 (.slice A n cap) (some (.int .i64 (i0 : Int))) (some (.int .i64 (j : Int))) none).run Try.prog W = .ok (.slice A' (j - i0) c') W) ∧ ∀ w0, PAt w0 A L → SV w0 (.slice A' (j - i0) c') (lea L v)) := fun hend => by
      have hn := HN.out
      have h12 := H12.out
      obtain ⟨A', c', q1, q2, q3, q4, q5⟩ := run_cut A n cap i0 j h12.1 h12.2 hn.2.2 HNIL.out (fun y e => by obtain ⟨g, rfl⟩ := HZ.out y e; exact ⟨g, 0, rfl⟩) i0 j rfl rfl
      have e := lea_cut HL.out HAT.out h12.1 (by omega) H3.out hend
      have el : (lea L v).length = j - i0 := by rw [e, List.length_take, List.length_drop]; omega
      refine ⟨A', c', q1, fun w0 h0 => ⟨A', c', by rw [el], by rw [el]; exact q2, q3, q4, ?_⟩⟩
      rw [e]
      exact q5 w0 L hn.1 h0.s
    by_cases hlt : j < n
    · have t1 : decide ((j : Int) < (n : Int)) = true := decide_eq_true (by omega)
      have t1n : decide (j < n) = true := decide_eq_true hlt
      obtain ⟨y, hy⟩ : ∃ y, L[j]? = some y := ⟨_, List.getElem?_eq_getElem (by omega)⟩
      obtain ⟨g, hA, l0, l1⟩ := (HR.out.kept HBW.out) j y hy
      have bh0 : (0 : Int) ≤ j := by omega
      have bh1 : (j : Int) < n := by omega
      have wj : IntKind.i64.wrap ((j : Int) + 1) = ((j + 1 : Nat) : Int) := by rw [Int.natCast_add]; exact IntWalk.i64_in _ (by omega)
      by_cases hv : y.f = v
      · have tv : (y.f == v) = true := by simp [hv]
        have HNX : Hid (LvRel L v i0 w (.int .i64 ((j + 1 : Nat) : Int)) W) := ⟨j + 1, by have := H12.out; omega, by omega, rfl, fun k z h1 h2 hz => by
          rcases Nat.lt_or_ge k j with hk | hk
          · exact H3.out k z h1 hk hz
          · have : k = j := by omega
            subst this
            rw [hy] at hz
            obtain rfl := Option.some.inj hz
            exact hv, HBW.out⟩
        subst hA
        clear hy hnn hv HDONE
        go_wp2
        go_roundw
        case rel => exact HNX.out
        case measure => simp [intOf]; omega
      · have tv : (y.f == v) = false := by simp [hv]
        obtain ⟨A', c', q1, q2⟩ := HDONE.out (fun z hz => by rw [hy] at hz; obtain rfl := Option.some.inj hz; exact hv)
        subst hA
        have HQ := Lib.hid q2
        clear hy hnn hv HDONE q2
        go_wp2
        go_ret
        exact ⟨_, rfl, HQ.out, HBW.out⟩
    · have t1 : decide ((j : Int) < (n : Int)) = false := decide_eq_false (by omega)
      have t1n : decide (j < n) = false := decide_eq_false hlt
      obtain ⟨A', c', q1, q2⟩ := HDONE.out (fun z hz => by have := (List.getElem?_eq_some_iff.1 hz).1; omega)
      have HQ := Lib.hid q2
      clear hnn HDONE q2
      go_wp2
      go_ret
      exact ⟨_, rfl, HQ.out, HBW.out⟩
end Go.Proofs.Ytnngldkpkhabeaa.Pai
