
/- A strip in memory: the run that a tick is in (sort.Search), At, Word. Condition of Word: at most 268,435,455 ticks. -/

import Derived.Test.YtilkicbokfgjlaaDoorStpE

import Derived.Test.YtilkicbokfgjlaaDoorShelfF

namespace Go.Proofs.YtilkicbokfgjlaaDoor.Stp

open Go.RowKit Go.PlainAid Go.Proofs.YtilkicbokfgjlaaDoor.Cel

set_option linter.unusedVariables false

set_option linter.unusedSimpArgs false

theorem below_dg (w : World) (m : Nat) (os : Array Obj) : Below w.heap.size w (Go.Sort.grow (w.drewN m) os) := by
  refine ⟨rfl, rfl, rfl, by simp [Go.Sort.grow, World.drewN], fun k hk => ?_⟩
  show (w.heap ++ os)[k]? = _
  rw [Array.getElem?_append_left hk]
theorem count_below (k : Nat) : ∀ n, (List.range n).countP (fun i => decide (i < k)) = min n k
  | 0 => by simp
  | n + 1 => by
    rw [List.range_succ, List.countP_append, count_below k n]
    by_cases h : n < k
    · simp [h]; omega
    · simp [h]; omega
section

variable {w : World} {B g : Nat} {A : Option Addr} {c : Nat} {X : List RW}

set_option maxRecDepth 4000 in
theorem closure_any (h : IsS w B g A c X) (hl : X.length ≤ 1073741824) (B1 B2 : Nat) (t : Int) (h1 : w.cell? ⟨B1, 0, none⟩ = some (.pointer (some ⟨g, 0, none⟩))) (h2 : w.cell? ⟨B2, 0, none⟩ = some (.int .i64 t)) (i : Nat) (x : RW) (hx : (runsF 0 X)[i]? = some x) :
    Calls Tryd.prog 49 #[.int .i64 (i : Int), .pointer (some ⟨B1, 0, none⟩), .pointer (some ⟨B2, 0, none⟩)] w fun e w' => e = .returned (.bool (decide (t < x.c))) ∧ ∃ n, w' = w.drewN n := by
  have c0 := h.cell
  obtain ⟨ax, rfl, c1, c2⟩ := h.rat i x hx
  have hil := (List.getElem?_eq_some_iff.1 hx).1
  rw [runsF_len] at hil
  obtain ⟨n, hn⟩ : ∃ n, X.length = n := ⟨_, rfl⟩
  rw [hn] at c0 hil hl
  have hi0 : (0 : Int) ≤ i := by omega
  have hin : (i : Int) < n := by omega
  clear h hx hn
  go_enter Tryd.func49, Tryd.ntmps49
  go_wp2
  go_region
  all_goals
    go_wp2
    go_ret
    exact ⟨rfl, 1, rfl⟩
def pB (X : List RW) (t : Int) (i : Nat) : Bool := match (runsF 0 X)[i]? with
  | some x => decide (t < x.c)
  | none => true
theorem p_is {X : List RW} (hp : ∀ x ∈ X, 1 ≤ x.c) (t : Int) (i : Nat) (hi : i < X.length) : pB X t i = !decide (i < kX t 0 X) := by
  have hx : X[i]? = some X[i] := List.getElem?_eq_getElem hi
  have hk := kX_iff t X 0 hp i _ hx
  unfold pB
  rw [runsF_get X 0 i _ hx]
  dsimp only
  rcases Nat.lt_or_ge i (kX t 0 X) with h1 | h1
  · rw [decide_eq_true h1, decide_eq_false (by rw [hk]; omega)]; rfl
  · rw [decide_eq_false (show ¬ i < kX t 0 X by omega), decide_eq_true (hk.2 h1)]; rfl
theorem p_count {X : List RW} (hp : ∀ x ∈ X, 1 ≤ x.c) (t : Int) : (List.range X.length).countP (fun i => !pB X t i) = kX t 0 X := by
  have e : (List.range X.length).countP (fun i => !pB X t i) = (List.range X.length).countP (fun i => decide (i < kX t 0 X)) := by
    apply List.countP_congr
    intro i hi
    rw [p_is hp t i (List.mem_range.1 hi)]
    simp
  rw [e, count_below]
  have := kX_le t X 0
  omega
set_option maxRecDepth 4000 in
set_option maxHeartbeats 1600000 in
theorem find_any (h : IsS w B g A c X) (ho : OkX X) (t : Int) :
    Calls Tryd.prog 43 #[.pointer (some ⟨g, 0, none⟩), .int .i64 t] w fun e w' => e = .returned (.int .i64 (kX t 0 X : Nat)) ∧ Below w.heap.size w w' := by
  obtain ⟨w0, hw0⟩ : ∃ W, (w.alloc (.cells #[.pointer (some ⟨g, 0, none⟩)] 24)).alloc (.cells #[.int .i64 t] 3) = W := ⟨_, rfl⟩
  have hb0 : Below w.heap.size w w0 := by rw [← hw0]; exact ((Below.refl _ _).alloc (Nat.le_refl _) _).alloc (by simp) _
  have k1 : w0.cell? ⟨w.heap.size, 0, none⟩ = some (.pointer (some ⟨g, 0, none⟩)) := by
    have h : ((w.alloc (.cells #[.pointer (some ⟨g, 0, none⟩)] 24)).alloc (.cells #[.int .i64 t] 3)).heap[w.heap.size]? = some (.cells #[.pointer (some ⟨g, 0, none⟩)] 24 (0, 0)) := (heap_alloc_old _ _ (by simp)).trans (heap_alloc_new _ _)
    rw [← hw0, cell_of_row _ _ 0 _ _ _ h]; rfl
  have k2 : w0.cell? ⟨w.heap.size + 1, 0, none⟩ = some (.int .i64 t) := by
    have h := heap_alloc_new (w.alloc (.cells #[.pointer (some ⟨g, 0, none⟩)] 24)) (.cells #[.int .i64 t] 3)
    rw [World.size_alloc] at h
    rw [← hw0, cell_of_row _ _ 0 _ _ _ h]; rfl
  have hs0 : w0.heap.size = w.heap.size + 2 := by rw [← hw0]; simp
  have h0 := h.keep hb0
  have d0 := h0.cell
  have hl := ho.len
  have hS := Go.Proofs.Any.sort_Search Tryd.search 49 #[.pointer (some ⟨w.heap.size, 0, none⟩), .pointer (some ⟨w.heap.size + 1, 0, none⟩)] X.length (pB X t) w0 (enters_of Tryd.func49 (by kernel_rfl) rfl) (by omega)
    (fun m os i hi => by
      obtain ⟨x, hx⟩ : ∃ x, (runsF 0 X)[i]? = some x := ⟨_, List.getElem?_eq_getElem (by rw [runsF_len]; exact hi)⟩
      have hbg := below_dg w0 m os
      have hcl := closure_any (h0.keep hbg) hl w.heap.size (w.heap.size + 1) t ((hbg.cell (p := ⟨w.heap.size, 0, none⟩) (by show w.heap.size < _; omega)).trans k1) ((hbg.cell (p := ⟨w.heap.size + 1, 0, none⟩) (by show w.heap.size + 1 < _; omega)).trans k2) i _ hx
      refine hcl.mono ?_
      rintro e w' ⟨rfl, n, rfl⟩
      refine ⟨by unfold pB; rw [hx], n, #[], by rw [Go.Sort.grow_empty]⟩)
    (fun a b hab hb hpa => by
      rw [p_is ho.pos t a (by omega)] at hpa
      rw [p_is ho.pos t b hb]
      simp at hpa ⊢
      omega)
  rw [p_count ho.pos] at hS
  obtain ⟨kk, hkk⟩ : ∃ k, kX t 0 X = k := ⟨_, rfl⟩
  rw [hkk] at hS ⊢
  obtain ⟨n, hn⟩ : ∃ n, X.length = n := ⟨_, rfl⟩
  rw [hn] at hS d0
  have HS := Lib.hid hS
  have HB0 := Lib.hid hb0
  have HW := Lib.hid hw0
  clear hS hb0 h0 h ho hn hl hkk
  go_enter Tryd.func43, Tryd.ntmps43
  go_wp2_with fail
  refine HS.out.mono ?_
  rintro e w2 ⟨rfl, q, os, rfl⟩
  have HB2 := Lib.hid (HB0.out.trans ((below_dg w0 q os).mono HB0.out.size))
  obtain ⟨W2, hW2⟩ : ∃ W, Go.Sort.grow (w0.drewN q) os = W := ⟨_, rfl⟩
  rw [hW2] at HB2
  rw [hW2]
  clear hW2 HS HB0 HW
  go_wp2
  go_ret
  exact ⟨rfl, HB2.out⟩
end

/-- Whose a tick is, if there is one. -/
def atX (X : List RW) (t : Int) : Option Int := if 0 ≤ t then ownX X t else none
def atV (o : Option Int) : Value := .tuple #[.int .i64 (o.getD (-1)), .bool o.isSome]
section

variable {w : World} {B g : Nat} {X : List RW}

set_option maxRecDepth 4000 in
set_option maxHeartbeats 1600000 in
theorem at_any (h : IsSt w B g X) (ho : OkX X) (t : Int) :
    Calls Tryd.prog 38 #[.pointer (some ⟨g, 0, none⟩), .int .i64 t] w fun e w' => e = .returned (atV (atX X t)) ∧ Below w.heap.size w w' := by
  obtain ⟨A, c, h⟩ := h
  by_cases ht : t < 0
  · have e : atX X t = none := by unfold atX; rw [if_neg (by omega)]
    rw [e]
    have t0 : decide (t < 0) = true := decide_eq_true ht
    clear h ho e ht
    go_enter Tryd.func38, Tryd.ntmps38
    go_wp2
    go_ret2
    exact ⟨rfl, Below.refl _ _⟩
  · have HL := Lib.hid (len_any w B g A c X h ho)
    have t0 : decide (t < 0) = false := decide_eq_false ht
    by_cases hs : sumR X ≤ t
    · have e : atX X t = none := by unfold atX; rw [if_pos (by omega)]; exact own_none X t ho.pos hs
      rw [e]
      have t1 : decide (sumR X ≤ t) = true := decide_eq_true hs
      obtain ⟨v, hv⟩ : ∃ v, sumR X = v := ⟨_, rfl⟩
      rw [hv] at HL t1
      clear h ho e ht hs hv
      go_enter Tryd.func38, Tryd.ntmps38
      go_wp2_with (go_at_call 30; refine HL.out.mono ?_; rintro e w1 ⟨rfl, k, rfl⟩)
      go_ret2
      exact ⟨rfl, below_n _ _⟩
    · have t1 : decide (sumR X ≤ t) = false := decide_eq_false hs
      have hkl := kX_lt t X 0 (by omega) (by omega)
      have hok := own_kX t X 0
      obtain ⟨k, hk⟩ : ∃ k, kX t 0 X = k := ⟨_, rfl⟩
      rw [hk] at hkl hok
      have hx : X[k]? = some X[k] := List.getElem?_eq_getElem hkl
      obtain ⟨x, hxe⟩ : ∃ x, X[k] = x := ⟨_, rfl⟩
      rw [hxe] at hx
      rw [hx, show t - 0 = t by omega] at hok
      have e : atX X t = some x.i := by unfold atX; rw [if_pos (by omega), hok]; rfl
      rw [e]
      obtain ⟨ax, rfl, c1, -⟩ := h.rat k _ (runsF_get X 0 k x hx)
      dsimp only at c1
      have HF := Lib.hid (fun (W : World) (b : Below w.heap.size w W) => find_any (h.keep b) ho t)
      rw [hk] at HF
      have HC := Lib.hid (fun (W : World) (b : Below w.heap.size w W) => (h.keep b).cell)
      have hc1 : ∀ W : World, Below w.heap.size w W → W.cell? (ax.add (k * 2)) = some (.int .i64 x.i) := fun W b => (b.cell (Go.block_lt_of_cell c1)).trans c1
      have HC1 := Lib.hid hc1
      obtain ⟨v, hv⟩ : ∃ v, sumR X = v := ⟨_, rfl⟩
      rw [hv] at HL t1
      obtain ⟨n, hn⟩ : ∃ n, X.length = n := ⟨_, rfl⟩
      rw [hn] at hkl HC
      have hk0 : (0 : Int) ≤ k := by omega
      have hkn : (k : Int) < n := by omega
      clear h ho ht hs hk hok hx hxe e c1 hc1 hv hn
      go_enter Tryd.func38, Tryd.ntmps38
      go_wp2_with (go_at_call 30; refine HL.out.mono ?_; rintro e w1 ⟨rfl, q, rfl⟩; have hb1 := below_n w q; have d0 := HC.out _ hb1; have d1 := HC1.out _ hb1; have HB1 := Lib.hid hb1; obtain ⟨W, hW⟩ : ∃ W, w.drewN q = W := ⟨_, rfl⟩; rw [hW] at d0 d1 HB1; rw [hW]; clear hW hb1)
      have hbd : Below w.heap.size w W.drew := HB1.out.trans ((below_n W 1).mono HB1.out.size)
      have HFD := Lib.hid (HF.out _ hbd)
      have HBD := Lib.hid hbd
      clear hbd
      go_region_held3 (fun wx => wx.cell? ⟨g, 0, none⟩ = some (.slice (some ax) n c) ∧ wx.cell? (ax.add (k * 2)) = some (.int .i64 x.i))
        (first | (refine ⟨?_, ?_⟩ <;> assumption) | (go_keep; done))
        (first
          | (go_at_call 43; refine HFD.out.mono ?_; rintro e w3 ⟨rfl, hb3⟩; have HB3 := Lib.hid (HBD.out.trans (hb3.mono HBD.out.size)); have d3 := HC.out _ HB3.out; have e3 := HC1.out _ HB3.out; clear hb3))
      all_goals
        go_wp2
        go_ret2
        exact ⟨rfl, HB3.out⟩
end

end Go.Proofs.YtilkicbokfgjlaaDoor.Stp
