
/- Tables: the run that a tick is in (sort.Search), whose a tick is, where another one's begin, the runs. Condition: 1 to 1,048,576 ticks. -/

import Derived.Test.YtgdnjlpoeijejaaDoorTabA

import Derived.Test.YtgdnjlpoeijejaaDoorShelfF

import Derived.Deep.RegionHeld3

import Derived.BigQuiet

namespace Go.Proofs.YtgdnjlpoeijejaaDoor.Tab

open Go.RowKit Go.PlainAid Go.Proofs.YtgdnjlpoeijejaaDoor.Oct Go.Proofs.YtgdnjlpoeijejaaDoor.Flt Go.Proofs.YtgdnjlpoeijejaaDoor.Rdr Go.Proofs.YtgdnjlpoeijejaaDoor.Args Go.Proofs.YtgdnjlpoeijejaaDoor.Win

open Go.Proofs.YtgdnjlpoeijejaaDoor.Act (A3 actL flatA ActsAt I64 Wide)

set_option linter.unusedVariables false

set_option linter.unusedSimpArgs false

theorem below_grow (w : World) (os : Array Obj) : Below w.heap.size w (Go.Sort.grow w os) :=
  ⟨rfl, rfl, rfl, by simp [Go.Sort.grow], fun k hk => by
    show (w.heap ++ os)[k]? = _
    rw [Array.getElem?_append_left hk]⟩
theorem below_dg (w : World) (m : Nat) (os : Array Obj) : Below w.heap.size w (Go.Sort.grow (w.drewN m) os) := by
  have h1 : Below w.heap.size w (w.drewN m) := ⟨rfl, rfl, rfl, Nat.le_refl _, fun _ _ => rfl⟩
  exact h1.trans (below_grow (w.drewN m) os)
/-- The facts that a table keeps: its runs are those of its ticks. -/
structure Runs (f : Int → Int) (L : List A3) (fr : Nat) : Prop where
  gr : GR f L (fr : Int)
  len : L.length ≤ fr
  fr1 : 1 ≤ fr
  fr2 : fr ≤ 1048576
theorem Runs.in_ {f : Int → Int} {L : List A3} {fr : Nat} (h : Runs f L fr) {i : Nat} {x : A3} (hx : L[i]? = some x) : 0 ≤ x.p ∧ 1 ≤ x.a ∧ x.p + x.a ≤ fr := by
  obtain ⟨p1, p2, _⟩ := h.gr.at_ i x hx
  have hil := (List.getElem?_eq_some_iff.1 hx).1
  have e : sumA (L.take (i + 1)) = sumA (L.take i) + x.a := by rw [List.take_add_one, hx]; exact sumA_snoc _ _
  have h1 := sum_mono h.gr L.length (i + 1) (by omega) (Nat.le_refl _)
  have h0 := sum_mono h.gr i 0 (Nat.zero_le _) (by omega)
  rw [List.take_length, h.gr.sum] at h1
  simp only [List.take_zero, sumA] at h0
  omega
set_option maxRecDepth 4000 in
theorem closure_any (B1 B2 g : Nat) (id t : Int) (fr : Nat) (A : Option Addr) (c : Nat) (f : Int → Int) (L : List A3) (w : World) (h : IsT w g id (fr : Int) A c L) (hr : Runs f L fr) (h1 : w.cell? ⟨B1, 0, none⟩ = some (.pointer (some ⟨g, 0, none⟩))) (h2 : w.cell? ⟨B2, 0, none⟩ = some (.int .i64 t)) (i : Nat) (x : A3) (hx : L[i]? = some x) :
    Calls Tryd.prog 41 #[.int .i64 (i : Int), .pointer (some ⟨B1, 0, none⟩), .pointer (some ⟨B2, 0, none⟩)] w fun e w' => e = .returned (.bool (decide (t < x.p + x.a))) ∧ ∃ n, w' = w.drewN n := by
  have hin := hr.in_ hx
  have HE := Lib.hid (fun n => end_any g id (fr : Int) A c L (w.drewN n) (h.drewN n) i x hx (by have := hr.fr2; omega) (by have := hr.len; have := hr.fr2; omega))
  obtain ⟨v, hv⟩ : ∃ v, x.p + x.a = v := ⟨_, rfl⟩
  rw [hv] at HE
  rw [hv]
  have H1 := Lib.hid h1
  have H2 := Lib.hid h2
  clear h hr hx hin hv
  go_enter Tryd.func41, Tryd.ntmps41
  go_wp2
  go_region_held3 (fun wx => wx.cell? ⟨B1, 0, none⟩ = some (.pointer (some ⟨g, 0, none⟩)) ∧ wx.cell? ⟨B2, 0, none⟩ = some (.int .i64 t))
    (first | exact ⟨H1.out, H2.out⟩ | (refine ⟨?_, ?_⟩ <;> assumption) | (go_keep; done))
    (first
      | (go_at_call 31; refine (HE.out 1).mono ?_; rintro e w' ⟨rfl, n, rfl⟩))
  all_goals
    go_wp2
    go_ret
    exact ⟨by first | rfl | simp, _, rfl⟩
def pB (L : List A3) (t : Int) (i : Nat) : Bool := match L[i]? with
  | some x => decide (t < x.p + x.a)
  | none => true
/-- The one run that a tick is in. -/
structure AtRun (L : List A3) (t : Int) (k : Nat) (x : A3) : Prop where
  get : L[k]? = some x
  lo : x.p ≤ t
  hi : t < x.p + x.a
  below : ∀ i y, i < k → L[i]? = some y → y.p + y.a ≤ t
  above : ∀ i y, k ≤ i → L[i]? = some y → t < y.p + y.a
theorem AtRun.p_is {L : List A3} {t : Int} {k : Nat} {x : A3} (h : AtRun L t k x) (i : Nat) (hi : i < L.length) : pB L t i = !decide (i < k) := by
  have hx : L[i]? = some L[i] := List.getElem?_eq_getElem hi
  unfold pB
  rw [hx]
  dsimp only
  rcases Nat.lt_or_ge i k with h1 | h1
  · rw [decide_eq_true h1, decide_eq_false (by have := h.below i _ h1 hx; omega)]; rfl
  · rw [decide_eq_false (show ¬ i < k by omega), decide_eq_true (h.above i _ h1 hx)]; rfl
theorem AtRun.count {L : List A3} {t : Int} {k : Nat} {x : A3} (h : AtRun L t k x) : (List.range L.length).countP (fun i => !pB L t i) = k := by
  have hk := (List.getElem?_eq_some_iff.1 h.get).1
  have e : (List.range L.length).countP (fun i => !pB L t i) = (List.range L.length).countP (fun i => decide (i < k)) := by
    apply List.countP_congr
    intro i hi
    rw [h.p_is i (List.mem_range.1 hi)]
    simp
  rw [e, count_below]
  omega
set_option maxRecDepth 4000 in
set_option maxHeartbeats 1600000 in
theorem find_any (g : Nat) (id t : Int) (fr : Nat) (A : Option Addr) (c : Nat) (f : Int → Int) (L : List A3) (w : World) (h : IsT w g id (fr : Int) A c L) (hr : Runs f L fr) (k : Nat) (x : A3) (ha : AtRun L t k x) :
    Calls Tryd.prog 30 #[.pointer (some ⟨g, 0, none⟩), .int .i64 t] w fun e w' => e = .returned (.int .i64 (k : Int)) ∧ Below w.heap.size w w' := by
  obtain ⟨w0, hw0⟩ : ∃ W, (w.alloc (.cells #[.pointer (some ⟨g, 0, none⟩)] 28)).alloc (.cells #[.int .i64 t] 3) = W := ⟨_, rfl⟩
  have hb0 : Below w.heap.size w w0 := by rw [← hw0]; exact ((Below.refl _ _).alloc (Nat.le_refl _) _).alloc (by simp) _
  have k1 : w0.cell? ⟨w.heap.size, 0, none⟩ = some (.pointer (some ⟨g, 0, none⟩)) := by
    have h : ((w.alloc (.cells #[.pointer (some ⟨g, 0, none⟩)] 28)).alloc (.cells #[.int .i64 t] 3)).heap[w.heap.size]? = some (.cells #[.pointer (some ⟨g, 0, none⟩)] 28 (0, 0)) := (heap_alloc_old _ _ (by simp)).trans (heap_alloc_new _ _)
    rw [← hw0, cell_of_row _ _ 0 _ _ _ h]; rfl
  have k2 : w0.cell? ⟨w.heap.size + 1, 0, none⟩ = some (.int .i64 t) := by
    have h := heap_alloc_new (w.alloc (.cells #[.pointer (some ⟨g, 0, none⟩)] 28)) (.cells #[.int .i64 t] 3)
    rw [World.size_alloc] at h
    rw [← hw0, cell_of_row _ _ 0 _ _ _ h]; rfl
  have hs0 : w0.heap.size = w.heap.size + 2 := by rw [← hw0]; simp
  have h0 := h.kept hb0
  obtain ⟨d0, d1, d2⟩ := h0.cells
  have hlen := hr.len
  have hfr := hr.fr2
  have hS := Go.Proofs.Any.sort_Search Tryd.search 41 #[.pointer (some ⟨w.heap.size, 0, none⟩), .pointer (some ⟨w.heap.size + 1, 0, none⟩)] L.length (pB L t) w0 (enters_of Tryd.func41 (by kernel_rfl) rfl) (by omega)
    (fun m os i hi => by
      have hx : L[i]? = some L[i] := List.getElem?_eq_getElem hi
      have hbg := below_dg w0 m os
      have hcl := closure_any w.heap.size (w.heap.size + 1) g id t fr A c f L _ (h0.kept hbg) hr ((hbg.cell (p := ⟨w.heap.size, 0, none⟩) (by show w.heap.size < _; omega)).trans k1) ((hbg.cell (p := ⟨w.heap.size + 1, 0, none⟩) (by show w.heap.size + 1 < _; omega)).trans k2) i _ hx
      refine hcl.mono ?_
      rintro e w' ⟨rfl, n, rfl⟩
      refine ⟨by unfold pB; rw [hx], n, #[], by rw [Go.Sort.grow_empty]⟩)
    (fun a b hab hb hpa => by
      rw [ha.p_is a (by omega)] at hpa
      rw [ha.p_is b hb]
      simp at hpa ⊢
      omega)
  rw [ha.count] at hS
  obtain ⟨n, hn⟩ : ∃ n, L.length = n := ⟨_, rfl⟩
  rw [hn] at hS d2
  have HS := Lib.hid hS
  have HB0 := Lib.hid hb0
  have HW := Lib.hid hw0
  clear hS hb0 h0 h hr ha hn hlen hfr
  go_enter Tryd.func30, Tryd.ntmps30
  go_wp2_with fail
  refine HS.out.mono ?_
  rintro e w2 ⟨rfl, q, os, rfl⟩
  have HB2 := Lib.hid (HB0.out.trans ((below_dg w0 q os).mono HB0.out.size))
  obtain ⟨W2, hW2⟩ : ∃ W, Go.Sort.grow (w0.drewN q) os = W := ⟨_, rfl⟩
  rw [hW2] at HB2
  rw [hW2]
  clear hW2 HS HB0 HW
  go_wp2
  go_ret
  exact ⟨rfl, HB2.out⟩
set_option maxRecDepth 4000 in
set_option maxHeartbeats 1600000 in
/-- Whose a tick is. -/
theorem towner_any (g : Nat) (id t : Int) (fr : Nat) (A : Option Addr) (c : Nat) (f : Int → Int) (L : List A3) (w : World) (h : IsT w g id (fr : Int) A c L) (hr : Runs f L fr) :
    Calls Tryd.prog 15 #[.pointer (some ⟨g, 0, none⟩), .int .i64 t] w fun e w' => e = .returned (.int .i64 (if 0 ≤ t ∧ t < fr then f t else -1)) ∧ Below w.heap.size w w' := by
  have HH := Lib.hid (has_any g id (fr : Int) t A c L w h)
  by_cases ht : 0 ≤ t ∧ t < fr
  · rw [if_pos ht]
    obtain ⟨k, x, hx, h1, h2, h3, h4⟩ := run_at hr.gr ht.1 ht.2
    have ha : AtRun L t k x := ⟨hx, h1, h2, h3, h4⟩
    have HF := Lib.hid (fun n => find_any g id t fr A c f L (w.drewN n) (h.drewN n) hr k x ha)
    obtain ⟨d0, d1, d2⟩ := h.cells
    have hfx := (hr.gr.at_ k x hx).2.2 t h1 h2
    rw [hfx]
    have HIT := Lib.hid h
    have HX := Lib.hid hx
    have hkl := (List.getElem?_eq_some_iff.1 hx).1
    have hlen := hr.len
    have hfr2 := hr.fr2
    obtain ⟨ax, rfl, e00, _, _⟩ := h.runs k x hx
    obtain ⟨n, hn⟩ : ∃ n, L.length = n := ⟨_, rfl⟩
    rw [hn] at d2 hkl hlen
    have hk0 : (0 : Int) ≤ k := by omega
    have hkn : (k : Int) < n := by omega
    rw [decide_eq_true ht.1, decide_eq_true ht.2] at HH
    clear h hr hx h1 h2 h3 h4 ha ht hfx hn d0 d1
    go_enter Tryd.func15, Tryd.ntmps15
    go_wp2_with fail
    refine HH.out.mono ?_
    rintro e w2 ⟨rfl, rfl⟩
    go_wp2_with fail
    go_region_held3 (fun wx => wx.cell? ⟨g, 2, none⟩ = some (.slice (some ax) n c) ∧ wx.cell? (ax.add (k * 3)) = some (.int .i64 x.s))
      (first | (refine ⟨?_, ?_⟩ <;> assumption) | (go_keep; done))
      (first
        | (go_at_call 30; refine (HF.out 1).mono ?_; rintro e w3 ⟨rfl, hb3⟩; have HI3 := Lib.hid ((HIT.out.drewN 1).kept hb3); have HB3 : Hid (Below _ _ w3) := hb3; have d3 : w3.cell? ⟨g, 2, none⟩ = some (.slice (some ax) n c) := ((hb3.cell (p := ⟨g, 2, none⟩) (lt_of_block HIT.out.box)).trans d2); have e0 : w3.cell? (ax.add (k * 3)) = some (.int .i64 x.s) := (by obtain ⟨ay, hay, e1, _, _⟩ := HI3.out.runs k x HX.out; obtain rfl := Option.some.inj hay; exact e1); clear hb3))
    all_goals
      go_wp2
      go_ret
      exact ⟨rfl, (show Below w.heap.size w (w.drewN 1) from ⟨rfl, rfl, rfl, Nat.le_refl _, fun _ _ => rfl⟩).trans HB3.out⟩
  · rw [if_neg ht]
    have hf : (decide (0 ≤ t) && decide (t < (fr : Int))) = false := by
      by_cases h0 : 0 ≤ t
      · rw [decide_eq_false (show ¬ t < (fr : Int) from fun h => ht ⟨h0, h⟩)]; simp
      · rw [decide_eq_false h0]; rfl
    rw [hf] at HH
    clear h hr ht hf
    go_enter Tryd.func15, Tryd.ntmps15
    go_wp2_with fail
    refine HH.out.mono ?_
    rintro e w2 ⟨rfl, rfl⟩
    go_wp2
    go_ret
    exact ⟨rfl, Below.refl _ _⟩
set_option maxRecDepth 4000 in
set_option maxHeartbeats 1600000 in
/-- Where another one's ticks begin. -/
theorem tnext_any (g : Nat) (id t : Int) (fr : Nat) (A : Option Addr) (c : Nat) (f : Int → Int) (L : List A3) (w : World) (h : IsT w g id (fr : Int) A c L) (hr : Runs f L fr) :
    Calls Tryd.prog 16 #[.pointer (some ⟨g, 0, none⟩), .int .i64 t] w fun e w' => ∃ v : Int, e = .returned (.int .i64 v) ∧ (¬ (0 ≤ t ∧ t < fr) → v = 0) ∧ (0 ≤ t ∧ t < fr → ∃ k x, AtRun L t k x ∧ v = x.p + x.a) ∧ Below w.heap.size w w' := by
  have HH := Lib.hid (has_any g id (fr : Int) t A c L w h)
  by_cases ht : 0 ≤ t ∧ t < fr
  · obtain ⟨k, x, hx, h1, h2, h3, h4⟩ := run_at hr.gr ht.1 ht.2
    have ha : AtRun L t k x := ⟨hx, h1, h2, h3, h4⟩
    have HF := Lib.hid (find_any g id t fr A c f L w h hr k x ha)
    have hin := hr.in_ hx
    have HE := Lib.hid (fun W (b : Below w.heap.size w W) => end_any g id (fr : Int) A c L W (h.kept b) k x hx (by have := hr.fr2; omega) (by have := hr.len; have := hr.fr2; omega))
    have HRES : Hid (∃ k x', AtRun L t k x' ∧ x.p + x.a = x'.p + x'.a) := ⟨k, x, ha, rfl⟩
    have HT := Lib.hid ht
    rw [decide_eq_true ht.1, decide_eq_true ht.2] at HH
    clear h hr hx h1 h2 h3 h4 ha ht hin
    go_enter Tryd.func16, Tryd.ntmps16
    go_wp2_with fail
    refine HH.out.mono ?_
    rintro e w2 ⟨rfl, rfl⟩
    go_wp2_with fail
    refine HF.out.mono ?_
    rintro e w3 ⟨rfl, hb3⟩
    have HE3 := Lib.hid (HE.out w3 hb3)
    have HB3 := Lib.hid hb3
    clear hb3 HF HE
    go_wp2_with fail
    refine HE3.out.mono ?_
    rintro e w4 ⟨rfl, n, rfl⟩
    have HB4 := Lib.hid (below_drewN HB3.out n)
    obtain ⟨W4, hW4⟩ : ∃ W, w3.drewN n = W := ⟨_, rfl⟩
    rw [hW4] at HB4
    rw [hW4]
    clear hW4 HE3 HB3
    go_wp2
    go_ret
    exact ⟨_, rfl, fun hn => absurd HT.out hn, fun _ => HRES.out, HB4.out⟩
  · have hf : (decide (0 ≤ t) && decide (t < (fr : Int))) = false := by
      by_cases h0 : 0 ≤ t
      · rw [decide_eq_false (show ¬ t < (fr : Int) from fun h => ht ⟨h0, h⟩)]; simp
      · rw [decide_eq_false h0]; rfl
    rw [hf] at HH
    have HT : Hid (¬ (0 ≤ t ∧ t < (fr : Int))) := ht
    clear h hr ht hf
    go_enter Tryd.func16, Tryd.ntmps16
    go_wp2_with fail
    refine HH.out.mono ?_
    rintro e w2 ⟨rfl, rfl⟩
    go_wp2
    go_ret
    exact ⟨0, rfl, fun _ => rfl, fun h => absurd h HT.out, Below.refl _ _⟩
set_option maxRecDepth 4000 in
/-- The runs, in a row of the call's own. -/
theorem truns_any (g : Nat) (id fr : Int) (A : Option Addr) (c : Nat) (L : List A3) (w : World) (h : IsT w g id fr A c L) (hnil : A = none → c = 0) (hc : L.length ≤ c) (hl : L.length ≤ 1099511627776) :
    Calls Tryd.prog 13 #[.pointer (some ⟨g, 0, none⟩)] w (CRPostR L w) := by
  obtain ⟨d0, d1, d2⟩ := h.cells
  have HC := Lib.hid (crowsR_any A c L w h.runs hnil hc hl)
  obtain ⟨n, hn⟩ : ∃ n, L.length = n := ⟨_, rfl⟩
  rw [hn] at d2 HC
  clear h hnil hc hl hn
  go_enter Tryd.func13, Tryd.ntmps13
  go_wp2_with fail
  refine HC.out.mono ?_
  rintro e w2 ⟨V, rfl, ho, hb⟩
  have HO := Lib.hid ho
  have HB := Lib.hid hb
  clear ho hb HC
  go_wp2
  go_ret
  exact ⟨V, rfl, HO.out, HB.out⟩
end Go.Proofs.YtgdnjlpoeijejaaDoor.Tab
