
/- Tables: cursors: whose the tick is, the tick, a step. Condition: 1 to 1,048,576 ticks. -/

import Derived.Test.YtofcjkfaccdnjaaDoorTabD

import Derived.Deep.RegionHeld3

namespace Go.Proofs.YtofcjkfaccdnjaaDoor.Tab

open Go.RowKit Go.PlainAid Go.Proofs.YtofcjkfaccdnjaaDoor.Oct Go.Proofs.YtofcjkfaccdnjaaDoor.Flt Go.Proofs.YtofcjkfaccdnjaaDoor.Rdr Go.Proofs.YtofcjkfaccdnjaaDoor.Args Go.Proofs.YtofcjkfaccdnjaaDoor.Win

open Go.Proofs.YtofcjkfaccdnjaaDoor.Act (A3 actL flatA ActsAt I64 Wide)

set_option linter.unusedVariables false

set_option linter.unusedSimpArgs false

/-- A cursor in block q of the table in block g, at a tick and in a run. -/
structure IsC (w : World) (q g : Nat) (t : Int) (r : Nat) : Prop where
  box : w.heap[q]? = some (.cells #[.pointer (some ⟨g, 0, none⟩), .int .i64 t, .int .i64 (r : Int)] 96 (0, 0))
theorem IsC.kept {w w' : World} {q g : Nat} {t : Int} {r : Nat} (h : IsC w q g t r) (b : Below w.heap.size w w') : IsC w' q g t r := ⟨(b.block _ (lt_of_block h.box)).trans h.box⟩
theorem IsC.drewN {w : World} {q g : Nat} {t : Int} {r : Nat} (h : IsC w q g t r) (n : Nat) : IsC (w.drewN n) q g t r := ⟨h.box⟩
theorem IsC.cells {w : World} {q g : Nat} {t : Int} {r : Nat} (h : IsC w q g t r) : w.cell? ⟨q, 0, none⟩ = some (.pointer (some ⟨g, 0, none⟩)) ∧ w.cell? ⟨q, 1, none⟩ = some (.int .i64 t) ∧ w.cell? ⟨q, 2, none⟩ = some (.int .i64 (r : Int)) := by
  refine ⟨?_, ?_, ?_⟩
  all_goals (rw [cell_of_row w _ _ _ _ _ h.box]; rfl)
theorem IsC.free {w : World} {q g : Nat} {t : Int} {r : Nat} (h : IsC w q g t r) (o : Nat) : w.frozen? ⟨q, o, none⟩ = false := by simp [World.frozen?, h.box]
theorem IsC.set1 {w : World} {q g : Nat} {t : Int} {r : Nat} (h : IsC w q g t r) (v : Int) : IsC (w.setCell ⟨q, 1, none⟩ (.int .i64 v)) q g v r := ⟨by
  rw [setCell_eq_setRow w q 1 _ _ (0, 0) _ h.box]; exact setRow_heap _ _ _ _ _ _ h.box⟩
theorem IsC.set2 {w : World} {q g : Nat} {t : Int} {r : Nat} (h : IsC w q g t r) (v : Nat) : IsC (w.setCell ⟨q, 2, none⟩ (.int .i64 (v : Int))) q g t v := ⟨by
  rw [setCell_eq_setRow w q 2 _ _ (0, 0) _ h.box]; exact setRow_heap _ _ _ _ _ _ h.box⟩
theorem just_cell (w : World) (q o : Nat) (v : Value) : Just q w (w.setCell ⟨q, o, none⟩ v) :=
  ⟨rfl, rfl, rfl, by simp, fun k _ hne => heap_setCell_other w ⟨q, o, none⟩ k v hne⟩
theorem just_drewN {q : Nat} {u w : World} (h : Just q u w) (n : Nat) : Just q u (w.drewN n) := ⟨h.os, h.tape, h.output, h.size, h.block⟩
theorem just_trans {q : Nat} {a b c : World} (h : Just q a b) (k : Just q b c) : Just q a c :=
  ⟨k.os.trans h.os, k.tape.trans h.tape, k.output.trans h.output, Nat.le_trans h.size k.size, fun i hi hne => (k.block i (Nat.lt_of_lt_of_le hi h.size) hne).trans (h.block i hi hne)⟩
theorem IsT.just {w w' : World} {g q : Nat} {id fr : Int} {A : Option Addr} {c : Nat} {L : List A3} (h : IsT w g id fr A c L) (j : Just q w w') (hg : g ≠ q) (hA : ∀ a, A = some a → a.block ≠ q) : IsT w' g id fr A c L := by
  refine ⟨(j.block g (lt_of_block h.box) hg).trans h.box, fun i x hx => ?_⟩
  obtain ⟨a, ha, c1, c2, c3⟩ := h.runs i x hx
  have hb := hA a ha
  have hl : (a.add (i * 3)).block < w.heap.size := Go.block_lt_of_cell c1
  have hbl : (a.add (i * 3)).block = a.block := add_block a (i * 3)
  have hj : w'.heap[(a.add (i * 3)).block]? = w.heap[(a.add (i * 3)).block]? := j.block _ hl (by rw [hbl]; exact hb)
  exact ⟨a, ha, (World.cell?_of_block hj).trans c1, (World.cell?_of_block (a := ⟨(a.add (i * 3)).block, _, none⟩) hj).trans c2, (World.cell?_of_block (a := ⟨(a.add (i * 3)).block, _, none⟩) hj).trans c3⟩
/-- Where a tick is in a run, it is in no other one. -/
theorem at_run {f : Int → Int} {L : List A3} {n : Int} (h : GR f L n) {i : Nat} {x : A3} {t : Int} (hx : L[i]? = some x) (h1 : x.p ≤ t) (h2 : t < x.p + x.a) : AtRun L t i x := by
  have hil := (List.getElem?_eq_some_iff.1 hx).1
  obtain ⟨p1, p2, _⟩ := h.at_ i x hx
  have e : sumA (L.take (i + 1)) = sumA (L.take i) + x.a := by rw [List.take_add_one, hx]; exact sumA_snoc _ _
  have hle := sum_mono h L.length (i + 1) (by omega) (Nat.le_refl _)
  have h00 := sum_mono h i 0 (Nat.zero_le _) (by omega)
  rw [List.take_length, h.sum] at hle
  simp only [List.take_zero, sumA] at h00
  refine ⟨hx, h1, h2, fun j y hj hy => ?_, fun j y hj hy => ?_⟩
  · obtain ⟨q1, q2, _⟩ := h.at_ j y hy
    have e2 : sumA (L.take (j + 1)) = sumA (L.take j) + y.a := by rw [List.take_add_one, hy]; exact sumA_snoc _ _
    have := sum_mono h i (j + 1) (by omega) (by omega)
    omega
  · obtain ⟨q1, q2, _⟩ := h.at_ j y hy
    have e2 : sumA (L.take (j + 1)) = sumA (L.take j) + y.a := by rw [List.take_add_one, hy]; exact sumA_snoc _ _
    have hjl := (List.getElem?_eq_some_iff.1 hy).1
    have := sum_mono h (j + 1) (i + 1) (by omega) (by omega)
    omega
/-- The run behind one. -/
theorem next_run {f : Int → Int} {L : List A3} {n : Int} (h : GR f L n) {i : Nat} {x : A3} (hx : L[i]? = some x) (h1 : x.p + x.a < n) : ∃ y, L[i + 1]? = some y ∧ y.p = x.p + x.a ∧ 1 ≤ y.a := by
  have hil := (List.getElem?_eq_some_iff.1 hx).1
  obtain ⟨p1, p2, _⟩ := h.at_ i x hx
  have e : sumA (L.take (i + 1)) = sumA (L.take i) + x.a := by rw [List.take_add_one, hx]; exact sumA_snoc _ _
  have hk : i + 1 < L.length := by
    rcases Nat.lt_or_ge (i + 1) L.length with h2 | h2
    · exact h2
    · rw [List.take_of_length_le h2, h.sum] at e
      omega
  have hy : L[i + 1]? = some L[i + 1] := List.getElem?_eq_getElem hk
  obtain ⟨q1, q2, _⟩ := h.at_ (i + 1) _ hy
  exact ⟨_, hy, by omega, q2⟩
theorem ccursor_any (g : Nat) (w : World) :
    Calls Tryd.prog 31 #[.pointer (some ⟨g, 0, none⟩)] w fun e w' => e = .returned (.pointer (some ⟨w.heap.size, 0, none⟩)) ∧ IsC w' w.heap.size g 0 0 ∧ Below w.heap.size w w' := by
  go_enter Tryd.func31, Tryd.ntmps31
  go_wp2
  go_ret
  exact ⟨rfl, ⟨heap_alloc_new _ _⟩, (Below.refl _ _).alloc (Nat.le_refl _) _⟩
theorem ctick_any (q g : Nat) (t : Int) (r : Nat) (w : World) (h : IsC w q g t r) :
    Calls Tryd.prog 42 #[.pointer (some ⟨q, 0, none⟩)] w fun e w' => e = .returned (.int .i64 t) ∧ w = w' := by
  obtain ⟨c0, c1, c2⟩ := h.cells
  clear h
  go_enter Tryd.func42, Tryd.ntmps42
  go_wp2
  go_ret
  exact ⟨rfl, rfl⟩
set_option maxRecDepth 4000 in
theorem cowner_any (q g : Nat) (id fr t : Int) (r : Nat) (A : Option Addr) (c : Nat) (L : List A3) (x : A3) (w : World) (h : IsC w q g t r) (hT : IsT w g id fr A c L) (hx : L[r]? = some x) :
    Calls Tryd.prog 34 #[.pointer (some ⟨q, 0, none⟩)] w fun e w' => e = .returned (.int .i64 x.s) ∧ ∃ n, w' = w.drewN n := by
  obtain ⟨c0, c1, c2⟩ := h.cells
  obtain ⟨b0, b1, b2⟩ := hT.cells
  obtain ⟨ax, rfl, d0, d1, d2⟩ := hT.runs r x hx
  have hil := (List.getElem?_eq_some_iff.1 hx).1
  obtain ⟨n, hn⟩ : ∃ n, L.length = n := ⟨_, rfl⟩
  rw [hn] at b2 hil
  have hi0 : (0 : Int) ≤ r := by omega
  have hin : (r : Int) < n := by omega
  clear h hT hx hn
  go_enter Tryd.func34, Tryd.ntmps34
  go_wp2
  go_quiet (fail)
  go_wp2
  go_ret
  exact ⟨rfl, nq, rfl⟩
set_option maxRecDepth 8000 in
set_option maxHeartbeats 3200000 in
/-- A step: the next tick, or the first one. -/
theorem cstep_any (q g : Nat) (id : Int) (fr : Nat) (t r : Nat) (A : Option Addr) (c : Nat) (f : Int → Int) (L : List A3) (x : A3) (w : World) (h : IsC w q g (t : Int) r) (hT : IsT w g id (fr : Int) A c L) (hr : Runs f L fr) (hx : AtRun L (t : Int) r x) (hg : g ≠ q) (hA : ∀ a, A = some a → a.block ≠ q) :
    Calls Tryd.prog 36 #[.pointer (some ⟨q, 0, none⟩)] w fun e w' => e = .returned (.bool (decide (t + 1 ≠ fr))) ∧ (∃ (r' : Nat) (x' : A3), IsC w' q g ((if t + 1 = fr then 0 else t + 1 : Nat) : Int) r' ∧ AtRun L ((if t + 1 = fr then 0 else t + 1 : Nat) : Int) r' x') ∧ Just q w w' := by
  have hin := hr.in_ hx.get
  have htf : t < fr := by have := hx.hi; omega
  have hfr := hr.fr2
  obtain ⟨c0, c1, c2⟩ := h.cells
  have f1 := h.free 1
  have ht1 : IntKind.i64.wrap ((t : Int) + 1) = (t : Int) + 1 := IntWalk.i64_in _ (by omega)
  have h1 : IsC (w.setCell ⟨q, 1, none⟩ (.int .i64 ((t : Int) + 1))) q g ((t : Int) + 1) r := h.set1 _
  have j1 := just_cell w q 1 (.int .i64 ((t : Int) + 1))
  have hT1 := hT.just j1 hg hA
  obtain ⟨W1, hW1⟩ : ∃ W, w.setCell ⟨q, 1, none⟩ (.int .i64 ((t : Int) + 1)) = W := ⟨_, rfl⟩
  have HWE := Lib.hid hW1
  rw [hW1] at h1 j1 hT1
  have HJ1 := Lib.hid j1
  have HC1 := Lib.hid h1
  have HT1 := Lib.hid hT1
  have HAT := Lib.hid hx
  have HRU := Lib.hid hr
  obtain ⟨e0, e1, e2⟩ := h1.cells
  obtain ⟨b0, b1, b2⟩ := hT1.cells
  have HTF : Hid (t < fr ∧ fr ≤ 1048576) := ⟨htf, hfr⟩
  have HEN := Lib.hid (fun W (hi : IsT W g id (fr : Int) A c L) => end_any g id (fr : Int) A c L W hi r x hx.get (by omega) (by have := hr.len; omega))
  clear h hT hr h1 j1 hT1 hx hW1 hA hg
  by_cases hfin : t + 1 = fr
  · rw [if_pos hfin]
    have hb : (((t : Int) + 1) == (fr : Int)) = true := by simp; omega
    have hd : decide (t + 1 ≠ fr) = false := by simp [hfin]
    rw [hd]
    clear hd hfin htf hfr
    go_enter Tryd.func36, Tryd.ntmps36
    go_upto_region 2 with fail
    rw [HWE.out]
    go_quiet (fail)
    have g1 : (W1.drewN nq).cell? ⟨q, 1, none⟩ = some (.int .i64 ((t : Int) + 1)) := e1
    have g2 : (W1.drewN nq).frozen? ⟨q, 1, none⟩ = false := (HC1.out.drewN nq).free 1
    have hc2 := (HC1.out.drewN nq).set1 0
    have g3 := hc2.cells.2.2
    have g4 := hc2.free 2
    have hc3 := hc2.set2 0
    have hj3 : Just q w (((W1.drewN nq).setCell ⟨q, 1, none⟩ (.int .i64 0)).setCell ⟨q, 2, none⟩ (.int .i64 ((0 : Nat) : Int))) := just_trans (just_trans (just_drewN HJ1.out nq) (just_cell _ _ _ _)) (just_cell _ _ _ _)
    obtain ⟨W2, hW2⟩ : ∃ W, W1.drewN nq = W := ⟨_, rfl⟩
    rw [hW2] at g1 g2 g3 g4 hc3 hj3
    rw [hW2]
    have HC3 := Lib.hid hc3
    have HJ3 := Lib.hid hj3
    clear hc2 hc3 hj3 hW2 e0 e1 e2 b0 b1 b2 HWE
    go_wp2
    go_ret
    obtain ⟨x', hx0⟩ : ∃ x', L[0]? = some x' := by
      obtain ⟨k, y, hy, _⟩ := run_at HRU.out.gr (t := 0) (by omega) (by have := HRU.out.fr1; omega)
      have := (List.getElem?_eq_some_iff.1 hy).1
      exact ⟨_, List.getElem?_eq_getElem (by omega)⟩
    have hx00 := HRU.out.gr.at_ 0 x' hx0
    refine ⟨rfl, ⟨0, x', HC3.out, at_run HRU.out.gr hx0 ?_ ?_⟩, HJ3.out⟩
    · have := hx00.1; simp [sumA] at this; simp [this]
    · have := hx00.1; have h2 := hx00.2.1; simp [sumA] at this; simp [this]; omega
  · rw [if_neg hfin]
    have hb : (((t : Int) + 1) == (fr : Int)) = false := by simp; omega
    have hb2 : ¬ (t : Int) + 1 = (fr : Int) := by omega
    have hd : decide (t + 1 ≠ fr) = true := by simp [hfin]
    rw [hd]
    have HFN : Hid (t + 1 < fr) := by show _ < _; omega
    clear hd hfin htf hfr
    go_enter Tryd.func36, Tryd.ntmps36
    go_upto_region 2 with fail
    rw [HWE.out]
    go_quiet (fail)
    have hc2 := HC1.out.drewN nq
    have ht2 := HT1.out.drewN nq
    have hj2 := just_drewN HJ1.out nq
    obtain ⟨W2, hW2⟩ : ∃ W, W1.drewN nq = W := ⟨_, rfl⟩
    rw [hW2] at hc2 ht2 hj2
    rw [hW2]
    have HC2 := Lib.hid hc2
    have HT2 := Lib.hid (ht2.drewN 1)
    have HJ2 := Lib.hid hj2
    obtain ⟨e0, e1, e2⟩ := hc2.cells
    clear hc2 ht2 hj2 hW2 b0 b1 b2 HWE HC1 HT1 HJ1
    go_wp2_with fail
    go_region_held3 (fun wx => wx.cell? ⟨q, 0, none⟩ = some (.pointer (some ⟨g, 0, none⟩)) ∧ wx.cell? ⟨q, 1, none⟩ = some (.int .i64 ((t : Int) + 1)) ∧ wx.cell? ⟨q, 2, none⟩ = some (.int .i64 (r : Int)))
      (first | (refine ⟨?_, ?_, ?_⟩ <;> assumption) | (go_keep; done))
      (first
        | (go_at_call 53; refine (HEN.out _ HT2.out).mono ?_; rintro e w3 ⟨rfl, n3, rfl⟩))
    all_goals
      have hc3 := HC2.out.drewN (1 + n3)
      have hj3 := just_drewN HJ2.out (1 + n3)
      obtain ⟨W3, hW3⟩ : ∃ W, W2.drewN (1 + n3) = W := ⟨_, rfl⟩
      rw [hW3] at hc3 hj3
      rw [hW3]
      have HC3 := Lib.hid hc3
      have HJ3 := Lib.hid hj3
      have e5 := hc3.cells.2.2
      have e6 := hc3.free 2
      obtain ⟨ev, hev⟩ : ∃ v, x.p + x.a = v := ⟨_, rfl⟩
      have HEV := Lib.hid hev
      rw [hev]
      clear hc3 hj3 hW3 e0 e1 e2 HC2 HJ2 HT2 HEN hev
      by_cases he : (t : Int) + 1 = ev
      · have tb : ((t : Int) + 1 == ev) = true := by simp [he]
        have HE := Lib.hid he
        have hrl := (List.getElem?_eq_some_iff.1 HAT.out.get).1
        have hrb := HRU.out.len
        have hfb := HTF.out
        have hr1 : IntKind.i64.wrap ((r : Int) + 1) = (r : Int) + 1 := IntWalk.i64_in _ (by omega)
        have hc4 := HC3.out.set2 (r + 1)
        rw [show ((r + 1 : Nat) : Int) = (r : Int) + 1 by omega] at hc4
        have hj4 := just_trans HJ3.out (just_cell W3 q 2 (.int .i64 ((r : Int) + 1)))
        have HC4 := Lib.hid hc4
        have HJ4 := Lib.hid hj4
        clear he hc4 hj4 hrl hrb hfb
        go_wp2
        go_ret
        rw [show ((t + 1 : Nat) : Int) = (t : Int) + 1 by omega]
        obtain ⟨y, hy, hy1, hy2⟩ := next_run HRU.out.gr HAT.out.get (by have := HEV.out; have := HE.out; have := HFN.out; omega)
        have hev := HEV.out
        have hee := HE.out
        refine ⟨rfl, ⟨r + 1, y, ⟨?_⟩, at_run HRU.out.gr hy (by omega) (by omega)⟩, HJ4.out⟩
        have h := HC4.out.box
        rw [show ((r + 1 : Nat) : Int) = (r : Int) + 1 by omega]
        exact h
      · have tb : ((t : Int) + 1 == ev) = false := by simp [he]
        have HE : Hid (¬ (t : Int) + 1 = ev) := he
        clear he
        go_wp2
        go_ret
        rw [show ((t + 1 : Nat) : Int) = (t : Int) + 1 by omega]
        have hev := HEV.out
        have hee := HE.out
        have hlo := HAT.out.lo
        have hhi := HAT.out.hi
        exact ⟨rfl, ⟨r, x, HC3.out, at_run HRU.out.gr HAT.out.get (by omega) (by omega)⟩, HJ3.out⟩
end Go.Proofs.YtofcjkfaccdnjaaDoor.Tab
