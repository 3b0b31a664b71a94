
/- What package reader's calls do to a reader: its text, place, section, and what is wrong: New, Enter, Err, Fault, Place, Left, Fail, Need. Condition: the table of names holds what the program lays there. What package reader's Fail and Need do to a reader: the first that is wrong is kept. Condition: the table of names holds what the program lays there. -/

import Derived.Test.YtlbpmbdogkfecaaDoorFltO

import Derived.Test.YtlbpmbdogkfecaaDoorFltK

import Derived.Test.YtlbpmbdogkfecaaDoorOctA

import Derived.Deep.RegionWith

import Derived.Deep.QuietTactic

import Derived.BigQuiet

namespace Go.Proofs.YtlbpmbdogkfecaaDoor.Rdr

open Go.RowKit Go.PlainAid Go.Proofs.YtlbpmbdogkfecaaDoor.Flt

/-- A reader: its text, its place, its section, and what is wrong (class 0: nothing), where. -/
structure St where
  s : ByteArray
  p : Nat
  sec : Int
  k : Nat
  fs : Int
  fa : Int
/-- What is wrong, as an error. -/
def Wrong (w : World) (x : Value) (k : Nat) (s a : Int) : Prop := (k = 0 ∧ s = 0 ∧ a = 0 ∧ x = .nilIface) ∨ (1 ≤ k ∧ k ≤ 18 ∧ IsFault w x [(true, s), (false, a)] k)
def rdCells (t : St) (x : Value) : Array Value := #[.string t.s, .int .i64 t.p, .int .i64 t.sec, x]
/-- Block g is the reader t. -/
def IsRdr (w : World) (g : Nat) (t : St) : Prop := ∃ x, w.heap[g]? = some (.cells (rdCells t x) 49 (0, 0)) ∧ Wrong w x t.k t.fs t.fa
/-- All that was there, but block g, is as it was. -/
structure Just (g : Nat) (w w' : World) : Prop where
  os : w'.os = w.os
  tape : w'.tape = w.tape
  output : w'.output = w.output
  size : w.heap.size ≤ w'.heap.size
  block : ∀ k, k < w.heap.size → k ≠ g → w'.heap[k]? = w.heap[k]?
theorem Just.refl (g : Nat) (w : World) : Just g w w := ⟨rfl, rfl, rfl, Nat.le_refl _, fun _ _ _ => rfl⟩
theorem Just.of_below {g : Nat} {w w' : World} (b : Below w.heap.size w w') : Just g w w' := ⟨b.os, b.tape, b.output, b.size, fun k hk _ => b.block k hk⟩
theorem Just.trans {g : Nat} {a b c : World} (h : Just g a b) (k : Just g b c) : Just g a c :=
  ⟨k.os.trans h.os, k.tape.trans h.tape, k.output.trans h.output, Nat.le_trans h.size k.size, fun i hi hg => (k.block i (Nat.lt_of_lt_of_le hi h.size) hg).trans (h.block i hi hg)⟩
theorem Just.setCell {g : Nat} {a w : World} (h : Just g a w) (o : Nat) (v : Value) : Just g a (w.setCell ⟨g, o, none⟩ v) := by
  have b := (Below.refl 0 w).setCell (p := ⟨g, o, none⟩) (Nat.zero_le _) v
  exact ⟨b.os.trans h.os, b.tape.trans h.tape, b.output.trans h.output, Nat.le_trans h.size b.size, fun k hk hg => (heap_setCell_other w _ k v hg).trans (h.block k hk hg)⟩
theorem Just.below {g B : Nat} {w w' : World} (h : Just g w w') (hB : B ≤ g) (hg : g < w.heap.size) : Below B w w' := ⟨h.os, h.tape, h.output, h.size, fun k hk => h.block k (by omega) (by omega)⟩
theorem Just.drew {g : Nat} {a w : World} (h : Just g a w) : Just g a w.drew := ⟨h.os, h.tape, h.output, h.size, h.block⟩
theorem Wrong.kept {w w' : World} {x : Value} {k : Nat} {s a : Int} (h : Wrong w x k s a) (b : KeptW w w') : Wrong w' x k s a := by
  rcases h with h | ⟨h1, h2, h3⟩
  · exact .inl h
  · exact .inr ⟨h1, h2, h3.only b⟩
theorem IsRdr.lt {w : World} {g : Nat} {t : St} (h : IsRdr w g t) : g < w.heap.size := by obtain ⟨x, h, _⟩ := h; exact lt_of_block h
theorem IsRdr.kept {w w' : World} {g : Nat} {t : St} (h : IsRdr w g t) (b : Below w.heap.size w w') : IsRdr w' g t := by
  obtain ⟨x, h1, h2⟩ := h
  exact ⟨x, (b.block _ (lt_of_block h1)).trans h1, h2.kept (KeptW.below b)⟩
theorem keptW_just {w w' : World} {g : Nat} {t : St} {x : Value} (h : w.heap[g]? = some (.cells (rdCells t x) 49 (0, 0))) (j : Just g w w') : KeptW w w' := by
  intro k cs hk
  refine j.block k (lt_of_block hk) ?_
  rintro rfl
  rw [hk] at h
  simp at h
theorem Names.just {w w' : World} {g : Nat} {t : St} (hn : Names w) (h : IsRdr w g t) (j : Just g w w') : Names w' := by
  obtain ⟨u, hu⟩ := hn
  obtain ⟨x, hx, _⟩ := h
  refine ⟨u, (j.block _ (lt_of_block hu) ?_).trans hu⟩
  rintro rfl
  rw [hu] at hx
  simp only [Option.some.injEq, Obj.cells.injEq] at hx
  have := congrArg Array.size hx.1
  simp [rdCells, nmCells_size] at this

theorem cells_of {w : World} {g : Nat} {t : St} {x : Value} (h : w.heap[g]? = some (.cells (rdCells t x) 49 (0, 0))) :
    w.cell? ⟨g, 0, none⟩ = some (.string t.s) ∧ w.cell? ⟨g, 1, none⟩ = some (.int .i64 t.p) ∧ w.cell? ⟨g, 2, none⟩ = some (.int .i64 t.sec) ∧ w.cell? ⟨g, 3, none⟩ = some x ∧ ∀ o, w.frozen? ⟨g, o, none⟩ = false := by
  refine ⟨?_, ?_, ?_, ?_, fun o => frozen_of_row w _ _ _ _ h⟩
  all_goals (rw [cell_of_row w _ _ _ _ _ h]; rfl)
theorem set_place {w : World} {g : Nat} {t : St} {x : Value} (h : w.heap[g]? = some (.cells (rdCells t x) 49 (0, 0))) (q : Nat) :
    (w.setCell ⟨g, 1, none⟩ (.int .i64 q)).heap[g]? = some (.cells (rdCells { t with p := q } x) 49 (0, 0)) := by
  rw [heap_setCell_same w _ _ _ _ _ h]; rfl
theorem set_sec {w : World} {g : Nat} {t : St} {x : Value} (h : w.heap[g]? = some (.cells (rdCells t x) 49 (0, 0))) (q : Int) :
    (w.setCell ⟨g, 2, none⟩ (.int .i64 q)).heap[g]? = some (.cells (rdCells { t with sec := q } x) 49 (0, 0)) := by
  rw [heap_setCell_same w _ _ _ _ _ h]; rfl
theorem set_wrong {w : World} {g : Nat} {t : St} {x : Value} (h : w.heap[g]? = some (.cells (rdCells t x) 49 (0, 0))) (y : Value) :
    (w.setCell ⟨g, 3, none⟩ y).heap[g]? = some (.cells (rdCells t y) 49 (0, 0)) := by
  rw [heap_setCell_same w _ _ _ _ _ h]; rfl

theorem new_any (s : ByteArray) (w : World) :
    Calls Tryd.prog 13 #[.string s] w fun e w' => ∃ g, w.heap.size ≤ g ∧ e = .returned (.pointer (some ⟨g, 0, none⟩)) ∧ IsRdr w' g ⟨s, 0, 0, 0, 0, 0⟩ ∧ Below w.heap.size w w' := by
  go_enter Tryd.func13, Tryd.ntmps13
  go_wp2
  go_ret
  exact ⟨w.heap.size, Nat.le_refl _, rfl, ⟨.nilIface, heap_alloc_new _ _, .inl ⟨rfl, rfl, rfl, rfl⟩⟩, (Below.refl _ _).alloc (Nat.le_refl _) _⟩
theorem place_any (g : Nat) (t : St) (w : World) (h : IsRdr w g t) :
    Calls Tryd.prog 25 #[.pointer (some ⟨g, 0, none⟩)] w fun e w' => e = .returned (.int .i64 t.p) ∧ w = w' := by
  obtain ⟨x, h1, _⟩ := h
  obtain ⟨_, hc, _⟩ := cells_of h1
  clear h1
  go_enter Tryd.func25, Tryd.ntmps25
  go_wp2
  go_ret
  exact ⟨rfl, rfl⟩
theorem err_any (g : Nat) (t : St) (w : World) (h : IsRdr w g t) :
    Calls Tryd.prog 24 #[.pointer (some ⟨g, 0, none⟩)] w fun e w' => ∃ x, Wrong w x t.k t.fs t.fa ∧ e = .returned x ∧ w = w' := by
  obtain ⟨x, h1, h2⟩ := h
  obtain ⟨_, _, _, hc, _⟩ := cells_of h1
  have H2 := Lib.hid h2
  clear h1 h2
  go_enter Tryd.func24, Tryd.ntmps24
  go_wp2
  go_ret
  exact ⟨_, H2.out, rfl, rfl⟩
theorem of_wrong {x : Value} {k : Nat} {s a : Int} {w0 : World} (w : World) (hw : Wrong w0 x k s a) (hk : KeptW w0 w) :
    Calls Tryd.prog 15 #[x] w fun e w' => e = .returned (fltV k s a) ∧ Below w.heap.size w w' := by
  rcases hw with ⟨rfl, rfl, rfl, rfl⟩ | ⟨_, _, h⟩
  · exact of_nil w
  · exact of_any x [(true, s), (false, a)] k w (h.only hk) (by simp)
def secS (t : St) (n : Int) : St := { t with sec := n }
theorem enter_any (g : Nat) (t : St) (n : Int) (w : World) (h : IsRdr w g t) :
    Calls Tryd.prog 22 #[.pointer (some ⟨g, 0, none⟩), .int .i64 n] w fun e w' => e = .returned (.tuple #[]) ∧ IsRdr w' g (secS t n) ∧ Just g w w' := by
  obtain ⟨x, h1, h2⟩ := h
  have HS := Lib.hid (set_sec h1 n)
  have HJ := Lib.hid ((Just.refl g w).setCell 2 (.int .i64 n))
  have HW := Lib.hid (h2.kept (keptW_just h1 HJ.out))
  obtain ⟨_, _, _, _, hf⟩ := cells_of h1
  have hf2 := hf 2
  clear h1 h2 hf
  go_enter Tryd.func22, Tryd.ntmps22
  go_wp2
  simp [bodyPost, results, Tryd.results22, go_sem]
  exact ⟨⟨x, HS.out, HW.out⟩, HJ.out⟩
end Go.Proofs.YtlbpmbdogkfecaaDoor.Rdr

namespace Go.Proofs.YtlbpmbdogkfecaaDoor.Rdr

open Go.RowKit Go.PlainAid Go.Proofs.YtlbpmbdogkfecaaDoor.Flt

def failS (t : St) (k a : Int) : St := if t.k = 0 ∧ 1 ≤ k ∧ k ≤ 18 then { t with k := k.toNat, fs := t.sec, fa := a } else t
theorem fail_had {t : St} {k a : Int} (h : t.k ≠ 0) : failS t k a = t := by unfold failS; rw [if_neg (by omega)]
theorem fail_no {t : St} {k a : Int} (h : k < 1 ∨ 18 < k) : failS t k a = t := by unfold failS; rw [if_neg (by omega)]
theorem fail_yes {t : St} {k : Nat} {a : Int} (h0 : t.k = 0) (h1 : 1 ≤ k) (h2 : k ≤ 18) : failS t k a = { t with k := k, fs := t.sec, fa := a } := by
  unfold failS; rw [if_pos (by omega)]; simp
theorem in_nil (n : Int) (w : World) :
    Calls Tryd.prog 41 #[.int .i64 n, .nilIface] w fun e w' => e = .returned .nilIface ∧ w = w' := by
  go_enter Tryd.func41, Tryd.ntmps41
  go_wp2_with (go_at_call 48; refine (wrapped_nil _ _ _).mono ?_; rintro e w' ⟨rfl, rfl⟩)
  go_ret
  exact ⟨rfl, rfl⟩

theorem err_of {w : World} {x : Value} {ws : List (Bool × Int)} {k : Int} (h : IsFault w x ws k) : ∃ u y, x = .iface u y := by
  cases ws with
  | nil => exact ⟨_, _, h⟩
  | cons a ws => obtain ⟨g, y, e, _⟩ := h; exact ⟨_, _, e⟩
def FPost (g : Nat) (t : St) (w : World) (e : Ending) (w' : World) : Prop := e = .returned (.tuple #[]) ∧ IsRdr w' g t ∧ Just g w w'
theorem fail_1 (g : Nat) (t : St) (k a : Int) (w : World) (h : IsRdr w g t) (hk : t.k ≠ 0) :
    Calls Tryd.prog 35 #[.pointer (some ⟨g, 0, none⟩), .int .i64 k, .int .i64 a] w (FPost g t w) := by
  have H := Lib.hid h
  obtain ⟨x, h1, h2⟩ := h
  obtain ⟨_, _, _, hc, _⟩ := cells_of h1
  obtain ⟨u, y, rfl⟩ : ∃ u y, x = .iface u y := by
    rcases h2 with ⟨h, _⟩ | ⟨_, _, g, y, e, _⟩
    · exact absurd h hk
    · exact ⟨_, _, e⟩
  clear h1 h2 hk
  go_enter Tryd.func35, Tryd.ntmps35
  go_wp2
  simp [bodyPost, results, Tryd.results35, go_sem]
  exact ⟨rfl, H.out, Just.refl _ _⟩
set_option maxRecDepth 4000 in
set_option maxHeartbeats 800000 in
theorem fail_2 (g : Nat) (t : St) (k : Nat) (a : Int) (w : World) (hn : Names w) (h : IsRdr w g t) (h0 : t.k = 0) (hk1 : 1 ≤ k) (hk2 : k ≤ 18) :
    Calls Tryd.prog 35 #[.pointer (some ⟨g, 0, none⟩), .int .i64 k, .int .i64 a] w (FPost g { t with k := k, fs := t.sec, fa := a } w) := by
  have H := Lib.hid h
  obtain ⟨x, h1, h2⟩ := h
  obtain ⟨_, _, hc2, hc, _⟩ := cells_of h1
  obtain rfl : x = .nilIface := by
    rcases h2 with ⟨_, _, _, h⟩ | ⟨h, _⟩
    · exact h
    · omega
  have HN := Lib.hid hn
  have HG := Lib.hid h1
  have HA : Hid (∀ w1, Below w.heap.size w w1 → w1.cell? ⟨g, 2, none⟩ = some (.int .i64 t.sec)) := fun w1 hb => (hb.cell (lt_of_block h1)).trans hc2
  have HF : Hid (∀ w1, Below w.heap.size w w1 → w1.frozen? ⟨g, 3, none⟩ = false ∧ w1.cell? ⟨g, 3, none⟩ = some .nilIface) := fun w1 hb => have hh := cells_of ((hb.block _ (lt_of_block h1)).trans h1); ⟨hh.2.2.2.2 3, hh.2.2.2.1⟩
  have HE : Hid (∀ w1 y, Below w.heap.size w w1 → IsFault w1 y [(true, t.sec), (false, a)] k → FPost g { t with k := k, fs := t.sec, fa := a } w (.returned (.tuple #[])) (w1.setCell ⟨g, 3, none⟩ y)) := by
    intro w1 y hb hy
    have h1' := (hb.block _ (lt_of_block h1)).trans h1
    exact ⟨rfl, ⟨y, set_wrong h1' y, .inr ⟨hk1, hk2, hy.only (keptW_just h1' ((Just.refl g w1).setCell 3 y))⟩⟩, (Just.of_below hb).setCell 3 y⟩
  have HK1 := Lib.hid hk1
  have HK2 := Lib.hid hk2
  obtain ⟨c, hcc⟩ : ∃ c, t.sec = c := ⟨_, rfl⟩
  rw [hcc] at hc2 HA HE ⊢
  clear h1 h2 hn h0 hk1 hk2 hcc
  go_enter Tryd.func35, Tryd.ntmps35
  go_wp2
  have hb0 : Below w.heap.size w w.drew := (Below.refl _ _).drew
  refine wp_region_any (by kernel_rfl) ?_
  try (change wpAny _ _ _ _ _ _ _ (World.drew _))
  refine wpAny_take (i := 0) (v := ?_) rfl (by kernel_rfl) (by kernel_rfl) (by kernel_rfl) (fun _ _ _ h => h) (Or.inl ⟨by kernel_rfl, ?_⟩) ?_
  rotate_left
  · intro w; go_simp <;> with_reducible rfl
  refine wpAny_take (i := 1) (v := ?_) rfl (by kernel_rfl) (by kernel_rfl) (by kernel_rfl) (fun _ _ _ h => h) (Or.inl ⟨by kernel_rfl, ?_⟩) ?_
  rotate_left
  · intro w; go_simp <;> with_reducible rfl
  refine wpAny_take (i := 2) (v := ?_) rfl (by kernel_rfl) (by kernel_rfl) (by kernel_rfl) (fun _ _ _ h => h) (Or.inl ⟨by kernel_rfl, ?_⟩) ?_
  rotate_left
  · intro w; go_simp <;> with_reducible rfl
  refine wpAny_take (i := 3) (v := ?_) rfl (by kernel_rfl) (by kernel_rfl) (by kernel_rfl) (fun _ _ _ h => h) (Or.inl ⟨by kernel_rfl, ?_⟩) ?_
  rotate_left
  · intro w; go_simp <;> with_reducible rfl
  refine wpAny_take (i := 5) (v := ?_) rfl (by kernel_rfl) (by kernel_rfl) (by kernel_rfl) (fun _ _ _ h => h) (Or.inl ⟨by kernel_rfl, ?_⟩) ?_
  rotate_left
  · intro w; go_simp <;> with_reducible rfl
  refine wpAny_take (i := 6) (v := ?_) rfl (by kernel_rfl) (by kernel_rfl) (by kernel_rfl) (fun _ _ _ h => h) (Or.inl ⟨by kernel_rfl, ?_⟩) ?_
  rotate_left
  · intro w; go_simp <;> with_reducible rfl
  refine wpAny_ready (rs := [4, 7]) (by kernel_rfl) (by simp) ?_
  refine AllReady.cons rfl (fun K hK => ?_) (AllReady.cons rfl (fun K hK => ?_) AllReady.nil)
  ·
    go_simp
    refine hK _ _ ?_; clear hK K
    refine wpAny_ready (rs := [7]) (by kernel_rfl) (by simp) ?_
    refine AllReady.cons rfl (fun K hK => ?_) AllReady.nil
    go_simp
    go_wp2_with (go_at_call 43; refine (new_yes k HK1.out HK2.out _ (HN.out.kept hb0)).mono ?_; rintro e w1 ⟨rfl, rfl⟩)
    refine wpAny_ready (rs := [8]) (by kernel_rfl) (by simp) ?_
    refine AllReady.cons rfl (fun K hK => ?_) AllReady.nil
    go_simp
    go_wp2_with (go_at_call 42; refine (at_any a _ [] k _ rfl).mono ?_; rintro e w2 ⟨y, rfl, hy, hb2⟩; have hc4 := HA.out w2 (hb0.trans (hb2.mono hb0.size)))
    refine wpAny_ready (rs := [9]) (by kernel_rfl) (by simp) ?_
    refine AllReady.cons rfl (fun K hK => ?_) AllReady.nil
    go_simp
    go_wp2_with (go_at_call 41; refine (in_any c y _ k _ hy).mono ?_; rintro e w3 ⟨z, rfl, hz, hb3⟩; obtain ⟨uz, vz, rfl⟩ := err_of hz; have hb4 : Below w.heap.size w w3 := hb0.trans ((hb2.mono hb0.size).trans (hb3.mono (Nat.le_trans hb0.size hb2.size))); obtain ⟨hf4, hc5⟩ := HF.out w3 hb4; have HZ := Lib.hid (HE.out w3 _ hb4 hz); clear hz hb4 hb3 hb2 hy)
    refine wpAny_take (i := 10) (v := ?_) rfl (by kernel_rfl) (by kernel_rfl) (by kernel_rfl) (fun _ _ _ h => h) (Or.inl ⟨by kernel_rfl, ?_⟩) ?_
    rotate_left
    · intro w; go_simp <;> with_reducible rfl
    refine wpAny_take (i := 11) (v := ?_) rfl (by kernel_rfl) (by kernel_rfl) (by kernel_rfl) (fun _ _ _ h => h) (Or.inl ⟨by kernel_rfl, ?_⟩) ?_
    rotate_left
    · intro w; go_simp <;> with_reducible rfl
    refine wpAny_ready (rs := [12]) (by kernel_rfl) (by simp) ?_
    refine AllReady.cons rfl (fun K hK => ?_) AllReady.nil
    go_simp
    refine hK _ _ ?_; clear hK K
    refine wpAny_done (by kernel_rfl) ?_ _
    go_wp2
    simp [bodyPost, results, Tryd.results35, go_sem]
    exact HZ.out
  ·
    go_simp
    go_wp2_with (go_at_call 43; refine (new_yes k HK1.out HK2.out _ (HN.out.kept hb0)).mono ?_; rintro e w1 ⟨rfl, rfl⟩)
    refine wpAny_ready (rs := [4, 8]) (by kernel_rfl) (by simp) ?_
    refine AllReady.cons rfl (fun K hK => ?_) (AllReady.cons rfl (fun K hK => ?_) AllReady.nil)
    ·
      go_simp
      refine hK _ _ ?_; clear hK K
      refine wpAny_ready (rs := [8]) (by kernel_rfl) (by simp) ?_
      refine AllReady.cons rfl (fun K hK => ?_) AllReady.nil
      go_simp
      go_wp2_with (go_at_call 42; refine (at_any a _ [] k _ rfl).mono ?_; rintro e w2 ⟨y, rfl, hy, hb2⟩; have hc4 := HA.out w2 (hb0.trans (hb2.mono hb0.size)))
      refine wpAny_ready (rs := [9]) (by kernel_rfl) (by simp) ?_
      refine AllReady.cons rfl (fun K hK => ?_) AllReady.nil
      go_simp
      go_wp2_with (go_at_call 41; refine (in_any c y _ k _ hy).mono ?_; rintro e w3 ⟨z, rfl, hz, hb3⟩; obtain ⟨uz, vz, rfl⟩ := err_of hz; have hb4 : Below w.heap.size w w3 := hb0.trans ((hb2.mono hb0.size).trans (hb3.mono (Nat.le_trans hb0.size hb2.size))); obtain ⟨hf4, hc5⟩ := HF.out w3 hb4; have HZ := Lib.hid (HE.out w3 _ hb4 hz); clear hz hb4 hb3 hb2 hy)
      refine wpAny_take (i := 10) (v := ?_) rfl (by kernel_rfl) (by kernel_rfl) (by kernel_rfl) (fun _ _ _ h => h) (Or.inl ⟨by kernel_rfl, ?_⟩) ?_
      rotate_left
      · intro w; go_simp <;> with_reducible rfl
      refine wpAny_take (i := 11) (v := ?_) rfl (by kernel_rfl) (by kernel_rfl) (by kernel_rfl) (fun _ _ _ h => h) (Or.inl ⟨by kernel_rfl, ?_⟩) ?_
      rotate_left
      · intro w; go_simp <;> with_reducible rfl
      refine wpAny_ready (rs := [12]) (by kernel_rfl) (by simp) ?_
      refine AllReady.cons rfl (fun K hK => ?_) AllReady.nil
      go_simp
      refine hK _ _ ?_; clear hK K
      refine wpAny_done (by kernel_rfl) ?_ _
      go_wp2
      simp [bodyPost, results, Tryd.results35, go_sem]
      exact HZ.out
    ·
      go_simp
      go_wp2_with (go_at_call 42; refine (at_any a _ [] k _ rfl).mono ?_; rintro e w2 ⟨y, rfl, hy, hb2⟩; have hc4 := HA.out w2 (hb0.trans (hb2.mono hb0.size)))
      refine wpAny_ready (rs := [4]) (by kernel_rfl) (by simp) ?_
      refine AllReady.cons rfl (fun K hK => ?_) AllReady.nil
      go_simp
      refine hK _ _ ?_; clear hK K
      refine wpAny_ready (rs := [9]) (by kernel_rfl) (by simp) ?_
      refine AllReady.cons rfl (fun K hK => ?_) AllReady.nil
      go_simp
      go_wp2_with (go_at_call 41; refine (in_any c y _ k _ hy).mono ?_; rintro e w3 ⟨z, rfl, hz, hb3⟩; obtain ⟨uz, vz, rfl⟩ := err_of hz; have hb4 : Below w.heap.size w w3 := hb0.trans ((hb2.mono hb0.size).trans (hb3.mono (Nat.le_trans hb0.size hb2.size))); obtain ⟨hf4, hc5⟩ := HF.out w3 hb4; have HZ := Lib.hid (HE.out w3 _ hb4 hz); clear hz hb4 hb3 hb2 hy)
      refine wpAny_take (i := 10) (v := ?_) rfl (by kernel_rfl) (by kernel_rfl) (by kernel_rfl) (fun _ _ _ h => h) (Or.inl ⟨by kernel_rfl, ?_⟩) ?_
      rotate_left
      · intro w; go_simp <;> with_reducible rfl
      refine wpAny_take (i := 11) (v := ?_) rfl (by kernel_rfl) (by kernel_rfl) (by kernel_rfl) (fun _ _ _ h => h) (Or.inl ⟨by kernel_rfl, ?_⟩) ?_
      rotate_left
      · intro w; go_simp <;> with_reducible rfl
      refine wpAny_ready (rs := [12]) (by kernel_rfl) (by simp) ?_
      refine AllReady.cons rfl (fun K hK => ?_) AllReady.nil
      go_simp
      refine hK _ _ ?_; clear hK K
      refine wpAny_done (by kernel_rfl) ?_ _
      go_wp2
      simp [bodyPost, results, Tryd.results35, go_sem]
      exact HZ.out
set_option maxRecDepth 4000 in
set_option maxHeartbeats 800000 in
theorem fail_3 (g : Nat) (t : St) (k a : Int) (w : World) (hn : Names w) (hk : -9223372036854775808 ≤ k ∧ k ≤ 9223372036854775807) (h : IsRdr w g t) (h0 : t.k = 0) (hno : k < 1 ∨ 18 < k) :
    Calls Tryd.prog 35 #[.pointer (some ⟨g, 0, none⟩), .int .i64 k, .int .i64 a] w (FPost g t w) := by
  obtain ⟨x, h1, h2⟩ := h
  obtain ⟨_, _, hc2, hc, hff⟩ := cells_of h1
  have hf3 := hff 3
  obtain rfl : x = .nilIface := by
    rcases h2 with ⟨_, _, _, h⟩ | ⟨h, _⟩
    · exact h
    · omega
  have HNN : Hid (∀ w : World, Names w → Calls Tryd.prog 43 #[.int .i64 k] w fun e w' => e = .returned .nilIface ∧ w = w') := fun w hn => new_no k hk hno w hn
  have HN := Lib.hid hn
  have HE : Hid (FPost g t w (.returned (.tuple #[])) (w.drew.setCell ⟨g, 3, none⟩ .nilIface)) := by
    exact ⟨rfl, ⟨.nilIface, set_wrong (w := w.drew) h1 _, h2.kept (keptW_just h1 (((Just.refl g w).drew).setCell 3 _))⟩, ((Just.refl g w).drew).setCell 3 _⟩
  obtain ⟨c, hcc⟩ : ∃ c, t.sec = c := ⟨_, rfl⟩
  rw [hcc] at hc2
  clear h1 h2 hn h0 hno hff hk hcc
  have hb0 : Below w.heap.size w w.drew := (Below.refl _ _).drew
  go_enter Tryd.func35, Tryd.ntmps35
  go_wp2
  refine wp_region_any (by kernel_rfl) ?_
  try (change wpAny _ _ _ _ _ _ _ (World.drew _))
  refine wpAny_take (i := 0) (v := ?_) rfl (by kernel_rfl) (by kernel_rfl) (by kernel_rfl) (fun _ _ _ h => h) (Or.inl ⟨by kernel_rfl, ?_⟩) ?_
  rotate_left
  · intro w; go_simp <;> with_reducible rfl
  refine wpAny_take (i := 1) (v := ?_) rfl (by kernel_rfl) (by kernel_rfl) (by kernel_rfl) (fun _ _ _ h => h) (Or.inl ⟨by kernel_rfl, ?_⟩) ?_
  rotate_left
  · intro w; go_simp <;> with_reducible rfl
  refine wpAny_take (i := 2) (v := ?_) rfl (by kernel_rfl) (by kernel_rfl) (by kernel_rfl) (fun _ _ _ h => h) (Or.inl ⟨by kernel_rfl, ?_⟩) ?_
  rotate_left
  · intro w; go_simp <;> with_reducible rfl
  refine wpAny_take (i := 3) (v := ?_) rfl (by kernel_rfl) (by kernel_rfl) (by kernel_rfl) (fun _ _ _ h => h) (Or.inl ⟨by kernel_rfl, ?_⟩) ?_
  rotate_left
  · intro w; go_simp <;> with_reducible rfl
  refine wpAny_take (i := 5) (v := ?_) rfl (by kernel_rfl) (by kernel_rfl) (by kernel_rfl) (fun _ _ _ h => h) (Or.inl ⟨by kernel_rfl, ?_⟩) ?_
  rotate_left
  · intro w; go_simp <;> with_reducible rfl
  refine wpAny_take (i := 6) (v := ?_) rfl (by kernel_rfl) (by kernel_rfl) (by kernel_rfl) (fun _ _ _ h => h) (Or.inl ⟨by kernel_rfl, ?_⟩) ?_
  rotate_left
  · intro w; go_simp <;> with_reducible rfl
  refine wpAny_ready (rs := [4, 7]) (by kernel_rfl) (by simp) ?_
  refine AllReady.cons rfl (fun K hK => ?_) (AllReady.cons rfl (fun K hK => ?_) AllReady.nil)
  ·
    go_simp
    refine hK _ _ ?_; clear hK K
    refine wpAny_ready (rs := [7]) (by kernel_rfl) (by simp) ?_
    refine AllReady.cons rfl (fun K hK => ?_) AllReady.nil
    go_simp
    go_wp2_with (go_at_call 43; refine (HNN.out _ (HN.out.kept hb0)).mono ?_; rintro e w1 ⟨rfl, rfl⟩)
    refine wpAny_ready (rs := [8]) (by kernel_rfl) (by simp) ?_
    refine AllReady.cons rfl (fun K hK => ?_) AllReady.nil
    go_simp
    go_wp2_with (go_at_call 42; refine (at_nil a _).mono ?_; rintro e w2 ⟨rfl, rfl⟩)
    refine wpAny_ready (rs := [9]) (by kernel_rfl) (by simp) ?_
    refine AllReady.cons rfl (fun K hK => ?_) AllReady.nil
    go_simp
    go_wp2_with (go_at_call 41; refine (in_nil c _).mono ?_; rintro e w3 ⟨rfl, rfl⟩)
    refine wpAny_take (i := 10) (v := ?_) rfl (by kernel_rfl) (by kernel_rfl) (by kernel_rfl) (fun _ _ _ h => h) (Or.inl ⟨by kernel_rfl, ?_⟩) ?_
    rotate_left
    · intro w; go_simp <;> with_reducible rfl
    refine wpAny_take (i := 11) (v := ?_) rfl (by kernel_rfl) (by kernel_rfl) (by kernel_rfl) (fun _ _ _ h => h) (Or.inl ⟨by kernel_rfl, ?_⟩) ?_
    rotate_left
    · intro w; go_simp <;> with_reducible rfl
    refine wpAny_ready (rs := [12]) (by kernel_rfl) (by simp) ?_
    refine AllReady.cons rfl (fun K hK => ?_) AllReady.nil
    go_simp
    refine hK _ _ ?_; clear hK K
    refine wpAny_done (by kernel_rfl) ?_ _
    go_wp2
    simp [bodyPost, results, Tryd.results35, go_sem]
    exact HE.out
  ·
    go_simp
    go_wp2_with (go_at_call 43; refine (HNN.out _ (HN.out.kept hb0)).mono ?_; rintro e w1 ⟨rfl, rfl⟩)
    refine wpAny_ready (rs := [4, 8]) (by kernel_rfl) (by simp) ?_
    refine AllReady.cons rfl (fun K hK => ?_) (AllReady.cons rfl (fun K hK => ?_) AllReady.nil)
    ·
      go_simp
      refine hK _ _ ?_; clear hK K
      refine wpAny_ready (rs := [8]) (by kernel_rfl) (by simp) ?_
      refine AllReady.cons rfl (fun K hK => ?_) AllReady.nil
      go_simp
      go_wp2_with (go_at_call 42; refine (at_nil a _).mono ?_; rintro e w2 ⟨rfl, rfl⟩)
      refine wpAny_ready (rs := [9]) (by kernel_rfl) (by simp) ?_
      refine AllReady.cons rfl (fun K hK => ?_) AllReady.nil
      go_simp
      go_wp2_with (go_at_call 41; refine (in_nil c _).mono ?_; rintro e w3 ⟨rfl, rfl⟩)
      refine wpAny_take (i := 10) (v := ?_) rfl (by kernel_rfl) (by kernel_rfl) (by kernel_rfl) (fun _ _ _ h => h) (Or.inl ⟨by kernel_rfl, ?_⟩) ?_
      rotate_left
      · intro w; go_simp <;> with_reducible rfl
      refine wpAny_take (i := 11) (v := ?_) rfl (by kernel_rfl) (by kernel_rfl) (by kernel_rfl) (fun _ _ _ h => h) (Or.inl ⟨by kernel_rfl, ?_⟩) ?_
      rotate_left
      · intro w; go_simp <;> with_reducible rfl
      refine wpAny_ready (rs := [12]) (by kernel_rfl) (by simp) ?_
      refine AllReady.cons rfl (fun K hK => ?_) AllReady.nil
      go_simp
      refine hK _ _ ?_; clear hK K
      refine wpAny_done (by kernel_rfl) ?_ _
      go_wp2
      simp [bodyPost, results, Tryd.results35, go_sem]
      exact HE.out
    ·
      go_simp
      go_wp2_with (go_at_call 42; refine (at_nil a _).mono ?_; rintro e w2 ⟨rfl, rfl⟩)
      refine wpAny_ready (rs := [4]) (by kernel_rfl) (by simp) ?_
      refine AllReady.cons rfl (fun K hK => ?_) AllReady.nil
      go_simp
      refine hK _ _ ?_; clear hK K
      refine wpAny_ready (rs := [9]) (by kernel_rfl) (by simp) ?_
      refine AllReady.cons rfl (fun K hK => ?_) AllReady.nil
      go_simp
      go_wp2_with (go_at_call 41; refine (in_nil c _).mono ?_; rintro e w3 ⟨rfl, rfl⟩)
      refine wpAny_take (i := 10) (v := ?_) rfl (by kernel_rfl) (by kernel_rfl) (by kernel_rfl) (fun _ _ _ h => h) (Or.inl ⟨by kernel_rfl, ?_⟩) ?_
      rotate_left
      · intro w; go_simp <;> with_reducible rfl
      refine wpAny_take (i := 11) (v := ?_) rfl (by kernel_rfl) (by kernel_rfl) (by kernel_rfl) (fun _ _ _ h => h) (Or.inl ⟨by kernel_rfl, ?_⟩) ?_
      rotate_left
      · intro w; go_simp <;> with_reducible rfl
      refine wpAny_ready (rs := [12]) (by kernel_rfl) (by simp) ?_
      refine AllReady.cons rfl (fun K hK => ?_) AllReady.nil
      go_simp
      refine hK _ _ ?_; clear hK K
      refine wpAny_done (by kernel_rfl) ?_ _
      go_wp2
      simp [bodyPost, results, Tryd.results35, go_sem]
      exact HE.out

theorem fail_any (g : Nat) (t : St) (k a : Int) (w : World) (hn : Names w) (hk : -9223372036854775808 ≤ k ∧ k ≤ 9223372036854775807) (h : IsRdr w g t) :
    Calls Tryd.prog 35 #[.pointer (some ⟨g, 0, none⟩), .int .i64 k, .int .i64 a] w (FPost g (failS t k a) w) := by
  by_cases h0 : t.k = 0
  · by_cases hc : 1 ≤ k ∧ k ≤ 18
    · obtain ⟨m, rfl⟩ : ∃ m : Nat, k = m := ⟨k.toNat, by omega⟩
      rw [fail_yes h0 (by omega) (by omega)]
      exact fail_2 g t m a w hn h h0 (by omega) (by omega)
    · rw [fail_no (by omega)]
      exact fail_3 g t k a w hn hk h h0 (by omega)
  · rw [fail_had h0]
    exact fail_1 g t k a w h h0

/-- What Need answers: is nothing wrong? -/
def NPost (g : Nat) (t : St) (w : World) (e : Ending) (w' : World) : Prop := e = .returned (.bool (t.k == 0)) ∧ IsRdr w' g t ∧ Just g w w'
theorem need_ok (g : Nat) (t : St) (k a : Int) (w : World) (h : IsRdr w g t) :
    Calls Tryd.prog 27 #[.pointer (some ⟨g, 0, none⟩), .bool true, .int .i64 k, .int .i64 a] w fun e w' => e = .returned (.bool (t.k == 0)) ∧ w = w' := by
  obtain ⟨x, h1, h2⟩ := h
  obtain ⟨_, _, _, hc, _⟩ := cells_of h1
  rcases h2 with ⟨h, _, _, rfl⟩ | ⟨h, _, g', y, rfl, _⟩
  · rw [h]
    clear h h1
    go_enter Tryd.func27, Tryd.ntmps27
    go_wp2
    go_ret
    exact ⟨rfl, rfl⟩
  · have e : (t.k == 0) = false := by simp; omega
    rw [e]
    clear h h1 e
    go_enter Tryd.func27, Tryd.ntmps27
    go_wp2
    go_ret
    exact ⟨rfl, rfl⟩
theorem need_no (g : Nat) (t : St) (k a : Int) (w : World) (hn : Names w) (hk : -9223372036854775808 ≤ k ∧ k ≤ 9223372036854775807) (h : IsRdr w g t) :
    Calls Tryd.prog 27 #[.pointer (some ⟨g, 0, none⟩), .bool false, .int .i64 k, .int .i64 a] w (NPost g (failS t k a) w) := by
  have HF : Hid (Calls Tryd.prog 35 #[.pointer (some ⟨g, 0, none⟩), .int .i64 k, .int .i64 a] w (FPost g (failS t k a) w)) := fail_any g t k a w hn hk h
  obtain ⟨t', ht'⟩ : ∃ t', failS t k a = t' := ⟨_, rfl⟩
  rw [ht'] at HF ⊢
  clear hn hk h ht'
  go_enter Tryd.func27, Tryd.ntmps27
  go_wp2_with fail
  refine HF.out.mono ?_
  rintro e w1 ⟨rfl, h, hj⟩
  have H := Lib.hid h
  have HJ := Lib.hid hj
  obtain ⟨x, h1, h2⟩ := h
  obtain ⟨_, _, _, hc, _⟩ := cells_of h1
  rcases h2 with ⟨h, _, _, rfl⟩ | ⟨h, _, g', y, rfl, _⟩
  · have HB : Hid ((t'.k == 0) = true) := by show _ = _; rw [h]; rfl
    clear h h1 hj
    go_wp2
    go_ret
    exact ⟨by rw [HB.out]; rfl, H.out, HJ.out⟩
  · have HB : Hid ((t'.k == 0) = false) := by show _ = _; simp; omega
    clear h h1 hj
    go_wp2
    go_ret
    exact ⟨by rw [HB.out]; rfl, H.out, HJ.out⟩
end Go.Proofs.YtlbpmbdogkfecaaDoor.Rdr
