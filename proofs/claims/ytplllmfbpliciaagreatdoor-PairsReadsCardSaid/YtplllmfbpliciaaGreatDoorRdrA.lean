
/- What package reader's calls do to a reader: its text, place, section, and what is wrong: New, Enter, Err, Fault, Place, Left, Fail, Need. Condition: the table of names holds what the program lays there. -/

import Derived.Test.YtplllmfbpliciaaGreatDoorFltQ

import Derived.Test.YtplllmfbpliciaaGreatDoorFltK

import Derived.Test.YtplllmfbpliciaaGreatDoorOctG

import Derived.Deep.RegionWith

import Derived.Deep.QuietTactic

import Derived.BigQuiet

namespace Go.Proofs.YtplllmfbpliciaaGreatDoor.Rdr

open Go.RowKit Go.PlainAid Go.Proofs.YtplllmfbpliciaaGreatDoor.Flt

/-- A reader: its text, its place, its section, and what is wrong (class 0: nothing), where. -/
structure St where
  s : ByteArray
  p : Nat
  sec : Int
  k : Nat
  fs : Int
  fa : Int
/-- What is wrong, as an error. -/
def Wrong (w : World) (x : Value) (k : Nat) (s a : Int) : Prop := (k = 0 ∧ s = 0 ∧ a = 0 ∧ x = .nilIface) ∨ (1 ≤ k ∧ k ≤ 18 ∧ IsFault w x [(true, s), (false, a)] k)
def rdCells (t : St) (x : Value) : Array Value := #[.string t.s, .int .i64 t.p, .int .i64 t.sec, x]
/-- Block g is the reader t. -/
def IsRdr (w : World) (g : Nat) (t : St) : Prop := ∃ x, w.heap[g]? = some (.cells (rdCells t x) 64 (0, 0)) ∧ Wrong w x t.k t.fs t.fa
/-- All that was there, but block g, is as it was. -/
structure Just (g : Nat) (w w' : World) : Prop where
  os : w'.os = w.os
  tape : w'.tape = w.tape
  output : w'.output = w.output
  size : w.heap.size ≤ w'.heap.size
  block : ∀ k, k < w.heap.size → k ≠ g → w'.heap[k]? = w.heap[k]?
theorem Just.refl (g : Nat) (w : World) : Just g w w := ⟨rfl, rfl, rfl, Nat.le_refl _, fun _ _ _ => rfl⟩
theorem Just.of_below {g : Nat} {w w' : World} (b : Below w.heap.size w w') : Just g w w' := ⟨b.os, b.tape, b.output, b.size, fun k hk _ => b.block k hk⟩
theorem Just.trans {g : Nat} {a b c : World} (h : Just g a b) (k : Just g b c) : Just g a c :=
  ⟨k.os.trans h.os, k.tape.trans h.tape, k.output.trans h.output, Nat.le_trans h.size k.size, fun i hi hg => (k.block i (Nat.lt_of_lt_of_le hi h.size) hg).trans (h.block i hi hg)⟩
theorem Just.setCell {g : Nat} {a w : World} (h : Just g a w) (o : Nat) (v : Value) : Just g a (w.setCell ⟨g, o, none⟩ v) := by
  have b := (Below.refl 0 w).setCell (p := ⟨g, o, none⟩) (Nat.zero_le _) v
  exact ⟨b.os.trans h.os, b.tape.trans h.tape, b.output.trans h.output, Nat.le_trans h.size b.size, fun k hk hg => (heap_setCell_other w _ k v hg).trans (h.block k hk hg)⟩
theorem Just.below {g B : Nat} {w w' : World} (h : Just g w w') (hB : B ≤ g) (hg : g < w.heap.size) : Below B w w' := ⟨h.os, h.tape, h.output, h.size, fun k hk => h.block k (by omega) (by omega)⟩
theorem Just.drew {g : Nat} {a w : World} (h : Just g a w) : Just g a w.drew := ⟨h.os, h.tape, h.output, h.size, h.block⟩
theorem Wrong.kept {w w' : World} {x : Value} {k : Nat} {s a : Int} (h : Wrong w x k s a) (b : KeptW w w') : Wrong w' x k s a := by
  rcases h with h | ⟨h1, h2, h3⟩
  · exact .inl h
  · exact .inr ⟨h1, h2, h3.only b⟩
theorem IsRdr.lt {w : World} {g : Nat} {t : St} (h : IsRdr w g t) : g < w.heap.size := by obtain ⟨x, h, _⟩ := h; exact lt_of_block h
theorem IsRdr.kept {w w' : World} {g : Nat} {t : St} (h : IsRdr w g t) (b : Below w.heap.size w w') : IsRdr w' g t := by
  obtain ⟨x, h1, h2⟩ := h
  exact ⟨x, (b.block _ (lt_of_block h1)).trans h1, h2.kept (KeptW.below b)⟩
theorem keptW_just {w w' : World} {g : Nat} {t : St} {x : Value} (h : w.heap[g]? = some (.cells (rdCells t x) 64 (0, 0))) (j : Just g w w') : KeptW w w' := by
  intro k cs hk
  refine j.block k (lt_of_block hk) ?_
  rintro rfl
  rw [hk] at h
  simp at h
theorem Names.just {w w' : World} {g : Nat} {t : St} (hn : Names w) (h : IsRdr w g t) (j : Just g w w') : Names w' := by
  obtain ⟨u, hu⟩ := hn
  obtain ⟨x, hx, _⟩ := h
  refine ⟨u, (j.block _ (lt_of_block hu) ?_).trans hu⟩
  rintro rfl
  rw [hu] at hx
  simp only [Option.some.injEq, Obj.cells.injEq] at hx
  have := congrArg Array.size hx.1
  simp [rdCells, nmCells_size] at this

theorem cells_of {w : World} {g : Nat} {t : St} {x : Value} (h : w.heap[g]? = some (.cells (rdCells t x) 64 (0, 0))) :
    w.cell? ⟨g, 0, none⟩ = some (.string t.s) ∧ w.cell? ⟨g, 1, none⟩ = some (.int .i64 t.p) ∧ w.cell? ⟨g, 2, none⟩ = some (.int .i64 t.sec) ∧ w.cell? ⟨g, 3, none⟩ = some x ∧ ∀ o, w.frozen? ⟨g, o, none⟩ = false := by
  refine ⟨?_, ?_, ?_, ?_, fun o => frozen_of_row w _ _ _ _ h⟩
  all_goals (rw [cell_of_row w _ _ _ _ _ h]; rfl)
theorem set_place {w : World} {g : Nat} {t : St} {x : Value} (h : w.heap[g]? = some (.cells (rdCells t x) 64 (0, 0))) (q : Nat) :
    (w.setCell ⟨g, 1, none⟩ (.int .i64 q)).heap[g]? = some (.cells (rdCells { t with p := q } x) 64 (0, 0)) := by
  rw [heap_setCell_same w _ _ _ _ _ h]; rfl
theorem set_sec {w : World} {g : Nat} {t : St} {x : Value} (h : w.heap[g]? = some (.cells (rdCells t x) 64 (0, 0))) (q : Int) :
    (w.setCell ⟨g, 2, none⟩ (.int .i64 q)).heap[g]? = some (.cells (rdCells { t with sec := q } x) 64 (0, 0)) := by
  rw [heap_setCell_same w _ _ _ _ _ h]; rfl
theorem set_wrong {w : World} {g : Nat} {t : St} {x : Value} (h : w.heap[g]? = some (.cells (rdCells t x) 64 (0, 0))) (y : Value) :
    (w.setCell ⟨g, 3, none⟩ y).heap[g]? = some (.cells (rdCells t y) 64 (0, 0)) := by
  rw [heap_setCell_same w _ _ _ _ _ h]; rfl

theorem new_any (s : ByteArray) (w : World) :
    Calls Tryz.prog 9 #[.string s] w fun e w' => ∃ g, w.heap.size ≤ g ∧ e = .returned (.pointer (some ⟨g, 0, none⟩)) ∧ IsRdr w' g ⟨s, 0, 0, 0, 0, 0⟩ ∧ Below w.heap.size w w' := by
  go_enter Tryz.func9, Tryz.ntmps9
  go_wp2
  go_ret
  exact ⟨w.heap.size, Nat.le_refl _, rfl, ⟨.nilIface, heap_alloc_new _ _, .inl ⟨rfl, rfl, rfl, rfl⟩⟩, (Below.refl _ _).alloc (Nat.le_refl _) _⟩
theorem place_any (g : Nat) (t : St) (w : World) (h : IsRdr w g t) :
    Calls Tryz.prog 15 #[.pointer (some ⟨g, 0, none⟩)] w fun e w' => e = .returned (.int .i64 t.p) ∧ w = w' := by
  obtain ⟨x, h1, _⟩ := h
  obtain ⟨_, hc, _⟩ := cells_of h1
  clear h1
  go_enter Tryz.func15, Tryz.ntmps15
  go_wp2
  go_ret
  exact ⟨rfl, rfl⟩
theorem left_any (g : Nat) (t : St) (w : World) (h : IsRdr w g t) (hp : t.p ≤ t.s.size) (hs : t.s.size ≤ maxLen) :
    Calls Tryz.prog 13 #[.pointer (some ⟨g, 0, none⟩)] w fun e w' => e = .returned (.int .i64 ((t.s.size - t.p : Nat) : Int)) ∧ ∃ n, w' = w.drewN n := by
  unfold maxLen at hs
  obtain ⟨x, h1, _⟩ := h
  obtain ⟨hc0, hc1, _⟩ := cells_of h1
  have e : ((t.s.size - t.p : Nat) : Int) = (t.s.size : Int) - (t.p : Int) := by omega
  rw [e]
  clear h1 e
  go_enter Tryz.func13, Tryz.ntmps13
  go_wp2
  go_quiet (fail)
  go_wp2
  go_ret
  exact ⟨rfl, _, rfl⟩
theorem err_any (g : Nat) (t : St) (w : World) (h : IsRdr w g t) :
    Calls Tryz.prog 24 #[.pointer (some ⟨g, 0, none⟩)] w fun e w' => ∃ x, Wrong w x t.k t.fs t.fa ∧ e = .returned x ∧ w = w' := by
  obtain ⟨x, h1, h2⟩ := h
  obtain ⟨_, _, _, hc, _⟩ := cells_of h1
  have H2 := Lib.hid h2
  clear h1 h2
  go_enter Tryz.func24, Tryz.ntmps24
  go_wp2
  go_ret
  exact ⟨_, H2.out, rfl, rfl⟩
theorem of_wrong {x : Value} {k : Nat} {s a : Int} {w0 : World} (w : World) (hw : Wrong w0 x k s a) (hk : KeptW w0 w) :
    Calls Tryz.prog 8 #[x] w fun e w' => e = .returned (fltV k s a) ∧ Below w.heap.size w w' := by
  rcases hw with ⟨rfl, rfl, rfl, rfl⟩ | ⟨_, _, h⟩
  · exact of_nil w
  · exact of_any x [(true, s), (false, a)] k w (h.only hk) (by simp)
def secS (t : St) (n : Int) : St := { t with sec := n }
theorem enter_any (g : Nat) (t : St) (n : Int) (w : World) (h : IsRdr w g t) :
    Calls Tryz.prog 23 #[.pointer (some ⟨g, 0, none⟩), .int .i64 n] w fun e w' => e = .returned (.tuple #[]) ∧ IsRdr w' g (secS t n) ∧ Just g w w' := by
  obtain ⟨x, h1, h2⟩ := h
  have HS := Lib.hid (set_sec h1 n)
  have HJ := Lib.hid ((Just.refl g w).setCell 2 (.int .i64 n))
  have HW := Lib.hid (h2.kept (keptW_just h1 HJ.out))
  obtain ⟨_, _, _, _, hf⟩ := cells_of h1
  have hf2 := hf 2
  clear h1 h2 hf
  go_enter Tryz.func23, Tryz.ntmps23
  go_wp2
  simp [bodyPost, results, Tryz.results23, go_sem]
  exact ⟨⟨x, HS.out, HW.out⟩, HJ.out⟩
end Go.Proofs.YtplllmfbpliciaaGreatDoor.Rdr
