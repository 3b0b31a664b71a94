
/- What the law on package reader's calls does of both readers, the program's and the document's: each call does the same to both. Condition: the table of names holds what the program lays there. -/

import Derived.Test.YtbjolbgjohggiaaDoorRdrF

import Derived.Deep.RegionHeld3

namespace Go.Proofs.YtbjolbgjohggiaaDoor.Rdr

open Go.RowKit Go.PlainAid Go.Proofs.YtbjolbgjohggiaaDoor.Flt Go.Proofs.YtbjolbgjohggiaaDoor.Oct

set_option linter.unusedVariables false

/-- The state behind a call of a kind. -/
def opS (t : St) (K N E : Int) (B : Bool) : St :=
  if K = 1 then numS t 1 else if K = 2 then numS t 2 else if K = 3 then numS t 4 else if K = 4 then numS t 8 else if K = 5 then txtS t N
  else if K = 6 then secS t N else if K = 7 then failS t E N else if K = 8 then (if B then t else failS t E N) else t
def opC (K N E : Int) (B : Bool) : Array Value := #[.int .i64 K, .int .i64 N, .int .i64 E, .bool B]
def OPost (g : Nat) (t : St) (w : World) (e : Ending) (w' : World) : Prop := e = .returned (.tuple #[.agg (rdC t), .bool true]) ∧ IsRdr w' g t ∧ Just g w w'
/-- What the beginning of the call lays: both arguments, and the result's row. -/
abbrev O0 (w : World) (t : St) (op : Array Value) : World := ((w.alloc (.cells (rdC t) 30)).alloc (.cells op 32)).alloc (.cells rd0 30)
theorem o0_below (w : World) (t : St) (op : Array Value) : Below w.heap.size w (O0 w t op) := (((Below.refl _ _).alloc (Nat.le_refl _) _).alloc (by simp) _).alloc (by simp; omega) _
theorem o0_size (w : World) (t : St) (op : Array Value) : (O0 w t op).heap.size = w.heap.size + 3 := by simp [O0]
theorem o0_res (w : World) (t : St) (op : Array Value) : (O0 w t op).heap[w.heap.size + 2]? = some (.cells rd0 30 (0, 0)) := by
  have := heap_alloc_new ((w.alloc (.cells (rdC t) 30)).alloc (.cells op 32)) (.cells rd0 30)
  simpa [O0] using this
/-- What is known behind the document's call and the row of what it tells: the reader, the row, the result's row. -/
structure OF (g : Nat) (t T : St) (w w1 : World) : Prop where
  just : Just g w (w1.alloc (.cells (rdC T) 30))
  names : Names (w1.alloc (.cells (rdC T) 30))
  rdr : IsRdr (w1.alloc (.cells (rdC T) 30)) g t
  row : (w1.alloc (.cells (rdC T) 30)).heap[w1.heap.size]? = some (.cells (rdC T) 30 (0, 0))
  res : (w1.alloc (.cells (rdC T) 30)).heap[w.heap.size + 2]? = some (.cells rd0 30 (0, 0))
  ne : w1.heap.size ≠ w.heap.size + 2
  lt : w.heap.size + 2 < w1.heap.size
  ne1 : w1.heap.size ≠ g
  ne2 : w.heap.size + 2 ≠ g
theorem of_call {g : Nat} {t T : St} {w w1 : World} {op : Array Value} (hn : Names w) (hr : IsRdr w g t) (hb : Below (O0 w t op).heap.size (O0 w t op) w1) : OF g t T w w1 := by
  have hs := hb.size
  rw [o0_size] at hs
  have hlt := hr.lt
  have hb0 := o0_below w t op
  have hb1 : Below w.heap.size w w1 := hb0.trans (hb.mono (by rw [o0_size]; omega))
  have hb2 : Below w.heap.size w (w1.alloc (.cells (rdC T) 30)) := hb1.alloc (by omega) _
  refine ⟨Just.of_below hb2, hn.kept hb2, hr.kept hb2, heap_alloc_new _ _, ?_, by omega, by omega, by omega, by omega⟩
  rw [Below.heap_alloc _ _ _ (by omega), hb.block _ (by rw [o0_size]; omega)]
  exact o0_res w t op
/-- What is known behind the program's call. -/
structure OG (g : Nat) (T : St) (w : World) (C : Nat) (w2 : World) : Prop where
  c0 : w2.cell? ⟨C, 0, none⟩ = some (.string T.s)
  c1 : w2.cell? ⟨C, 1, none⟩ = some (.int .i64 T.p)
  c2 : w2.cell? ⟨C, 2, none⟩ = some (.int .i64 T.sec)
  c3 : w2.cell? ⟨C, 3, none⟩ = some (.int .i64 T.k)
  c4 : w2.cell? ⟨C, 4, none⟩ = some (.int .i64 T.fs)
  c5 : w2.cell? ⟨C, 5, none⟩ = some (.int .i64 T.fa)
  r0 : w2.cell? ⟨w.heap.size + 2, 0, none⟩ = some (.string ⟨#[]⟩)
  r1 : w2.cell? ⟨w.heap.size + 2, 1, none⟩ = some (.int .i64 0)
  r2 : w2.cell? ⟨w.heap.size + 2, 2, none⟩ = some (.int .i64 0)
  r3 : w2.cell? ⟨w.heap.size + 2, 3, none⟩ = some (.int .i64 0)
  r4 : w2.cell? ⟨w.heap.size + 2, 4, none⟩ = some (.int .i64 0)
  r5 : w2.cell? ⟨w.heap.size + 2, 5, none⟩ = some (.int .i64 0)
  fr : ∀ o, w2.frozen? ⟨w.heap.size + 2, o, none⟩ = false
theorem og_of {g : Nat} {t T : St} {w w1 w2 : World} (h : OF g t T w w1) (j : Just g (w1.alloc (.cells (rdC T) 30)) w2) : OG g T w w1.heap.size w2 := by
  have hr : w2.heap[w1.heap.size]? = some (.cells (rdC T) 30 (0, 0)) := (j.block _ (by simp) h.ne1).trans h.row
  have hs : w2.heap[w.heap.size + 2]? = some (.cells rd0 30 (0, 0)) := (j.block _ (by have := h.lt; simp; omega) h.ne2).trans h.res
  refine ⟨?_, ?_, ?_, ?_, ?_, ?_, ?_, ?_, ?_, ?_, ?_, ?_, fun o => frozen_of_row w2 _ _ _ _ hs⟩
  all_goals first | (rw [cell_of_row w2 _ _ _ _ _ hr]; rfl) | (rw [cell_of_row w2 _ _ _ _ _ hs]; rfl)
def six (w : World) (b : Nat) (T : St) : World :=
  (((((w.setCell ⟨b, 0, none⟩ (.string T.s)).setCell ⟨b, 1, none⟩ (.int .i64 T.p)).setCell ⟨b, 2, none⟩ (.int .i64 T.sec)).setCell ⟨b, 3, none⟩ (.int .i64 T.k)).setCell ⟨b, 4, none⟩ (.int .i64 T.fs)).setCell ⟨b, 5, none⟩ (.int .i64 T.fa)
theorem six_row {w : World} {b : Nat} {T : St} (h : w.heap[b]? = some (.cells rd0 30 (0, 0))) : (six w b T).heap[b]? = some (.cells (rdC T) 30 (0, 0)) := by
  have h0 := heap_setCell_same w b 0 _ _ (.string T.s) h
  have h1 := heap_setCell_same _ b 1 _ _ (.int .i64 T.p) h0
  have h2 := heap_setCell_same _ b 2 _ _ (.int .i64 T.sec) h1
  have h3 := heap_setCell_same _ b 3 _ _ (.int .i64 T.k) h2
  have h4 := heap_setCell_same _ b 4 _ _ (.int .i64 T.fs) h3
  have h5 := heap_setCell_same _ b 5 _ _ (.int .i64 T.fa) h4
  unfold six
  rw [h5]; rfl
theorem six_far {w : World} {b c : Nat} {T : St} (hne : c ≠ b) : (six w b T).heap[c]? = w.heap[c]? := by
  unfold six
  rw [heap_setCell_other _ _ _ _ hne, heap_setCell_other _ _ _ _ hne, heap_setCell_other _ _ _ _ hne, heap_setCell_other _ _ _ _ hne, heap_setCell_other _ _ _ _ hne, heap_setCell_other _ _ _ _ hne]
theorem six_size (w : World) (b : Nat) (T : St) : (six w b T).heap.size = w.heap.size := by simp [six]
theorem six_below (w : World) (b : Nat) (T : St) : Below 0 w (six w b T) :=
  ((((((Below.refl 0 w).setCell (p := ⟨b, 0, none⟩) (Nat.zero_le _) _).setCell (p := ⟨b, 1, none⟩) (Nat.zero_le _) _).setCell (p := ⟨b, 2, none⟩) (Nat.zero_le _) _).setCell (p := ⟨b, 3, none⟩) (Nat.zero_le _) _).setCell (p := ⟨b, 4, none⟩) (Nat.zero_le _) _).setCell (p := ⟨b, 5, none⟩) (Nat.zero_le _) _
theorem six_end {g : Nat} {t T : St} {w w1 w2 : World} (h : OF g t T w w1) (j : Just g (w1.alloc (.cells (rdC T) 30)) w2) (hr : IsRdr w2 g T) :
    (six w2 (w.heap.size + 2) T).heap[w.heap.size + 2]? = some (.cells (rdC T) 30 (0, 0)) ∧ IsRdr (six w2 (w.heap.size + 2) T) g T ∧ Just g w (six w2 (w.heap.size + 2) T) := by
  have hs : w2.heap[w.heap.size + 2]? = some (.cells rd0 30 (0, 0)) := (j.block _ (by have := h.lt; simp; omega) h.ne2).trans h.res
  have hj := h.just.trans j
  refine ⟨six_row hs, ?_, ?_⟩
  · obtain ⟨x, h1, h2⟩ := hr
    refine ⟨x, by rw [six_far (Ne.symm h.ne2)]; exact h1, h2.kept ?_⟩
    intro k cs hk
    refine six_far ?_
    rintro rfl
    rw [hs] at hk
    simp at hk
  · have hx := six_below w2 (w.heap.size + 2) T
    exact ⟨hx.os.trans hj.os, hx.tape.trans hj.tape, hx.output.trans hj.output, by rw [six_size]; exact hj.size, fun k hk hkg => by rw [six_far (by omega)]; exact hj.block k hk hkg⟩
theorem six_keep {w2 : World} {b C : Nat} {T : St} (hne : C ≠ b) (d0 : w2.cell? ⟨C, 0, none⟩ = some (.string T.s)) (d1 : w2.cell? ⟨C, 1, none⟩ = some (.int .i64 T.p)) (d2 : w2.cell? ⟨C, 2, none⟩ = some (.int .i64 T.sec)) (d3 : w2.cell? ⟨C, 3, none⟩ = some (.int .i64 T.k)) (d4 : w2.cell? ⟨C, 4, none⟩ = some (.int .i64 T.fs)) (d5 : w2.cell? ⟨C, 5, none⟩ = some (.int .i64 T.fa)) :
    (six w2 b T).cell? ⟨C, 0, none⟩ = some (.string T.s) ∧ (six w2 b T).cell? ⟨C, 1, none⟩ = some (.int .i64 T.p) ∧ (six w2 b T).cell? ⟨C, 2, none⟩ = some (.int .i64 T.sec) ∧ (six w2 b T).cell? ⟨C, 3, none⟩ = some (.int .i64 T.k) ∧ (six w2 b T).cell? ⟨C, 4, none⟩ = some (.int .i64 T.fs) ∧ (six w2 b T).cell? ⟨C, 5, none⟩ = some (.int .i64 T.fa) := by
  have h : ∀ o, (six w2 b T).cell? ⟨C, o, none⟩ = w2.cell? ⟨C, o, none⟩ := fun o => World.cell?_of_block (w := w2) (six_far hne)
  rw [h, h, h, h, h, h]
  exact ⟨d0, d1, d2, d3, d4, d5⟩
theorem of_op {w w1 : World} {t : St} {op : Array Value} (hb : Below (O0 w t op).heap.size (O0 w t op) w1) : w1.heap[w.heap.size + 1]? = some (.cells op 32 (0, 0)) := by
  rw [hb.block _ (by rw [o0_size]; omega)]
  unfold O0
  rw [Below.heap_alloc _ _ _ (by simp)]
  have := heap_alloc_new (w.alloc (.cells (rdC t) 30)) (.cells op 32)
  simpa using this
theorem op_cell {g : Nat} {t T : St} {w w1 w2 : World} {K N E : Int} {B : Bool} (h : OF g t T w w1) (hp : w1.heap[w.heap.size + 1]? = some (.cells (opC K N E B) 32 (0, 0))) (hg : g < w.heap.size) (j : Just g (w1.alloc (.cells (rdC T) 30)) w2) : w2.cell? ⟨w.heap.size + 1, 1, none⟩ = some (.int .i64 N) := by
  have h2 : w2.heap[w.heap.size + 1]? = some (.cells (opC K N E B) 32 (0, 0)) := by
    rw [j.block _ (by have := h.lt; simp; omega) (by omega), Below.heap_alloc _ _ _ (by have := h.lt; omega), hp]
  rw [cell_of_row w2 _ _ _ _ _ h2]; rfl
theorem seven_keep {w2 : World} {b c C : Nat} {T : St} {N : Int} (hcb : c ≠ b) (hne : C ≠ b) (d0 : w2.cell? ⟨C, 0, none⟩ = some (.string T.s)) (d1 : w2.cell? ⟨C, 1, none⟩ = some (.int .i64 T.p)) (d2 : w2.cell? ⟨C, 2, none⟩ = some (.int .i64 T.sec)) (d3 : w2.cell? ⟨C, 3, none⟩ = some (.int .i64 T.k)) (d4 : w2.cell? ⟨C, 4, none⟩ = some (.int .i64 T.fs)) (d5 : w2.cell? ⟨C, 5, none⟩ = some (.int .i64 T.fa)) (d6 : w2.cell? ⟨c, 1, none⟩ = some (.int .i64 N)) :
    (six w2 b T).cell? ⟨C, 0, none⟩ = some (.string T.s) ∧ (six w2 b T).cell? ⟨C, 1, none⟩ = some (.int .i64 T.p) ∧ (six w2 b T).cell? ⟨C, 2, none⟩ = some (.int .i64 T.sec) ∧ (six w2 b T).cell? ⟨C, 3, none⟩ = some (.int .i64 T.k) ∧ (six w2 b T).cell? ⟨C, 4, none⟩ = some (.int .i64 T.fs) ∧ (six w2 b T).cell? ⟨C, 5, none⟩ = some (.int .i64 T.fa) ∧ (six w2 b T).cell? ⟨c, 1, none⟩ = some (.int .i64 N) := by
  have h : ∀ o, (six w2 b T).cell? ⟨C, o, none⟩ = w2.cell? ⟨C, o, none⟩ := fun o => World.cell?_of_block (w := w2) (six_far hne)
  have h' : (six w2 b T).cell? ⟨c, 1, none⟩ = w2.cell? ⟨c, 1, none⟩ := World.cell?_of_block (w := w2) (six_far hcb)
  rw [h, h, h, h, h, h, h']
  exact ⟨d0, d1, d2, d3, d4, d5, d6⟩
set_option maxRecDepth 8000 in
set_option maxHeartbeats 1600000 in
theorem one_1 (g : Nat) (t : St) (N E : Int) (B : Bool) (w : World) (hn : Names w) (h : IsRdr w g t) (ho : Ok t) :
    Calls Tryd.prog 11 #[.pointer (some ⟨g, 0, none⟩), .agg (rdC t), .agg (opC 1 N E B)] w (OPost g (numS t 1) w) := by
  have HNUM := Lib.hid (fun w => rnum_any t 1 w ho (by omega))
  have HU : Hid (∀ w, Names w → IsRdr w g t → Calls Tryd.prog 18 #[.pointer (some ⟨g, 0, none⟩)] w (IPost .i64 g (numS t 1) (numV t 1) w)) := fun w hn hr => u8_any g t w hn hr ho
  have hv := u8_le t
  obtain ⟨v, hvv⟩ : ∃ v, numV t 1 = v := ⟨_, rfl⟩
  obtain ⟨T, hT⟩ : ∃ T, numS t 1 = T := ⟨_, rfl⟩
  rw [hvv] at hv HNUM HU
  rw [hT] at HNUM HU ⊢
  have hqw : IntKind.u64.wrap (v : Int) = (v : Int) := by rw [IntKind.wrap_u64]; omega
  have HN := Lib.hid hn
  have H := Lib.hid h
  have HOF : Hid (∀ w1, Below (O0 w t (opC 1 N E B)).heap.size (O0 w t (opC 1 N E B)) w1 → OF g t T w w1) := fun w1 hb => of_call hn h hb
  clear hn h ho hvv hT hv
  unfold rdC opC
  go_enter Tryd.func11, Tryd.ntmps11
  go_wp2_with (go_at_call 33; refine (HNUM.out _).mono ?_; rintro e w1 ⟨rfl, hb⟩; have HO := Lib.hid (HOF.out w1 hb); clear hb; dsimp only [rdC])
  have HG : Hid (∀ w2, Just g (w1.alloc (.cells (rdC T) 30)) w2 → OG g T w w1.heap.size w2) := fun w2 j => og_of HO.out j
  have HE : Hid (∀ w2, Just g (w1.alloc (.cells (rdC T) 30)) w2 → IsRdr w2 g T → (six w2 (w.heap.size + 2) T).heap[w.heap.size + 2]? = some (.cells (rdC T) 30 (0, 0)) ∧ IsRdr (six w2 (w.heap.size + 2) T) g T ∧ Just g w (six w2 (w.heap.size + 2) T)) := fun w2 j hr => six_end HO.out j hr
  have HUU : Hid (Calls Tryd.prog 18 #[.pointer (some ⟨g, 0, none⟩)] (w1.alloc (.cells (rdC T) 30)).drew (fun e w2 => e = .returned (.int .i64 v) ∧ IsRdr w2 g T ∧ Just g (w1.alloc (.cells (rdC T) 30)) w2)) := (HU.out (w1.alloc (.cells (rdC T) 30)).drew HO.out.names (HO.out.rdr.drewN 1)).mono fun _ _ ⟨a, b, c⟩ => ⟨a, b, ((Just.refl _ _).drewN 1).trans c⟩
  obtain ⟨d0, d1, d2, d3, d4, d5, -, -, -, -, -, -, -⟩ := HG.out _ (Just.refl _ _)
  have hne := HO.out.ne
  dsimp only [rdC] at HG HE HUU d0 d1 d2 d3 d4 d5
  generalize w1.alloc (.cells #[.string T.s, .int .i64 T.p, .int .i64 T.sec, .int .i64 T.k, .int .i64 T.fs, .int .i64 T.fa] 30) = W at HG HE HUU d0 d1 d2 d3 d4 d5 ⊢
  clear HO HOF HU HNUM HN H
  generalize w1.heap.size = C at HG HE d0 d1 d2 d3 d4 d5 hne ⊢
  go_region_held3 (fun w' => w'.cell? ⟨C, 0, none⟩ = some (.string T.s) ∧ w'.cell? ⟨C, 1, none⟩ = some (.int .i64 T.p) ∧ w'.cell? ⟨C, 2, none⟩ = some (.int .i64 T.sec) ∧ w'.cell? ⟨C, 3, none⟩ = some (.int .i64 T.k) ∧ w'.cell? ⟨C, 4, none⟩ = some (.int .i64 T.fs) ∧ w'.cell? ⟨C, 5, none⟩ = some (.int .i64 T.fa)) (first | (go_keep; done) | exact HKP.out)
    (first
      | (go_at_call 18; refine (HUU.out).mono ?_; rintro e w2 ⟨rfl, hr2, hj2⟩; obtain ⟨e0, e1, e2, e3, e4, e5, f0, f1, f2, f3, f4, f5, hf⟩ := HG.out w2 hj2; have HEND := Lib.hid (HE.out w2 hj2 hr2); have HKP := Lib.hid (six_keep (b := w.heap.size + 2) hne e0 e1 e2 e3 e4 e5); clear hr2 hj2)
      | fail)
  go_wp2
  obtain ⟨hrow, hrd, hju⟩ := HEND.out
  refine bodyPost_ret (v := .tuple #[.agg (rdC T), .bool true]) (results_row_tmp (fn := Tryd.f11) (p := 6) (u := 7) (ty := 30) rfl _ (six w2 (w.heap.size + 2) T) (w.heap.size + 2) 30 _ (0, 0) _ rfl hrow Tryd.underlying30 rfl (by rw [size_rd]; rfl)) rfl ⟨rfl, hrd, hju⟩
set_option maxRecDepth 8000 in
set_option maxHeartbeats 1600000 in
theorem one_2 (g : Nat) (t : St) (N E : Int) (B : Bool) (w : World) (hn : Names w) (h : IsRdr w g t) (ho : Ok t) :
    Calls Tryd.prog 11 #[.pointer (some ⟨g, 0, none⟩), .agg (rdC t), .agg (opC 2 N E B)] w (OPost g (numS t 2) w) := by
  have HNUM := Lib.hid (fun w => rnum_any t 2 w ho (by omega))
  have HU : Hid (∀ w, Names w → IsRdr w g t → Calls Tryd.prog 19 #[.pointer (some ⟨g, 0, none⟩)] w (IPost .i64 g (numS t 2) (numV t 2) w)) := fun w hn hr => u16_any g t w hn hr ho
  have hv := u16_le t
  obtain ⟨v, hvv⟩ : ∃ v, numV t 2 = v := ⟨_, rfl⟩
  obtain ⟨T, hT⟩ : ∃ T, numS t 2 = T := ⟨_, rfl⟩
  rw [hvv] at hv HNUM HU
  rw [hT] at HNUM HU ⊢
  have hqw : IntKind.u64.wrap (v : Int) = (v : Int) := by rw [IntKind.wrap_u64]; omega
  have HN := Lib.hid hn
  have H := Lib.hid h
  have HOF : Hid (∀ w1, Below (O0 w t (opC 2 N E B)).heap.size (O0 w t (opC 2 N E B)) w1 → OF g t T w w1) := fun w1 hb => of_call hn h hb
  clear hn h ho hvv hT hv
  unfold rdC opC
  go_enter Tryd.func11, Tryd.ntmps11
  go_wp2_with (go_at_call 33; refine (HNUM.out _).mono ?_; rintro e w1 ⟨rfl, hb⟩; have HO := Lib.hid (HOF.out w1 hb); clear hb; dsimp only [rdC])
  have HG : Hid (∀ w2, Just g (w1.alloc (.cells (rdC T) 30)) w2 → OG g T w w1.heap.size w2) := fun w2 j => og_of HO.out j
  have HE : Hid (∀ w2, Just g (w1.alloc (.cells (rdC T) 30)) w2 → IsRdr w2 g T → (six w2 (w.heap.size + 2) T).heap[w.heap.size + 2]? = some (.cells (rdC T) 30 (0, 0)) ∧ IsRdr (six w2 (w.heap.size + 2) T) g T ∧ Just g w (six w2 (w.heap.size + 2) T)) := fun w2 j hr => six_end HO.out j hr
  have HUU : Hid (Calls Tryd.prog 19 #[.pointer (some ⟨g, 0, none⟩)] (w1.alloc (.cells (rdC T) 30)).drew (fun e w2 => e = .returned (.int .i64 v) ∧ IsRdr w2 g T ∧ Just g (w1.alloc (.cells (rdC T) 30)) w2)) := (HU.out (w1.alloc (.cells (rdC T) 30)).drew HO.out.names (HO.out.rdr.drewN 1)).mono fun _ _ ⟨a, b, c⟩ => ⟨a, b, ((Just.refl _ _).drewN 1).trans c⟩
  obtain ⟨d0, d1, d2, d3, d4, d5, -, -, -, -, -, -, -⟩ := HG.out _ (Just.refl _ _)
  have hne := HO.out.ne
  dsimp only [rdC] at HG HE HUU d0 d1 d2 d3 d4 d5
  generalize w1.alloc (.cells #[.string T.s, .int .i64 T.p, .int .i64 T.sec, .int .i64 T.k, .int .i64 T.fs, .int .i64 T.fa] 30) = W at HG HE HUU d0 d1 d2 d3 d4 d5 ⊢
  clear HO HOF HU HNUM HN H
  generalize w1.heap.size = C at HG HE d0 d1 d2 d3 d4 d5 hne ⊢
  go_region_held3 (fun w' => w'.cell? ⟨C, 0, none⟩ = some (.string T.s) ∧ w'.cell? ⟨C, 1, none⟩ = some (.int .i64 T.p) ∧ w'.cell? ⟨C, 2, none⟩ = some (.int .i64 T.sec) ∧ w'.cell? ⟨C, 3, none⟩ = some (.int .i64 T.k) ∧ w'.cell? ⟨C, 4, none⟩ = some (.int .i64 T.fs) ∧ w'.cell? ⟨C, 5, none⟩ = some (.int .i64 T.fa)) (first | (go_keep; done) | exact HKP.out)
    (first
      | (go_at_call 19; refine (HUU.out).mono ?_; rintro e w2 ⟨rfl, hr2, hj2⟩; obtain ⟨e0, e1, e2, e3, e4, e5, f0, f1, f2, f3, f4, f5, hf⟩ := HG.out w2 hj2; have HEND := Lib.hid (HE.out w2 hj2 hr2); have HKP := Lib.hid (six_keep (b := w.heap.size + 2) hne e0 e1 e2 e3 e4 e5); clear hr2 hj2)
      | fail)
  go_wp2
  obtain ⟨hrow, hrd, hju⟩ := HEND.out
  refine bodyPost_ret (v := .tuple #[.agg (rdC T), .bool true]) (results_row_tmp (fn := Tryd.f11) (p := 6) (u := 7) (ty := 30) rfl _ (six w2 (w.heap.size + 2) T) (w.heap.size + 2) 30 _ (0, 0) _ rfl hrow Tryd.underlying30 rfl (by rw [size_rd]; rfl)) rfl ⟨rfl, hrd, hju⟩
set_option maxRecDepth 8000 in
set_option maxHeartbeats 1600000 in
theorem one_3 (g : Nat) (t : St) (N E : Int) (B : Bool) (w : World) (hn : Names w) (h : IsRdr w g t) (ho : Ok t) :
    Calls Tryd.prog 11 #[.pointer (some ⟨g, 0, none⟩), .agg (rdC t), .agg (opC 3 N E B)] w (OPost g (numS t 4) w) := by
  have HNUM := Lib.hid (fun w => rnum_any t 4 w ho (by omega))
  have HU : Hid (∀ w, Names w → IsRdr w g t → Calls Tryd.prog 20 #[.pointer (some ⟨g, 0, none⟩)] w (IPost .u32 g (numS t 4) (numV t 4) w)) := fun w hn hr => u32_any g t w hn hr ho
  have hv := u32_le t
  obtain ⟨v, hvv⟩ : ∃ v, numV t 4 = v := ⟨_, rfl⟩
  obtain ⟨T, hT⟩ : ∃ T, numS t 4 = T := ⟨_, rfl⟩
  rw [hvv] at hv HNUM HU
  rw [hT] at HNUM HU ⊢
  have hqw : IntKind.u64.wrap (v : Int) = (v : Int) := by rw [IntKind.wrap_u64]; omega
  have HN := Lib.hid hn
  have H := Lib.hid h
  have HOF : Hid (∀ w1, Below (O0 w t (opC 3 N E B)).heap.size (O0 w t (opC 3 N E B)) w1 → OF g t T w w1) := fun w1 hb => of_call hn h hb
  clear hn h ho hvv hT hv
  unfold rdC opC
  go_enter Tryd.func11, Tryd.ntmps11
  go_wp2_with (go_at_call 33; refine (HNUM.out _).mono ?_; rintro e w1 ⟨rfl, hb⟩; have HO := Lib.hid (HOF.out w1 hb); clear hb; dsimp only [rdC])
  have HG : Hid (∀ w2, Just g (w1.alloc (.cells (rdC T) 30)) w2 → OG g T w w1.heap.size w2) := fun w2 j => og_of HO.out j
  have HE : Hid (∀ w2, Just g (w1.alloc (.cells (rdC T) 30)) w2 → IsRdr w2 g T → (six w2 (w.heap.size + 2) T).heap[w.heap.size + 2]? = some (.cells (rdC T) 30 (0, 0)) ∧ IsRdr (six w2 (w.heap.size + 2) T) g T ∧ Just g w (six w2 (w.heap.size + 2) T)) := fun w2 j hr => six_end HO.out j hr
  have HUU : Hid (Calls Tryd.prog 20 #[.pointer (some ⟨g, 0, none⟩)] (w1.alloc (.cells (rdC T) 30)).drew (fun e w2 => e = .returned (.int .u32 v) ∧ IsRdr w2 g T ∧ Just g (w1.alloc (.cells (rdC T) 30)) w2)) := (HU.out (w1.alloc (.cells (rdC T) 30)).drew HO.out.names (HO.out.rdr.drewN 1)).mono fun _ _ ⟨a, b, c⟩ => ⟨a, b, ((Just.refl _ _).drewN 1).trans c⟩
  obtain ⟨d0, d1, d2, d3, d4, d5, -, -, -, -, -, -, -⟩ := HG.out _ (Just.refl _ _)
  have hne := HO.out.ne
  dsimp only [rdC] at HG HE HUU d0 d1 d2 d3 d4 d5
  generalize w1.alloc (.cells #[.string T.s, .int .i64 T.p, .int .i64 T.sec, .int .i64 T.k, .int .i64 T.fs, .int .i64 T.fa] 30) = W at HG HE HUU d0 d1 d2 d3 d4 d5 ⊢
  clear HO HOF HU HNUM HN H
  generalize w1.heap.size = C at HG HE d0 d1 d2 d3 d4 d5 hne ⊢
  go_region_held3 (fun w' => w'.cell? ⟨C, 0, none⟩ = some (.string T.s) ∧ w'.cell? ⟨C, 1, none⟩ = some (.int .i64 T.p) ∧ w'.cell? ⟨C, 2, none⟩ = some (.int .i64 T.sec) ∧ w'.cell? ⟨C, 3, none⟩ = some (.int .i64 T.k) ∧ w'.cell? ⟨C, 4, none⟩ = some (.int .i64 T.fs) ∧ w'.cell? ⟨C, 5, none⟩ = some (.int .i64 T.fa)) (first | (go_keep; done) | exact HKP.out)
    (first
      | (go_at_call 20; refine (HUU.out).mono ?_; rintro e w2 ⟨rfl, hr2, hj2⟩; obtain ⟨e0, e1, e2, e3, e4, e5, f0, f1, f2, f3, f4, f5, hf⟩ := HG.out w2 hj2; have HEND := Lib.hid (HE.out w2 hj2 hr2); have HKP := Lib.hid (six_keep (b := w.heap.size + 2) hne e0 e1 e2 e3 e4 e5); clear hr2 hj2)
      | fail)
  go_wp2
  obtain ⟨hrow, hrd, hju⟩ := HEND.out
  refine bodyPost_ret (v := .tuple #[.agg (rdC T), .bool true]) (results_row_tmp (fn := Tryd.f11) (p := 6) (u := 7) (ty := 30) rfl _ (six w2 (w.heap.size + 2) T) (w.heap.size + 2) 30 _ (0, 0) _ rfl hrow Tryd.underlying30 rfl (by rw [size_rd]; rfl)) rfl ⟨rfl, hrd, hju⟩
set_option maxRecDepth 8000 in
set_option maxHeartbeats 1600000 in
theorem one_4 (g : Nat) (t : St) (N E : Int) (B : Bool) (w : World) (hn : Names w) (h : IsRdr w g t) (ho : Ok t) :
    Calls Tryd.prog 11 #[.pointer (some ⟨g, 0, none⟩), .agg (rdC t), .agg (opC 4 N E B)] w (OPost g (numS t 8) w) := by
  have HNUM := Lib.hid (fun w => rnum_any t 8 w ho (by omega))
  have HU : Hid (∀ w, Names w → IsRdr w g t → Calls Tryd.prog 21 #[.pointer (some ⟨g, 0, none⟩)] w (IPost .u64 g (numS t 8) (numV t 8) w)) := fun w hn hr => u64_any g t w hn hr ho
  have hv := u64_le t
  obtain ⟨v, hvv⟩ : ∃ v, numV t 8 = v := ⟨_, rfl⟩
  obtain ⟨T, hT⟩ : ∃ T, numS t 8 = T := ⟨_, rfl⟩
  rw [hvv] at hv HNUM HU
  rw [hT] at HNUM HU ⊢
  have hqw : IntKind.u64.wrap (v : Int) = (v : Int) := by rw [IntKind.wrap_u64]; omega
  have HN := Lib.hid hn
  have H := Lib.hid h
  have HOF : Hid (∀ w1, Below (O0 w t (opC 4 N E B)).heap.size (O0 w t (opC 4 N E B)) w1 → OF g t T w w1) := fun w1 hb => of_call hn h hb
  clear hn h ho hvv hT hv
  unfold rdC opC
  go_enter Tryd.func11, Tryd.ntmps11
  go_wp2_with (go_at_call 33; refine (HNUM.out _).mono ?_; rintro e w1 ⟨rfl, hb⟩; have HO := Lib.hid (HOF.out w1 hb); clear hb; dsimp only [rdC])
  have HG : Hid (∀ w2, Just g (w1.alloc (.cells (rdC T) 30)) w2 → OG g T w w1.heap.size w2) := fun w2 j => og_of HO.out j
  have HE : Hid (∀ w2, Just g (w1.alloc (.cells (rdC T) 30)) w2 → IsRdr w2 g T → (six w2 (w.heap.size + 2) T).heap[w.heap.size + 2]? = some (.cells (rdC T) 30 (0, 0)) ∧ IsRdr (six w2 (w.heap.size + 2) T) g T ∧ Just g w (six w2 (w.heap.size + 2) T)) := fun w2 j hr => six_end HO.out j hr
  have HUU : Hid (Calls Tryd.prog 21 #[.pointer (some ⟨g, 0, none⟩)] (w1.alloc (.cells (rdC T) 30)).drew (fun e w2 => e = .returned (.int .u64 v) ∧ IsRdr w2 g T ∧ Just g (w1.alloc (.cells (rdC T) 30)) w2)) := (HU.out (w1.alloc (.cells (rdC T) 30)).drew HO.out.names (HO.out.rdr.drewN 1)).mono fun _ _ ⟨a, b, c⟩ => ⟨a, b, ((Just.refl _ _).drewN 1).trans c⟩
  obtain ⟨d0, d1, d2, d3, d4, d5, -, -, -, -, -, -, -⟩ := HG.out _ (Just.refl _ _)
  have hne := HO.out.ne
  dsimp only [rdC] at HG HE HUU d0 d1 d2 d3 d4 d5
  generalize w1.alloc (.cells #[.string T.s, .int .i64 T.p, .int .i64 T.sec, .int .i64 T.k, .int .i64 T.fs, .int .i64 T.fa] 30) = W at HG HE HUU d0 d1 d2 d3 d4 d5 ⊢
  clear HO HOF HU HNUM HN H
  generalize w1.heap.size = C at HG HE d0 d1 d2 d3 d4 d5 hne ⊢
  go_region_held3 (fun w' => w'.cell? ⟨C, 0, none⟩ = some (.string T.s) ∧ w'.cell? ⟨C, 1, none⟩ = some (.int .i64 T.p) ∧ w'.cell? ⟨C, 2, none⟩ = some (.int .i64 T.sec) ∧ w'.cell? ⟨C, 3, none⟩ = some (.int .i64 T.k) ∧ w'.cell? ⟨C, 4, none⟩ = some (.int .i64 T.fs) ∧ w'.cell? ⟨C, 5, none⟩ = some (.int .i64 T.fa)) (first | (go_keep; done) | exact HKP.out)
    (first
      | (go_at_call 21; refine (HUU.out).mono ?_; rintro e w2 ⟨rfl, hr2, hj2⟩; obtain ⟨e0, e1, e2, e3, e4, e5, f0, f1, f2, f3, f4, f5, hf⟩ := HG.out w2 hj2; have HEND := Lib.hid (HE.out w2 hj2 hr2); have HKP := Lib.hid (six_keep (b := w.heap.size + 2) hne e0 e1 e2 e3 e4 e5); clear hr2 hj2)
      | fail)
  go_wp2
  obtain ⟨hrow, hrd, hju⟩ := HEND.out
  refine bodyPost_ret (v := .tuple #[.agg (rdC T), .bool true]) (results_row_tmp (fn := Tryd.f11) (p := 6) (u := 7) (ty := 30) rfl _ (six w2 (w.heap.size + 2) T) (w.heap.size + 2) 30 _ (0, 0) _ rfl hrow Tryd.underlying30 rfl (by rw [size_rd]; rfl)) rfl ⟨rfl, hrd, hju⟩
set_option maxRecDepth 8000 in
set_option maxHeartbeats 1600000 in
theorem one_5 (g : Nat) (t : St) (N E : Int) (B : Bool) (w : World) (hn : Names w) (h : IsRdr w g t) (ho : Ok t) :
    Calls Tryd.prog 11 #[.pointer (some ⟨g, 0, none⟩), .agg (rdC t), .agg (opC 5 N E B)] w (OPost g (txtS t N) w) := by
  have HNUM := Lib.hid (fun w => rtxt_any t N w ho)
  have HU : Hid (∀ w, Names w → IsRdr w g t → Calls Tryd.prog 17 #[.pointer (some ⟨g, 0, none⟩), .int .i64 N] w (SPost g (txtS t N) (txtV t N) w)) := fun w hn hr => txt_any g t N w hn hr ho
  obtain ⟨X, hX⟩ : ∃ X, txtV t N = X := ⟨_, rfl⟩
  obtain ⟨T, hT⟩ : ∃ T, txtS t N = T := ⟨_, rfl⟩
  rw [hX] at HNUM HU
  rw [hT] at HNUM HU ⊢
  have hxx : (X.toList == X.toList) = true := by simp
  have HN := Lib.hid hn
  have H := Lib.hid h
  have HOF : Hid (∀ w1, Below (O0 w t (opC 5 N E B)).heap.size (O0 w t (opC 5 N E B)) w1 → OF g t T w w1 ∧ w1.heap[w.heap.size + 1]? = some (.cells (opC 5 N E B) 32 (0, 0))) := fun w1 hb => ⟨of_call hn h hb, of_op hb⟩
  clear hn h ho hX hT
  unfold rdC opC
  go_enter Tryd.func11, Tryd.ntmps11
  go_wp2_with (go_at_call 34; refine (HNUM.out _).mono ?_; rintro e w1 ⟨rfl, hb⟩; have HO := Lib.hid (HOF.out w1 hb).1; have HP := Lib.hid (HOF.out w1 hb).2; clear hb; dsimp only [rdC])
  have HG : Hid (∀ w2, Just g (w1.alloc (.cells (rdC T) 30)) w2 → OG g T w w1.heap.size w2 ∧ w2.cell? ⟨w.heap.size + 1, 1, none⟩ = some (.int .i64 N)) := fun w2 j => ⟨og_of HO.out j, op_cell HO.out HP.out H.out.lt j⟩
  have HE : Hid (∀ w2, Just g (w1.alloc (.cells (rdC T) 30)) w2 → IsRdr w2 g T → (six w2 (w.heap.size + 2) T).heap[w.heap.size + 2]? = some (.cells (rdC T) 30 (0, 0)) ∧ IsRdr (six w2 (w.heap.size + 2) T) g T ∧ Just g w (six w2 (w.heap.size + 2) T)) := fun w2 j hr => six_end HO.out j hr
  have HUU : Hid (Calls Tryd.prog 17 #[.pointer (some ⟨g, 0, none⟩), .int .i64 N] (w1.alloc (.cells (rdC T) 30)).drew (fun e w2 => e = .returned (.string X) ∧ IsRdr w2 g T ∧ Just g (w1.alloc (.cells (rdC T) 30)) w2)) := (HU.out (w1.alloc (.cells (rdC T) 30)).drew HO.out.names (HO.out.rdr.drewN 1)).mono fun _ _ ⟨a, b, c⟩ => ⟨a, b, ((Just.refl _ _).drewN 1).trans c⟩
  obtain ⟨⟨d0, d1, d2, d3, d4, d5, -, -, -, -, -, -, -⟩, d6⟩ := HG.out _ (Just.refl _ _)
  have hne := HO.out.ne
  dsimp only [rdC] at HG HE HUU d0 d1 d2 d3 d4 d5 d6
  generalize w1.alloc (.cells #[.string T.s, .int .i64 T.p, .int .i64 T.sec, .int .i64 T.k, .int .i64 T.fs, .int .i64 T.fa] 30) = W at HG HE HUU d0 d1 d2 d3 d4 d5 d6 ⊢
  clear HO HOF HP HU HNUM HN H
  generalize w1.heap.size = C at HG HE d0 d1 d2 d3 d4 d5 hne ⊢
  go_region_held3 (fun w' => w'.cell? ⟨C, 0, none⟩ = some (.string T.s) ∧ w'.cell? ⟨C, 1, none⟩ = some (.int .i64 T.p) ∧ w'.cell? ⟨C, 2, none⟩ = some (.int .i64 T.sec) ∧ w'.cell? ⟨C, 3, none⟩ = some (.int .i64 T.k) ∧ w'.cell? ⟨C, 4, none⟩ = some (.int .i64 T.fs) ∧ w'.cell? ⟨C, 5, none⟩ = some (.int .i64 T.fa) ∧ w'.cell? ⟨w.heap.size + 1, 1, none⟩ = some (.int .i64 N)) (first | (go_keep; done) | exact HKP.out)
    (first
      | (go_at_call 17; refine (HUU.out).mono ?_; rintro e w2 ⟨rfl, hr2, hj2⟩; obtain ⟨⟨e0, e1, e2, e3, e4, e5, f0, f1, f2, f3, f4, f5, hf⟩, e6⟩ := HG.out w2 hj2; have HEND := Lib.hid (HE.out w2 hj2 hr2); have HKP := Lib.hid (seven_keep (b := w.heap.size + 2) (c := w.heap.size + 1) (by omega) hne e0 e1 e2 e3 e4 e5 e6); clear hr2 hj2)
      | fail)
  go_wp2
  obtain ⟨hrow, hrd, hju⟩ := HEND.out
  refine bodyPost_ret (v := .tuple #[.agg (rdC T), .bool true]) (results_row_tmp (fn := Tryd.f11) (p := 6) (u := 7) (ty := 30) rfl _ (six w2 (w.heap.size + 2) T) (w.heap.size + 2) 30 _ (0, 0) _ rfl hrow Tryd.underlying30 rfl (by rw [size_rd]; rfl)) rfl ⟨rfl, hrd, hju⟩
end Go.Proofs.YtbjolbgjohggiaaDoor.Rdr
