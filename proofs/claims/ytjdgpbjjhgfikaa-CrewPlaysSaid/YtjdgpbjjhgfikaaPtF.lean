
/- A partition of the program's and the document's: whether a shot is the document's, the chapter's example, arguments that came in. Condition: at most a thousand cells. -/

import Derived.Test.YtjdgpbjjhgfikaaPtE

namespace Go.Proofs.Ytjdgpbjjhgfikaa.Pt

open Go.RowKit Go.PlainAid Go.Proofs.Ytjdgpbjjhgfikaa.Args Go.Proofs.Ytjdgpbjjhgfikaa.Cel

open Go.Proofs.Ytjdgpbjjhgfikaa.Mod (askN startN setM setS actN actM actS size_ch)

set_option linter.unusedVariables false

set_option linter.unusedSimpArgs false

set_option maxRecDepth 4000 in
set_option maxHeartbeats 1600000 in
theorem unlike_no {s : PK} {a : Option Addr} {cap : Nat} {N V : Option Addr} {nc vc : Nat} {m st ca : Int} {ns : List Nat} {wr : Int} (w : World) (h1 : NumsAt w V ns) (h2 : NumsAt w N ns) (hl : ns.length = s.n) (hn : s.n ≤ 1000) :
    Calls Try.prog 46 #[.agg #[.int .i64 s.id, .int .i64 m, .int .i64 st, .int .i64 ca, .slice V s.n vc], .agg #[.int .i64 s.id, .string s.nm, .bool s.may, .slice a s.n cap, .int .i64 m, .int .i64 st, .int .i64 ca, .slice a s.n cap, .slice N s.n nc, .int .i64 wr]] w fun e w' => e = .returned (.string ⟨#[]⟩) ∧ Below w.heap.size w w' := by
  obtain ⟨W0, hW0⟩ : ∃ W, (w.alloc (.cells #[.int .i64 s.id, .int .i64 m, .int .i64 st, .int .i64 ca, .slice V s.n vc] 79)).alloc (.cells #[.int .i64 s.id, .string s.nm, .bool s.may, .slice a s.n cap, .int .i64 m, .int .i64 st, .int .i64 ca, .slice a s.n cap, .slice N s.n nc, .int .i64 wr] 51) = W := ⟨_, rfl⟩
  have hb0 : Below w.heap.size w W0 := by rw [← hW0]; exact ((Below.refl _ _).alloc (Nat.le_refl _) _).alloc (by simp) _
  have hx0 : W0.heap[w.heap.size]? = some (.cells #[.int .i64 s.id, .int .i64 m, .int .i64 st, .int .i64 ca, .slice V s.n vc] 79 (0, 0)) := by
    rw [← hW0, heap_alloc_old _ _ (by simp)]; exact heap_alloc_new _ _
  have hr0 : W0.heap[w.heap.size + 1]? = some (.cells #[.int .i64 s.id, .string s.nm, .bool s.may, .slice a s.n cap, .int .i64 m, .int .i64 st, .int .i64 ca, .slice a s.n cap, .slice N s.n nc, .int .i64 wr] 51 (0, 0)) := by
    rw [← hW0]
    have := heap_alloc_new (w.alloc (.cells #[.int .i64 s.id, .int .i64 m, .int .i64 st, .int .i64 ca, .slice V s.n vc] 79)) (.cells #[.int .i64 s.id, .string s.nm, .bool s.may, .slice a s.n cap, .int .i64 m, .int .i64 st, .int .i64 ca, .slice a s.n cap, .slice N s.n nc, .int .i64 wr] 51)
    simpa using this
  have HW0 := Lib.hid hW0
  have HB0 := Lib.hid hb0
  have HE := Lib.hid (rsame_any V N vc nc s.n ns ns W0 (h1.kept hb0) (h2.kept hb0) hl hl hn)
  rw [show decide (ns = ns) = true from decide_eq_true rfl] at HE
  have x0 := cell_of_row _ _ 0 _ _ _ hx0
  have x1 := cell_of_row _ _ 1 _ _ _ hx0
  have x2 := cell_of_row _ _ 2 _ _ _ hx0
  have x3 := cell_of_row _ _ 3 _ _ _ hx0
  have x4 := cell_of_row _ _ 4 _ _ _ hx0
  have y0 := cell_of_row _ _ 0 _ _ _ hr0
  have y4 := cell_of_row _ _ 4 _ _ _ hr0
  have y5 := cell_of_row _ _ 5 _ _ _ hr0
  have y6 := cell_of_row _ _ 6 _ _ _ hr0
  have y8 := cell_of_row _ _ 8 _ _ _ hr0
  simp only [List.getElem?_toArray, List.getElem?_cons_zero, List.getElem?_cons_succ] at x0 x1 x2 x3 x4 y0 y4 y5 y6 y8
  clear hW0 hb0 hx0 hr0 h1 h2 hl hn
  go_enter Try.func46, Try.ntmps46
  go_upto_region 1 with fail
  rw [HW0.out]
  go_wp2_with fail
  refine HE.out.mono ?_
  rintro e w2 ⟨rfl, q, rfl⟩
  go_wp2
  go_ret
  exact ⟨rfl, HB0.out.trans ⟨rfl, rfl, rfl, Nat.le_refl _, fun _ _ => rfl⟩⟩
theorem five_at (w : World) : CellsAt (w.alloc (.cells #[.int .u32 5, .bool false] 140)) (some ⟨w.heap.size, 0, none⟩) [⟨5, false⟩] := by
  have hr := heap_alloc_new w (.cells #[.int .u32 5, .bool false] 140)
  intro i x hx
  refine ⟨_, rfl, ?_⟩
  rw [add_at]
  match i, hx with
  | 0, hx =>
    obtain rfl : (⟨5, false⟩ : C2) = x := by simpa using hx
    exact ⟨by rw [cell_of_row _ _ _ _ _ _ hr]; rfl, by rw [cell_of_row _ _ _ _ _ _ hr]; rfl⟩
  | i + 1, hx => simp at hx
theorem IsP.ext {w : World} {lo hi : Nat} {d : PD} {s : PK} {m st ca : Int} {ns : List Nat} {wr : Int} {m' st' ca' : Int} {ns' : List Nat} {wr' : Int} (h : IsP w lo hi d s m st ca ns wr) (e1 : m = m') (e2 : st = st') (e3 : ca = ca') (e4 : ns = ns') (e5 : wr = wr') : IsP w lo hi d s m' st' ca' ns' wr' := by
  subst e1 e2 e3 e4 e5; exact h
theorem aw1 {lo hi : Nat} {d : PD} (W : World) (h : IsP W lo hi d ⟨0, ⟨#[]⟩, false, [⟨5, false⟩], 1⟩ 1 1 0 [5] 0) :
    Calls Try.prog 18 #[.pointer (some ⟨d.g, 0, none⟩), .int .i64 0, .int .u32 9] W fun e w' => e = .returned (.int .i64 0) ∧ IsP w' lo hi d ⟨0, ⟨#[]⟩, false, [⟨5, false⟩], 1⟩ 1 1 0 [9] 1 ∧ Rng lo hi W w' := by
  refine (write_any h (by omega) (by omega) 0 9).mono ?_
  rintro e w' ⟨rfl, hp, hr⟩
  exact ⟨congrArg (fun k : Int => Ending.returned (Value.int IntKind.i64 k)) (by decide), hp.ext rfl rfl rfl (by decide) (by decide), hr⟩
theorem aw2 {lo hi : Nat} {d : PD} (W : World) (h : IsP W lo hi d ⟨0, ⟨#[]⟩, false, [⟨5, false⟩], 1⟩ 1 1 0 [9] 1) :
    Calls Try.prog 16 #[.pointer (some ⟨d.g, 0, none⟩), .int .i64 3] W fun e w' => e = .returned (.int .i64 0) ∧ IsP w' lo hi d ⟨0, ⟨#[]⟩, false, [⟨5, false⟩], 1⟩ 3 1 0 [9] 1 ∧ Rng lo hi W w' := by
  refine (setmode_any h (by show 1 ≤ 1000; omega) (by omega) 3).mono ?_
  rintro e w' ⟨rfl, hp, hr⟩
  exact ⟨congrArg (fun k : Int => Ending.returned (Value.int IntKind.i64 k)) (by decide), hp.ext (by decide) (by decide) (by decide) (by decide) (by decide), hr⟩
theorem aw3 {lo hi : Nat} {d : PD} (W : World) (h : IsP W lo hi d ⟨0, ⟨#[]⟩, false, [⟨5, false⟩], 1⟩ 3 1 0 [9] 1) :
    Calls Try.prog 16 #[.pointer (some ⟨d.g, 0, none⟩), .int .i64 1] W fun e w' => e = .returned (.int .i64 0) ∧ IsP w' lo hi d ⟨0, ⟨#[]⟩, false, [⟨5, false⟩], 1⟩ 1 2 1 [5] 0 ∧ Rng lo hi W w' := by
  refine (setmode_any h (by show 1 ≤ 1000; omega) (by omega) 1).mono ?_
  rintro e w' ⟨rfl, hp, hr⟩
  exact ⟨congrArg (fun k : Int => Ending.returned (Value.int IntKind.i64 k)) (by decide), hp.ext (by decide) (by decide) (by decide) (by decide) (by decide), hr⟩
/-- A partition that came in by value. -/
theorem part_of {w : World} {a : Array Value} (h : IsAgg w [.one (.int .i64), .one .string, .one .bool, .recs [.int .u32, .bool]] a) :
    ∃ (s : PK) (B : Option Addr) (c : Nat), a = #[.int .i64 s.id, .string s.nm, .bool s.may, .slice B s.n c] ∧ CellsAt w B s.fs ∧ s.fs.length = s.n ∧ (B = none → c = 0) ∧ s.n ≤ c ∧ c ≤ maxLen := by
  obtain ⟨hs, hf⟩ := h
  obtain ⟨v0, e0, id, rfl, w0⟩ := hf 0 _ rfl
  obtain ⟨v1, e1, nm, rfl, w1⟩ := hf 1 _ rfl
  obtain ⟨v2, e2, may, rfl⟩ := hf 2 _ rfl
  obtain ⟨v3, e3, B, bl, bc, rfl, w3⟩ := hf 3 _ rfl
  obtain ⟨cs, hcl, hca, hcw, hcn, hc1, hc2⟩ := cells_of w3
  refine ⟨⟨id, nm, may, cs, bl⟩, B, bc, ?_, hca, hcl, hcn, hc1, hc2⟩
  have hs4 : a.size = 4 := hs
  apply Array.ext_getElem?
  intro i
  rcases (show i = 0 ∨ i = 1 ∨ i = 2 ∨ i = 3 ∨ 4 ≤ i by omega) with rfl | rfl | rfl | rfl | h
  · exact e0
  · exact e1
  · exact e2
  · rw [e3]; rfl
  · rw [Array.getElem?_eq_none (by omega), Array.getElem?_eq_none (by simp; omega)]
end Go.Proofs.Ytjdgpbjjhgfikaa.Pt
