
/- The function HeaderOf returns true for every module. Condition: the package-level variables hold what the program lays in them (the card ties that). This text: the walk through the Go text; the row is in the text without the W at its name's end. -/

import Derived.Test.YtelfpagcddgcpaaDoorArgs

import Derived.Test.YtelfpagcddgcpaaDoorHdrF

import Derived.Test.YtelfpagcddgcpaaDoorArgsS

import Derived.Deep.RegionHeld3

namespace Go.Proofs.YtelfpagcddgcpaaDoor.headerOf

open Go.RowKit Go.PlainAid Go.Proofs.YtelfpagcddgcpaaDoor.Args

set_option linter.unusedVariables false

open Go.Proofs.YtelfpagcddgcpaaDoor.Flt Go.Proofs.YtelfpagcddgcpaaDoor.Rdr Go.Proofs.YtelfpagcddgcpaaDoor.Hdr

theorem mod_of {w : World} {a : Array Value} (h : IsAgg w [.one (.int .u64), .one (.int .i64), .sl, .sl, .sl, .sl] a) : ∃ (ep fi : Int) (A1 A2 A3 A4 : Option Addr) (l1 l2 l3 l4 c1 c2 c3 c4 : Nat),
    a = #[.int .u64 ep, .int .i64 fi, .slice A1 l1 c1, .slice A2 l2 c2, .slice A3 l3 c3, .slice A4 l4 c4] ∧ 0 ≤ ep := by
  obtain ⟨hs, hf⟩ := h
  obtain ⟨v0, e0, ep, rfl, hw⟩ := hf 0 _ rfl
  obtain ⟨v1, e1, fi, rfl, _⟩ := hf 1 _ rfl
  obtain ⟨v2, e2, A1, l1, c1, rfl, _⟩ := hf 2 _ rfl
  obtain ⟨v3, e3, A2, l2, c2, rfl, _⟩ := hf 3 _ rfl
  obtain ⟨v4, e4, A3, l3, c3, rfl, _⟩ := hf 4 _ rfl
  obtain ⟨v5, e5, A4, l4, c4, rfl, _⟩ := hf 5 _ rfl
  refine ⟨ep, fi, A1, A2, A3, A4, l1, l2, l3, l4, c1, c2, c3, c4, ?_, (bounds_u64 hw).1⟩
  have hs6 : a.size = 6 := hs
  apply Array.ext_getElem?
  intro i
  rcases (show i = 0 ∨ i = 1 ∨ i = 2 ∨ i = 3 ∨ i = 4 ∨ i = 5 ∨ 6 ≤ i by omega) with rfl | rfl | rfl | rfl | rfl | rfl | h
  · exact e0
  · exact e1
  · exact e2
  · exact e3
  · exact e4
  · exact e5
  · rw [Array.getElem?_eq_none (by omega), Array.getElem?_eq_none (by simpa using h)]
abbrev wx_S (H M : Nat) (ep fi : Int) (l1 l2 l3 l4 : Nat) (A1 A2 A3 A4 : Option Addr) (c1 c2 c3 c4 : Nat) (wx : World) : Prop := wx.cell? ⟨H, 0, none⟩ = some (.int .u32 0) ∧ wx.cell? ⟨H, 1, none⟩ = some (.int .u64 ep) ∧ wx.cell? ⟨H, 2, none⟩ = some (.int .i64 fi) ∧ wx.cell? ⟨H, 3, none⟩ = some (.int .i64 l1) ∧ wx.cell? ⟨H, 4, none⟩ = some (.int .i64 l2) ∧ wx.cell? ⟨H, 5, none⟩ = some (.int .i64 l3) ∧ wx.cell? ⟨H, 6, none⟩ = some (.int .i64 l4) ∧
      wx.cell? ⟨M, 0, none⟩ = some (.int .u64 ep) ∧ wx.cell? ⟨M, 1, none⟩ = some (.int .i64 fi) ∧ wx.cell? ⟨M, 2, none⟩ = some (.slice A1 l1 c1) ∧ wx.cell? ⟨M, 3, none⟩ = some (.slice A2 l2 c2) ∧ wx.cell? ⟨M, 4, none⟩ = some (.slice A3 l3 c3) ∧ wx.cell? ⟨M, 5, none⟩ = some (.slice A4 l4 c4)
theorem kc {w w' : World} {p : Addr} {v : Value} (h : w.cell? p = some v) (b : Below w.heap.size w w') : w'.cell? p = some v := (b.cell (Go.block_lt_of_cell h)).trans h
theorem wxS_kept {H M : Nat} {ep fi : Int} {l1 l2 l3 l4 : Nat} {A1 A2 A3 A4 : Option Addr} {c1 c2 c3 c4 : Nat} {w w' : World} (h : wx_S H M ep fi l1 l2 l3 l4 A1 A2 A3 A4 c1 c2 c3 c4 w) (b : Below w.heap.size w w') : wx_S H M ep fi l1 l2 l3 l4 A1 A2 A3 A4 c1 c2 c3 c4 w' := by
  obtain ⟨a0, a1, a2, a3, a4, a5, a6, b0, b1, b2, b3, b4, b5⟩ := h
  exact ⟨kc a0 b, kc a1 b, kc a2 b, kc a3 b, kc a4 b, kc a5 b, kc a6 b, kc b0 b, kc b1 b, kc b2 b, kc b3 b, kc b4 b, kc b5 b⟩
set_option maxRecDepth 4000 in
set_option maxHeartbeats 1600000 in
theorem walk (a0 : Array Value) (w : World) (w0 : IsAgg w [.one (.int .u64), .one (.int .i64), .sl, .sl, .sl, .sl] a0) (hn : Go.Proofs.YtelfpagcddgcpaaDoor.Hdr.Laid w) :
    Calls Tryd.prog 5 #[.agg a0] w fun e w' => e = .returned (.bool true) ∧ Below w.heap.size w w' := by
  obtain ⟨ep, fi, A1, A2, A3, A4, l1, l2, l3, l4, c1, c2, c3, c4, rfl, hep⟩ := mod_of w0
  have HN := Lib.hid hn
  have HEP := Lib.hid hep
  have HOO := Lib.hid (hd_of_mod ep fi l1 l2 l3 l4)
  have heq : ∀ wx : World, (Op.equalIn 10000 36 (.agg #[.int .u32 0, .int .u64 ep, .int .i64 fi, .int .i64 l1, .int .i64 l2, .int .i64 l3, .int .i64 l4]) (.agg #[.int .u32 0, .int .u64 ep, .int .i64 fi, .int .i64 l1, .int .i64 l2, .int .i64 l3, .int .i64 l4])).run Tryd.prog wx = .ok true wx := eq_rhd 0 ep fi l1 l2 l3 l4
  have hb1 := (Below.refl w.heap.size w).alloc (Nat.le_refl _) (.cells #[.int .u64 ep, .int .i64 fi, .slice A1 l1 c1, .slice A2 l2 c2, .slice A3 l3 c3, .slice A4 l4 c4] 60)
  have HB1 := Lib.hid hb1
  clear hn w0 hep hb1
  go_enter Tryd.func5, Tryd.ntmps5
  go_wp2_with fail
  refine (of_any ep fi A1 A2 A3 A4 l1 l2 l3 l4 c1 c2 c3 c4 _).mono ?_
  rintro e w2 ⟨rfl, hb⟩
  have hm := (hb.block _ (by simp)).trans (heap_alloc_new w (.cells #[.int .u64 ep, .int .i64 fi, .slice A1 l1 c1, .slice A2 l2 c2, .slice A3 l3 c3, .slice A4 l4 c4] 60))
  have HM2 := Lib.hid hm
  have HB2 := Lib.hid (HB1.out.trans (hb.mono HB1.out.size))
  clear hm hb
  go_wp2_with ((with_reducible show wpList _ _ _ _ _ _); refine wpList_store_row rfl 26 (.tmp 3) (.tmp 5) rfl w2.heap.size #[.int .u32 0, .int .u64 ep, .int .i64 fi, .int .i64 l1, .int .i64 l2, .int .i64 l3, .int .i64 l4] rfl rfl 26 hd0 (heap_alloc_new _ _) (by rw [size_hd]; rfl) rfl HOO.out ?_)
  have hb3 : Below w2.heap.size w2 ((w2.alloc (.cells #[.int .u32 0, .int .u64 0, .int .i64 0, .int .i64 0, .int .i64 0, .int .i64 0, .int .i64 0] 26)).setRow w2.heap.size #[.int .u32 0, .int .u64 ep, .int .i64 fi, .int .i64 l1, .int .i64 l2, .int .i64 l3, .int .i64 l4]) := below_set2 ((Below.refl _ _).alloc (Nat.le_refl _) _) (Nat.le_refl _)
  have hh3 := setRow_heap _ _ _ #[.int .u32 0, .int .u64 ep, .int .i64 fi, .int .i64 l1, .int .i64 l2, .int .i64 l3, .int .i64 l4] _ _ (heap_alloc_new w2 (.cells #[.int .u32 0, .int .u64 0, .int .i64 0, .int .i64 0, .int .i64 0, .int .i64 0, .int .i64 0] 26))
  have hm3 := (hb3.block _ (lt_of_block HM2.out)).trans HM2.out
  have HB3 := Lib.hid (HB2.out.trans (hb3.mono HB2.out.size))
  clear hb3
  obtain ⟨W, hW⟩ : ∃ W, W = (w2.alloc (.cells #[.int .u32 0, .int .u64 0, .int .i64 0, .int .i64 0, .int .i64 0, .int .i64 0, .int .i64 0] 26)).setRow w2.heap.size #[.int .u32 0, .int .u64 ep, .int .i64 fi, .int .i64 l1, .int .i64 l2, .int .i64 l3, .int .i64 l4] := ⟨_, rfl⟩
  rw [← hW] at hh3 hm3 HB3
  rw [← hW]
  obtain ⟨H, hH⟩ : ∃ H, w2.heap.size = H := ⟨_, rfl⟩
  obtain ⟨M, hM⟩ : ∃ M, w.heap.size = M := ⟨_, rfl⟩
  rw [hH] at hh3
  rw [hM] at hm3
  rw [hH, hM]
  have HM := Lib.hid hM
  clear hW hH hM
  have HH3 := Lib.hid hh3
  have HM3 := Lib.hid hm3
  have hd : ∀ wx : World, wx.heap[H]? = some (.cells #[.int .u32 0, .int .u64 ep, .int .i64 fi, .int .i64 l1, .int .i64 l2, .int .i64 l3, .int .i64 l4] 26 (0, 0)) → wx.heap[M]? = some (.cells #[.int .u64 ep, .int .i64 fi, .slice A1 l1 c1, .slice A2 l2 c2, .slice A3 l3 c3, .slice A4 l4 c4] 60 (0, 0)) →
      wx.cell? ⟨H, 0, none⟩ = some (.int .u32 0) ∧ wx.cell? ⟨H, 1, none⟩ = some (.int .u64 ep) ∧ wx.cell? ⟨H, 2, none⟩ = some (.int .i64 fi) ∧ wx.cell? ⟨H, 3, none⟩ = some (.int .i64 l1) ∧ wx.cell? ⟨H, 4, none⟩ = some (.int .i64 l2) ∧ wx.cell? ⟨H, 5, none⟩ = some (.int .i64 l3) ∧ wx.cell? ⟨H, 6, none⟩ = some (.int .i64 l4) ∧
      wx.cell? ⟨M, 0, none⟩ = some (.int .u64 ep) ∧ wx.cell? ⟨M, 1, none⟩ = some (.int .i64 fi) ∧ wx.cell? ⟨M, 2, none⟩ = some (.slice A1 l1 c1) ∧ wx.cell? ⟨M, 3, none⟩ = some (.slice A2 l2 c2) ∧ wx.cell? ⟨M, 4, none⟩ = some (.slice A3 l3 c3) ∧ wx.cell? ⟨M, 5, none⟩ = some (.slice A4 l4 c4) := by
    intro wx h1 h2
    refine ⟨?_, ?_, ?_, ?_, ?_, ?_, ?_, ?_, ?_, ?_, ?_, ?_, ?_⟩
    all_goals first
      | (rw [cell_of_row wx _ _ _ _ _ h1]; rfl)
      | (rw [cell_of_row wx _ _ _ _ _ h2]; rfl)
  have HD := Lib.hid hd
  obtain ⟨d0, d1, d2, d3, d4, d5, d6, f0, f1, f2, f3, f4, f5⟩ := hd W hh3 hm3
  have hw6 : ∀ w6 : World, Below W.drew.heap.size W.drew w6 → Below w.heap.size w w6 ∧ wx_S H M ep fi l1 l2 l3 l4 A1 A2 A3 A4 c1 c2 c3 c4 w6 := by
    intro w6 hb6
    have hb : Below W.heap.size W w6 := ⟨hb6.os, hb6.tape, hb6.output, hb6.size, hb6.block⟩
    exact ⟨HB3.out.trans (hb.mono HB3.out.size), HD.out w6 ((hb.block _ (lt_of_block HH3.out)).trans HH3.out) ((hb.block _ (lt_of_block HM3.out)).trans HM3.out)⟩
  have HW6 := Lib.hid hw6
  clear hw6
  have HPL := Lib.hid (fun w => plain_lit 0 ep fi l1 l2 l3 l4 w (by omega) HEP.out)
  clear hh3 hm3 hd
  go_region_held3 (fun wx => wx.cell? ⟨H, 0, none⟩ = some (.int .u32 0) ∧ wx.cell? ⟨H, 1, none⟩ = some (.int .u64 ep) ∧ wx.cell? ⟨H, 2, none⟩ = some (.int .i64 fi) ∧ wx.cell? ⟨H, 3, none⟩ = some (.int .i64 l1) ∧ wx.cell? ⟨H, 4, none⟩ = some (.int .i64 l2) ∧ wx.cell? ⟨H, 5, none⟩ = some (.int .i64 l3) ∧ wx.cell? ⟨H, 6, none⟩ = some (.int .i64 l4) ∧
      wx.cell? ⟨M, 0, none⟩ = some (.int .u64 ep) ∧ wx.cell? ⟨M, 1, none⟩ = some (.int .i64 fi) ∧ wx.cell? ⟨M, 2, none⟩ = some (.slice A1 l1 c1) ∧ wx.cell? ⟨M, 3, none⟩ = some (.slice A2 l2 c2) ∧ wx.cell? ⟨M, 4, none⟩ = some (.slice A3 l3 c3) ∧ wx.cell? ⟨M, 5, none⟩ = some (.slice A4 l4 c4)) (first | (go_keep; done) | exact HKP.out)
    (first
      | (go_at_call 11; refine (HPL.out _).mono ?_; rintro e w6 ⟨rfl, hb6⟩; have HB6 := Lib.hid (HW6.out w6 (by exact hb6)).1; have HKP := Lib.hid (HW6.out w6 (by exact hb6)).2; clear hb6)
      | (go_at_call 8; refine (Go.Proofs.YtelfpagcddgcpaaDoor.Hdr.awake_any _ (HN.out.kept HB6.out)).mono ?_; rintro e w8 ⟨rfl, hb8⟩; have HB8 := Lib.hid (HB6.out.trans (hb8.mono HB6.out.size)); have HKP := Lib.hid (wxS_kept HKP.out hb8); clear hb8)
      | fail)
  go_wp2
  go_ret
  exact ⟨rfl, HB8.out⟩

end Go.Proofs.YtelfpagcddgcpaaDoor.headerOf
