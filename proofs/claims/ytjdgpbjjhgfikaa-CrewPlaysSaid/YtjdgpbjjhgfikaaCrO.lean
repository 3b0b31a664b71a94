
/- The document's crew: another partition in the place of one (Put). Condition: at most a thousand partitions. -/

import Derived.Test.YtjdgpbjjhgfikaaCrN

namespace Go.Proofs.Ytjdgpbjjhgfikaa.Crw

open Go.RowKit Go.PlainAid Go.Proofs.Ytjdgpbjjhgfikaa.Args Go.Proofs.Ytjdgpbjjhgfikaa.Cel Go.Proofs.Ytjdgpbjjhgfikaa.Pt Go.Proofs.Ytjdgpbjjhgfikaa.Mpv

set_option linter.unusedVariables false

set_option linter.unusedSimpArgs false

theorem take_splice {α : Type} (L : List α) (o N : Nat) (b : List α) (h1 : o + b.length ≤ N) (h2 : N ≤ L.length) : (splice L o b).take N = splice (L.take N) o b := by
  unfold splice
  have e0 : (L.take o).length = o := by rw [List.length_take]; omega
  rw [List.take_append, e0, List.take_append, List.take_take, List.take_take, List.drop_take, Nat.min_eq_right (by omega : o ≤ N), Nat.min_eq_left (by omega : o ≤ N), List.take_of_length_le (by omega : b.length ≤ N - o), show N - o - b.length = N - (o + b.length) by omega]
theorem infoPart : (Try.prog.info? 51).map (fun i => (i.zero, i.size, i.bytes)) = some (some (.agg #[.int .i64 0, .string ⟨#[]⟩, .bool false, .slice none 0 0, .int .i64 0, .int .i64 0, .int .i64 0, .slice none 0 0, .slice none 0 0, .int .i64 0]), 10, 136) := by kernel_rfl
/-- One is stored. -/
theorem rrow_store {w : World} {B g n c : Nat} {l : List RX} (h : w.ownsRow B 51 10 (.slice (some ⟨g, 0, none⟩) n c) n (flR l)) (hl : l.length = n) {i : Nat} (hi : i < n) (r : RX) :
    ∃ w', Sem.run Try.prog (storeVar 51 ⟨g, i * 10, none⟩ (.agg r.blk.toArray)) w = .ok () w' ∧ w'.ownsRow B 51 10 (.slice (some ⟨g, 0, none⟩) n c) n (flR (l.set i r)) ∧ Rng g (g + 1) w w' := by
  rcases h.2 with ⟨e, _⟩ | ⟨g', cap, cur, e, hB, hh, hnc, hcm, hsz, htk⟩
  · injection e with e1; cases e1
  · injection e with e1 e2 e3
    obtain rfl : g = g' := by have := Option.some.inj e1; injection this
    subst e3
    have hb : i * 10 + 10 ≤ n * 10 := by omega
    have hcl : cur.toList.length = c * 10 := Array.length_toList.trans hsz
    have hnc10 : n * 10 ≤ c * 10 := by omega
    have hr := Srt.run_storeVar_at (P := Try.prog) w g (i * 10) _ 51 cur r.blk.toArray hh size_rp (by rw [hsz]; show i * 10 + 10 ≤ _; omega) (by simp [RX.blk, Value.oneCell'])
    refine ⟨_, hr, ⟨by rw [flR_len, List.length_set, hl], .inr ⟨g, c, _, rfl, hB, setRow_heap _ _ _ _ _ _ hh, hnc, hcm, ?_, ?_⟩⟩, rng_setRow _ _ _⟩
    · simp only [List.size_toArray]
      rw [length_splice _ _ _ (by rw [hcl]; show i * 10 + 10 ≤ _; omega), Array.length_toList, hsz]
    · simp only [List.toList_toArray]
      rw [take_splice _ _ _ _ (by show i * 10 + 10 ≤ _; omega) (by rw [hcl]; omega), htk]
      unfold flR
      rw [splice_blk 10 _ i r.blk (blkR_all l) rfl (by rw [List.length_map, hl]; exact hi), List.map_set]
def PuPost (l : List RX) (i : Nat) (r : RX) (w : World) (e : Ending) (w' : World) : Prop :=
  ∃ V, e = .returned V ∧ RRow w' w.heap.size V (l.set i r) ∧ Below w.heap.size w w'
attribute [-go_sem] storeVar
set_option maxRecDepth 8000 in
set_option maxHeartbeats 3200000 in
theorem rput_any {w : World} {B : Nat} {V : Value} {l : List RX} (h : RRow w B V l) (hl : l.length ≤ 1000) (i : Nat) (hi : i < l.length) (r : RX) (hr : r.ok w) :
    Calls Try.prog 15 #[V, .int .i64 (i : Int), .agg r.blk.toArray] w (PuPost l i r w) := by
  obtain ⟨i0, hi0, hz0, hz1, hz2⟩ := info_parts infoPart
  obtain ⟨n, hn⟩ : ∃ n, l.length = n := ⟨_, rfl⟩
  have hex : ∃ x, l[0]? = some x := ⟨_, List.getElem?_eq_getElem (by omega)⟩
  obtain ⟨x0, hx0⟩ := hex
  obtain ⟨g, c, rfl, -⟩ := h.cells hx0
  have hown := h.1
  rw [hn] at hown ⊢
  have hb1 : Below w.heap.size w (w.alloc (.cells r.blk.toArray 51)) := (Below.refl _ _).alloc (Nat.le_refl _) _
  have hx1 := heap_alloc_new w (.cells r.blk.toArray 51)
  obtain ⟨W1, hW1⟩ : ∃ W, w.alloc (.cells r.blk.toArray 51) = W := ⟨_, rfl⟩
  rw [hW1] at hb1 hx1
  have hb2 : Below W1.heap.size W1 (W1.alloc (.cells #[] 51)) := (Below.refl _ _).alloc (Nat.le_refl _) _
  have hbb := hb1.trans (hb2.mono hb1.size)
  have HX2 := Lib.hid ((hb2.block _ (lt_of_block hx1)).trans hx1)
  have HW1 := Lib.hid hW1
  have HBB := Lib.hid hbb
  have HN := Lib.hid hn
  have HH := Lib.hid h
  have HR := Lib.hid hr
  have HL : Hid (n ≤ 1000 ∧ i < n) := ⟨by omega, by omega⟩
  have HOS := Lib.hid (own_keep hown hbb)
  have HOW : Hid ((W1.alloc (.cells #[] 51)).ownsRow w.heap.size 51 10 (.slice (some ⟨W1.heap.size, 0, none⟩) 0 0) 0 []) := World.ownsRow_lit W1 #[] 0 hb1.size (by unfold maxLen; omega) rfl
  have hki : (0 : Int) ≤ i := by omega
  have hkb : (i : Int) < n := by omega
  clear h hl hi hr hn hx0 hown hb1 hx1 hW1 hb2 hbb
  unfold RX.blk at HX2 HW1 ⊢
  go_enter Try.func15, Try.ntmps15
  go_upto_region 1 with fail
  rw [HW1.out]
  have hw1s : W1.heap.size = w.heap.size + 1 := by rw [← HW1.out]; simp
  have HS1 := Lib.hid hw1s
  clear hw1s HW1
  go_wp2_with (at_builtin; refine wpList_append_own _ rfl _ _ 31 rfl w.heap.size 51 i0 _ 10 136 Try.underlying31 hi0 hz0 hz1 hz2 rfl (by decide) _ 0 [] rfl HOW.out ⟨g, 0, none⟩ n c (flR l) rfl (by rw [flR_len, HN.out]) (fun j u hj => HOS.out.cells rfl j u hj) (flR_one l) ?c3 ?c4 ?c5 ?_)
  case c3 => have := HL.out; unfold maxLen; omega
  case c4 => have := HL.out; omega
  case c5 => exact HBB.out.size
  intro V2 W2 ho2 hg2 _
  have hV2 : ∃ g2 c2, V2 = .slice (some ⟨g2, 0, none⟩) n c2 := by
    rcases ho2.2 with ⟨_, h0⟩ | ⟨g2, c2, _, e, _⟩
    · have := HL.out; omega
    · exact ⟨g2, c2, e⟩
  obtain ⟨g2, c2, rfl⟩ := hV2
  obtain ⟨W3, hst, ho3, hr3⟩ := rrow_store ho2 HN.out HL.out.2 r
  have hg2w : w.heap.size ≤ g2 := (ho2.lt g2 rfl).1
  have hne2 : some w.heap.size ≠ (Value.slice (some ⟨W1.heap.size, 0, none⟩) 0 0).ownBlock := by
    intro e
    have e2 : w.heap.size = W1.heap.size := Option.some.inj e
    have := HS1.out
    omega
  have hx2 := (hg2.block w.heap.size (lt_of_block HX2.out) hne2).trans HX2.out
  have HX3 := Lib.hid hx2
  have HB2 := Lib.hid (HBB.out.grown hg2 HBB.out.size (fun j hj => (HOW.out.lt j hj).1))
  have HB3 := Lib.hid (Rng.below HB2.out hr3 HB2.out.size hg2w)
  have HO3 : Hid (RRow W3 w.heap.size (.slice (some ⟨g2, 0, none⟩) n c2) (l.set i r)) := by
    refine ⟨by rw [List.length_set, HN.out]; exact ho3, fun z hz => ?_⟩
    rcases List.mem_or_eq_of_mem_set hz with hz | rfl
    · exact (HH.out.2 z hz).kept HB3.out
    · exact HR.out.kept HB3.out
  unfold RX.blk at hst
  clear ho2 hg2 ho3 hr3 hg2w hx2 hne2 HX2 HOS HOW HBB HB2
  go_wp2_with (first
    | ((with_reducible show wpList _ _ _ _ _ _); refine wpList_load_row rfl 51 (.tmp 5) rfl w.heap.size rfl 51 _ (0, 0) _ HX3.out Try.underlying51 rfl size_rp ?_))
  go_ret
  exact ⟨_, rfl, HO3.out, HB3.out⟩
end Go.Proofs.Ytjdgpbjjhgfikaa.Crw
