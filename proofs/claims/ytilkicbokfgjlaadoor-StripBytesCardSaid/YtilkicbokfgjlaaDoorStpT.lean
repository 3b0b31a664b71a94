
/- A strings.Builder that bytes are written to; a strip as bytes: package strip's Bytes. Condition: at most 268,435,455 rows; the names lie where the program lays them. -/

import Derived.Test.YtilkicbokfgjlaaDoorStpQ

import Derived.Test.YtilkicbokfgjlaaDoorBld

import Derived.Test.YtilkicbokfgjlaaDoorOctP

namespace Go.Proofs.YtilkicbokfgjlaaDoor.Stp

open Go.RowKit Go.PlainAid Go.Proofs.YtilkicbokfgjlaaDoor.Cel Go.Proofs.YtilkicbokfgjlaaDoor.Oct Go.Proofs.YtilkicbokfgjlaaDoor.Flt Go.Proofs.YtilkicbokfgjlaaDoor.Bld

set_option linter.unusedVariables false

set_option linter.unusedSimpArgs false

theorem isb_keep {B b : Nat} {bs : List Value} {w w' : World} (h : IsB B b bs w) (k : Below w.heap.size w w') : IsB B b bs w' := by
  have go : ∀ p, Lib.BuilderAt 58 5 B b p bs w → Lib.BuilderAt 58 5 B b p bs w' := by
    rintro p ⟨h1, v, h2, h3, h4⟩
    exact ⟨h1, v, (k.block b (lt_of_block h2)).trans h2, own_keep h3 k, h4⟩
  rcases h with h | h
  · exact .inl (go _ h)
  · exact .inr (go _ h)
theorem copy2_any (B b : Nat) (bs : List Value) (w : World) (h : IsB B b bs w) :
    Calls Tryd.prog 35 #[.pointer (some ⟨b, 0, none⟩)] w fun e w' => e = .returned (.tuple #[]) ∧ UsedB B b bs w' ∧ Below B w w' ∧ ∀ k : Nat, k ≠ b → w'.heap[k]? = w.heap[k]? := by
  rcases h with h | h
  · refine (copy_fresh b w h.cell0 h.shape h.frozen0).mono ?_
    rintro e w' ⟨rfl, rfl⟩
    exact ⟨rfl, h.used _, (Below.refl B w).setCell (p := ⟨b, 0, none⟩) h.1 _, fun k hk => heap_setCell_other w ⟨b, 0, none⟩ k _ hk⟩
  · refine (copy_used b w h.cell0).mono ?_
    rintro e w' ⟨rfl, rfl⟩
    exact ⟨rfl, h, Below.refl B _, fun _ _ => rfl⟩
/-- Just builders and bytes have changed. -/
def KeepB (w w' : World) : Prop := ∀ k, k < w.heap.size → (∀ cs t r, w.heap[k]? = some (.cells cs t r) → t ≠ 58 ∧ t ≠ 5) → w'.heap[k]? = w.heap[k]?
theorem KeepB.of {w w' : World} (h : Below w.heap.size w w') : KeepB w w' := fun k hk _ => h.block k hk
theorem KeepB.trans {a b c : World} (h : KeepB a b) (k : KeepB b c) (hs : a.heap.size ≤ b.heap.size) : KeepB a c := fun i hi ht => (k i (Nat.lt_of_lt_of_le hi hs) (by rw [h i hi ht]; exact ht)).trans (h i hi ht)
theorem KeepB.own {B e s n : Nat} {v : Value} {xs : List Value} {w w' : World} (k : KeepB w w') (h : w.ownsRow B e s v n xs) (he : e ≠ 58 ∧ e ≠ 5) : w'.ownsRow B e s v n xs := by
  refine ⟨h.1, ?_⟩
  rcases h.2 with h | ⟨g, cap, cur, h1, h2, h3, h4⟩
  · exact .inl h
  · exact .inr ⟨g, cap, cur, h1, h2, (k g (lt_of_block h3) (fun cs t r e' => by rw [h3] at e'; simp only [Option.some.injEq, Obj.cells.injEq] at e'; rw [← e'.2.1]; exact he)).trans h3, h4⟩
theorem not_own {w : World} {B n k : Nat} {v : Value} {xs : List Value} (h : w.ownsRow B 5 1 v n xs) (ht : ∀ cs t r, w.heap[k]? = some (.cells cs t r) → t ≠ 58 ∧ t ≠ 5) : some k ≠ v.ownBlock := by
  intro e
  rcases h.2 with ⟨h1, _⟩ | ⟨g, cap, cur, h1, h2, h3, _⟩
  · rw [h1] at e; cases e
  · rw [h1] at e
    have e2 : k = g := by simpa [Value.ownBlock] using e
    subst e2
    exact (ht _ _ _ h3).2 rfl
set_option maxRecDepth 100000 in
set_option maxHeartbeats 2000000 in
theorem writeb_any (B b : Nat) (bs : List Value) (ad : Addr) (n c : Nat) (xs : List Value) (w : World) (h : IsB B b bs w) (hx : ∀ j u, xs[j]? = some u → w.cell? (ad.add j) = some u) (hne0 : ad.block ≠ b) (hl : xs.length = n) (h1 : ∀ u ∈ xs, u.oneCell' = true) (hlen : bs.length + n ≤ 140737488355328) (hBw : B ≤ w.heap.size) :
    Calls Tryd.prog 23 #[.pointer (some ⟨b, 0, none⟩), .slice (some ad) n c] w fun e w' => e = .returned (.tuple #[.int .i64 n, .nilIface]) ∧ (UsedB B b (bs ++ xs) w' ∧ Below B w w' ∧ KeepB w w') := by
  obtain ⟨i0, hi, hz0, hz1, hz2⟩ := info_parts infoByte
  go_enter Tryd.func23, Tryd.ntmps23
  go_wp2_with (go_at_call 35; refine (copy2_any B b bs _ h).mono ?_)
  rintro e w1 ⟨rfl, h1', hb1, hcl⟩
  obtain ⟨hB, v, hbk, hown, hne⟩ := h1'
  have c0 : w1.cell? ⟨b, 0, none⟩ = some (.pointer (some ⟨b, 0, none⟩)) := by rw [Lib.cell_of_heap hbk]; rfl
  have c1 : w1.cell? ⟨b, 1, none⟩ = some v := by rw [Lib.cell_of_heap hbk]; rfl
  have hx1 : ∀ j u, xs[j]? = some u → w1.cell? (ad.add j) = some u := fun j u hj => (World.cell?_of_block (hcl _ (by cases j <;> exact hne0))).trans (hx j u hj)
  have HX1 := Lib.hid hx1
  have hbw : w.heap[b]? ≠ none ∧ ∀ k, k < w.heap.size → (∀ cs t r, w.heap[k]? = some (.cells cs t r) → t ≠ 58 ∧ t ≠ 5) → k ≠ b := by
    rcases h with ⟨_, v0, h0, _⟩ | ⟨_, v0, h0, _⟩
    · exact ⟨by rw [h0]; simp, fun k hk ht e => by subst e; exact (ht _ _ _ h0).1 rfl⟩
    · exact ⟨by rw [h0]; simp, fun k hk ht e => by subst e; exact (ht _ _ _ h0).1 rfl⟩
  have HK1 : Hid (KeepB w w1) := fun k hk ht => hcl k (hbw.2 k hk ht)
  have HNB := Lib.hid hbw.2
  have HSZ : Hid (w.heap.size ≤ w1.heap.size) := by
    show _ ≤ _
    have := hb1.size
    rcases Nat.lt_or_ge w1.heap.size w.heap.size with h9 | h9
    · exfalso
      by_cases hwb : w1.heap.size = b
      · have h8 : b < w1.heap.size := lt_of_block hbk
        omega
      · have h7 := hcl w1.heap.size hwb
        rw [Array.getElem?_eq_none (Nat.le_refl _), Array.getElem?_eq_getElem h9] at h7
        cases h7
    · exact h9
  clear hcl hx hx1 hbw
  go_wp2_with (at_builtin; refine wpList_append_own _ rfl _ _ 56 rfl B 5 i0 (.int .u8 0) 1 1 Tryd.underlying56 hi hz0 hz1 hz2 rfl (by decide) _ _ _ rfl hown ad n c xs rfl ?c1 ?c2 ?c3 ?c4 ?c5 ?c6 ?_)
  case c1 => omega
  case c2 => exact HX1.out
  case c3 => exact h1
  case c4 => unfold maxLen; omega
  case c5 => omega
  case c6 => have := hb1.size; omega
  intro v' w2 hown' hgrow _
  have hlt : b < w1.heap.size := by
    rcases Nat.lt_or_ge b w1.heap.size with h' | h'
    · exact h'
    · simp [Array.getElem?_eq_none h'] at hbk
  have hb2 : w2.heap[b]? = some (.cells #[.pointer (some ⟨b, 0, none⟩), v] 58 (0, 0)) := by
    rw [hgrow.block b hlt (fun e => hne e.symm)]
    exact hbk
  have d0 : w2.cell? ⟨b, 0, none⟩ = some (.pointer (some ⟨b, 0, none⟩)) := by rw [Lib.cell_of_heap hb2]; rfl
  have d1 : w2.cell? ⟨b, 1, none⟩ = some v := by rw [Lib.cell_of_heap hb2]; rfl
  have f1 : w2.frozen? ⟨b, 1, none⟩ = false := Lib.frozen_of_heap hb2 1
  obtain ⟨ao, n', cap, rfl⟩ : ∃ ao n' cap, v' = .slice ao n' cap := by
    rcases hown'.2 with ⟨hv, _⟩ | ⟨g, cap, cur, hv, _⟩
    · exact ⟨_, _, _, hv⟩
    · exact ⟨_, _, _, hv⟩
  go_wp2
  go_ret2
  have hk2 : KeepB w1 w2 := fun k hk ht => hgrow.block k hk (not_own hown ht)
  have hk3 := HK1.out.trans hk2 HSZ.out
  refine ⟨rfl, ?_, ?_, fun k hk ht => (heap_setCell_other w2 ⟨b, 1, none⟩ k _ (HNB.out k hk ht)).trans (hk3 k hk ht)⟩
  · exact Lib.BuilderAt.put (T := 58) (e := 5) hB hb2 (bs' := bs ++ xs) (by simpa [hl] using hown') (by decide)
  · exact (hb1.grown hgrow (by have := hb1.size; omega) (fun k hk => (hown.lt k hk).1)).setCell (p := ⟨b, 1, none⟩) hB _
set_option maxRecDepth 100000 in
set_option maxHeartbeats 2000000 in
theorem string_nil (b : Nat) (w : World) (h : w.heap[b]? = some (.cells #[.pointer none, .slice none 0 0] 58 (0, 0))) :
    Calls Tryd.prog 24 #[.pointer (some ⟨b, 0, none⟩)] w fun e w' => e = .returned (.string ⟨#[]⟩) ∧ Below w.heap.size w w' := by
  have c1 : w.drew.cell? ⟨b, 1, none⟩ = some (.slice none 0 0) := by
    have : w.drew.heap[b]? = some (.cells #[.pointer none, .slice none 0 0] 58 (0, 0)) := h
    rw [Lib.cell_of_heap this]; rfl
  have hSD : (Builtin.unsafeSliceData_ #[56] 89 #[.slice none 0 0]).run Tryd.prog w.drew = .ok (.pointer none) w.drew := Lib.run_unsafeSliceData_nil _ _ _ _ _
  have hUS : (Builtin.unsafeString_ #[89, 3] 9 #[.pointer none, .int .i64 0]).run Tryd.prog w.drew = .ok (.string ⟨#[]⟩) w.drew := Lib.run_unsafeString_none _ _ _ _ _
  clear h
  go_enter Tryd.func24, Tryd.ntmps24
  go_wp2
  go_region
  all_goals (go_wp2; go_ret; exact ⟨rfl, below_n w 1⟩)
theorem u64_id (z : Int) (hz : -9223372036854775808 ≤ z ∧ z ≤ 9223372036854775807) : ∃ v : Nat, IntKind.u64.wrap (IntKind.i64.wrap (z + 1)) = (v : Int) ∧ v ≤ 18446744073709551615 ∧ (-1 ≤ z ∧ z ≤ 254 → v = (z + 1).toNat ∧ v < 256) ∧ (¬ (-1 ≤ z ∧ z ≤ 254) → 256 ≤ v) := by
  have e1 : IntKind.i64.wrap (z + 1) = (z + 1 + 9223372036854775808) % 18446744073709551616 - 9223372036854775808 := by rw [i64_is, RowKit.wrap64]
  have e2 : ∀ y : Int, IntKind.u64.wrap y = y % 18446744073709551616 := fun y => IntKind.wrap_u64 y
  rw [e1, e2]
  exact ⟨(((z + 1 + 9223372036854775808) % 18446744073709551616 - 9223372036854775808) % 18446744073709551616).toNat, by omega, by omega, fun h => by omega, fun h => by omega⟩
end Go.Proofs.YtilkicbokfgjlaaDoor.Stp
