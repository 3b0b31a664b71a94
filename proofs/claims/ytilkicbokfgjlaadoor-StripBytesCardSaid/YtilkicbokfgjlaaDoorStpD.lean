
/- A strip in memory: Rows, Of, Count. Condition: none. -/

import Derived.Test.YtilkicbokfgjlaaDoorStpC

namespace Go.Proofs.YtilkicbokfgjlaaDoor.Stp

open Go.RowKit Go.PlainAid Go.Proofs.YtilkicbokfgjlaaDoor.Cel

set_option linter.unusedVariables false

set_option linter.unusedSimpArgs false

theorem infoRow : (Tryd.prog.info? 50).map (fun i => (i.zero, i.size, i.bytes)) = some (some (.agg #[.int .i64 0, .int .i64 0]), 2, 16) := by kernel_rfl
theorem below_al (w : World) (o : Obj) : Below w.heap.size w (w.alloc o) := (Below.refl _ _).alloc (Nat.le_refl _) _
theorem sum_take_succ {X : List RW} {k : Nat} {x : RW} (h : X[k]? = some x) : sumR (X.take (k + 1)) = sumR (X.take k) + x.c := by
  rw [List.take_add_one, h]; exact sumR_snoc _ _
theorem take_snoc {X : List RW} {k : Nat} {x : RW} (h : X[k]? = some x) : X.take (k + 1) = X.take k ++ [x] := by
  rw [List.take_add_one, h]; rfl
theorem sum_take_le {X : List RW} (h : ∀ x ∈ X, 1 ≤ x.c) (k : Nat) : sumR (X.take k) ≤ sumR X := by
  have e := sumR_app (X.take k) (X.drop k)
  rw [List.take_append_drop] at e
  have := sum_nonneg (X := X.drop k) fun x hx => h x (List.mem_of_mem_drop hx)
  omega
/-- What Rows answers. -/
def RowsPost (w : World) (X : List RW) (e : Ending) (w' : World) : Prop := ∃ A c, e = .returned (.slice A X.length c) ∧ w'.ownsRow w.heap.size 50 2 (.slice A X.length c) X.length (flatR X) ∧ Below w.heap.size w w'
def RoRel (X : List RW) (w : World) (i v fr : Value) (wr : World) : Prop :=
  ∃ (k : Nat) (A : Option Addr) (c : Nat), k ≤ X.length ∧ i = .int .i64 (k : Int) ∧ v = .slice A k c ∧ fr = .int .i64 (sumR (X.take k)) ∧ wr.ownsRow w.heap.size 50 2 (.slice A k c) k (flatR (X.take k)) ∧ Below w.heap.size w wr
section

variable {w : World} {B g : Nat} {X : List RW}

set_option maxRecDepth 4000 in
set_option maxHeartbeats 1600000 in
theorem rows_any (h : IsSt w B g X) (ho : OkX X) : Calls Tryd.prog 16 #[.pointer (some ⟨g, 0, none⟩)] w (RowsPost w X) := by
  obtain ⟨i0, hi, hz0, hz1, hz2⟩ := info_parts infoRow
  obtain ⟨A0, c0, h⟩ := h
  have hc := h.cell
  have HS : Hid (∀ W1, Below w.heap.size w W1 → RAt W1 A0 (runsF 0 X)) := fun W1 hb => (h.keep hb).rat
  have HO := Lib.hid ho
  have hl := ho.len
  obtain ⟨N, hN⟩ : ∃ N, X.length = N := ⟨_, rfl⟩
  have HN := Lib.hid hN
  unfold RowsPost
  rw [hN] at hc hl ⊢
  clear h ho hN
  go_enter Tryd.func16, Tryd.ntmps16
  go_wp2_with fail
  go_loopw [12, 3, 4] (fun i v fr wr => RoRel X w i v fr wr) (fun i _ _ _ => N - (intOf i).toNat)
  case atStart => exact ⟨0, none, 0, Nat.zero_le _, rfl, rfl, rfl, World.ownsRow_nil _ _ _ _, Below.refl _ _⟩
  case round =>
    obtain ⟨k, A, c, hk, rfl, rfl, rfl, how, hb⟩ := hrel
    rw [HN.out] at hk
    have HB := Lib.hid hb
    have HOW := Lib.hid how
    clear hb how
    by_cases hlt : k < N
    · obtain ⟨x, hx⟩ : ∃ x, X[k]? = some x := ⟨_, List.getElem?_eq_getElem (by rw [HN.out]; exact hlt)⟩
      obtain ⟨ax, rfl, c1, c2⟩ := HS.out _ HB.out k _ (runsF_get X 0 k x hx)
      dsimp only at c1 c2
      have hsk := sum_take_succ hx
      have HT := Lib.hid (take_snoc hx)
      have HSK := Lib.hid hsk
      have hm := sum_take_mono HO.out.pos k
      have hm2 := sum_take_le HO.out.pos (k + 1)
      have hm3 := HO.out.sum
      have hxc := HO.out.pos x (List.mem_of_getElem? hx)
      rw [hsk, show (0 : Int) + (sumR (X.take k) + x.c) = sumR (X.take k) + x.c by omega] at c2
      obtain ⟨en, hen⟩ : ∃ v, sumR (X.take k) + x.c = v := ⟨_, rfl⟩
      have HEN := Lib.hid hen
      rw [hen] at c2
      have hws : IntKind.i64.wrap (en - sumR (X.take k)) = x.c := by rw [show en - sumR (X.take k) = x.c by omega]; exact IntWalk.i64_in _ (by omega)
      obtain ⟨fr, hfr⟩ : ∃ v, sumR (X.take k) = v := ⟨_, rfl⟩
      have HFR := Lib.hid hfr
      rw [hfr] at hws ⊢
      obtain ⟨xi, xc⟩ := x
      dsimp only at c1 hws hen hsk hxc
      have h0 : (0 : Int) ≤ k := by omega
      have h1 : (k : Int) < N := by omega
      have hk1 : IntKind.i64.wrap ((k : Int) + 1) = (k : Int) + 1 := IntWalk.i64_in _ (by omega)
      have hb5 := below_al wr (.cells #[.int .i64 xi, .int .i64 en] 78)
      have HB5 := Lib.hid (HB.out.trans (hb5.mono HB.out.size))
      have HX5 := Lib.hid (heap_alloc_new wr (.cells #[.int .i64 xi, .int .i64 en] 78))
      have HO5 := Lib.hid (HOW.out.alloc (.cells #[.int .i64 xi, .int .i64 en] 78))
      have HLT := Lib.hid HOW.out.lt
      obtain ⟨W5, hW5⟩ : ∃ W, wr.alloc (.cells #[.int .i64 xi, .int .i64 en] 78) = W := ⟨_, rfl⟩
      rw [hW5] at HB5 HX5 HO5
      have HW5 := Lib.hid hW5
      have e0 := cell_of_row _ _ 0 _ _ _ HX5.out
      have e1 := cell_of_row _ _ 1 _ _ _ HX5.out
      simp only [List.getElem?_toArray, List.getElem?_cons_zero, List.getElem?_cons_succ] at e0 e1
      clear hx hsk hm hm2 hm3 hxc hen hfr hb5 hW5
      have HR := Lib.hid (HO5.out.alloc (.cells #[.int .i64 xi, .int .i64 xc] 50))
      have HBR := Lib.hid (HB5.out.trans ((below_al W5 (.cells #[.int .i64 xi, .int .i64 xc] 50)).mono HB5.out.size))
      have HSZ : Hid (wr.heap.size < W5.heap.size) := lt_of_block HX5.out
      have HNL : Hid (N ≤ 1073741824) := hl
      have HKL : Hid (k < N) := hlt
      have HBS : Hid (w.heap.size ≤ wr.heap.size) := HB.out.size
      go_wp2_with (first | rw [HW5.out] | (at_builtin; refine wpList_append_own _ rfl _ _ 46 rfl _ 50 i0 (.agg #[.int .i64 0, .int .i64 0]) 2 16 Tryd.underlying46 hi hz0 hz1 hz2 rfl (by decide) _ _ _ rfl HR.out ⟨W5.heap.size, 0, none⟩ 1 1 [.int .i64 xi, .int .i64 xc] rfl rfl (Go.Proofs.YtilkicbokfgjlaaDoor.Stp.new2W W5 _ _ _ _ rfl) (one2W _ _) (by have := HNL.out; have := HKL.out; unfold maxLen; omega) (by have := HNL.out; have := HKL.out; omega) HBR.out.size ?_))
      intro V4 W4 ho4 hg4 _
      have HO4 := Lib.hid ho4
      have HB4 := Lib.hid (HBR.out.grown hg4 HBR.out.size (fun j hj => (HR.out.lt j hj).1))
      have e4 : W4.cell? ⟨wr.heap.size, 1, none⟩ = some (.int .i64 en) := hg4.cell (((below_al W5 (.cells #[.int .i64 xi, .int .i64 xc] 50)).cell HSZ.out).trans e1) (fun e => by have := (HLT.out _ e.symm).2; exact absurd this (Nat.lt_irrefl _))
      obtain ⟨A4, c4, hV4⟩ := own_slice ho4
      subst hV4
      clear ho4 hg4 e0 e1
      go_wp2
      go_roundw
      case rel =>
        refine ⟨k + 1, A4, c4, by rw [HN.out]; exact HKL.out, by go_num, rfl, ?_, ?_, HB4.out⟩
        · rw [HSK.out, HEN.out]
        · rw [HT.out, flatR_snoc]; exact HO4.out
      case measure => have := HKL.out; simp [intOf]; omega
    · obtain rfl : k = N := by omega
      have hf : X.take k = X := List.take_of_length_le (by rw [HN.out]; exact Nat.le_refl _)
      rw [hf] at HOW
      clear hf hl hk
      go_wp2
      go_ret
      exact ⟨A, c, rfl, HOW.out, HB.out⟩
end

end Go.Proofs.YtilkicbokfgjlaaDoor.Stp
