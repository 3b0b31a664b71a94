
/- Modes: those that are asked for, one behind the other. Condition: at most a thousand of them. -/

import Derived.Test.YtnmcmeifbnpdaaaModA

import Derived.Test.YtnmcmeifbnpdaaaArgs

import Derived.OwnWalk

import Derived.IntWalk

import Derived.Laws.AppendOwn

namespace Go.Proofs.Ytnmcmeifbnpdaaa.Mod

open Go.RowKit Go.PlainAid Go.Proofs.Ytnmcmeifbnpdaaa.Args

set_option linter.unusedVariables false

set_option linter.unusedSimpArgs false

/-- The mode behind k that were asked for. -/
def nw (zs : Nat → Int) (from_ : Int) : Nat → Int
  | 0 => from_
  | k + 1 => setM (nw zs from_ k) (zs k)
/-- What the first k tell, cell for cell. -/
def fl (zs : Nat → Int) (from_ : Int) : Nat → List Value
  | 0 => []
  | k + 1 => fl zs from_ k ++ [.int .i64 (setM (nw zs from_ k) (zs k)), .int .i64 (setS (nw zs from_ k) (zs k)), .int .i64 (askN (nw zs from_ k) (zs k))]
theorem fl_len (zs : Nat → Int) (f : Int) : ∀ k, (fl zs f k).length = k * 3
  | 0 => rfl
  | k + 1 => by simp [fl, fl_len zs f k]; omega
theorem fl_get (zs : Nat → Int) (f : Int) : ∀ (n j : Nat), j < n →
    (fl zs f n)[j * 3]? = some (.int .i64 (setM (nw zs f j) (zs j))) ∧ (fl zs f n)[j * 3 + 1]? = some (.int .i64 (setS (nw zs f j) (zs j))) ∧ (fl zs f n)[j * 3 + 2]? = some (.int .i64 (askN (nw zs f j) (zs j)))
  | 0, j, h => by omega
  | n + 1, j, h => by
    rcases (show j < n ∨ j = n by omega) with h1 | rfl
    · obtain ⟨a, b, c⟩ := fl_get zs f n j h1
      have hl := fl_len zs f n
      unfold fl
      refine ⟨?_, ?_, ?_⟩
      · rw [List.getElem?_append_left (by omega)]; exact a
      · rw [List.getElem?_append_left (by omega)]; exact b
      · rw [List.getElem?_append_left (by omega)]; exact c
    · have hl := fl_len zs f j
      unfold fl
      refine ⟨?_, ?_, ?_⟩
      · rw [List.getElem?_append_right (by omega), hl]; simp
      · rw [List.getElem?_append_right (by omega), hl]; simp
      · rw [List.getElem?_append_right (by omega), hl]; simp
/-- A slice of numbers: the first n of them. -/
def IntsAt (w : World) (a : Option Addr) (n : Nat) (zs : Nat → Int) : Prop := ∀ j, j < n → ∃ x, a = some x ∧ w.cell? (x.add j) = some (.int .i64 (zs j))
theorem IntsAt.kept {w w' : World} {a : Option Addr} {n : Nat} {zs : Nat → Int} (h : IntsAt w a n zs) (b : Below w.heap.size w w') : IntsAt w' a n zs := fun j hj => by
  obtain ⟨x, hx, hc⟩ := h j hj
  exact ⟨x, hx, (b.cell (Go.block_lt_of_cell hc)).trans hc⟩
theorem row_ints {w : World} {a : Option Addr} {len cap : Nat} {z : List Int} (h : IsRow .i64 w a len cap z) : IntsAt w a len (fun j => z.getD j 0) ∧ (∀ j, -9223372036854775808 ≤ z.getD j 0 ∧ z.getD j 0 ≤ 9223372036854775807) := by
  rcases h with ⟨rfl, rfl, rfl, rfl⟩ | ⟨y, rfl, h1, h2, h3, h4, h5⟩
  · exact ⟨fun j hj => by omega, fun j => by simp⟩
  · refine ⟨fun j hj => ⟨y, rfl, h4 j (by omega)⟩, fun j => ?_⟩
    rcases Nat.lt_or_ge j z.length with hj | hj
    · have hm : z.getD j 0 ∈ z := by simp [List.getD, hj]
      exact bounds_i64 (h5 _ hm)
    · simp [List.getD, List.getElem?_eq_none hj]
theorem infoCh : (Try.prog.info? 30).map (fun i => (i.zero, i.size, i.bytes)) = some (some (.agg #[.int .i64 0, .int .i64 0, .int .i64 0]), 3, 24) := by kernel_rfl
theorem own_slice {w : World} {B e s n : Nat} {v : Value} {xs : List Value} (h : w.ownsRow B e s v n xs) : ∃ A c, v = .slice A n c := by
  rcases h.2 with ⟨rfl, rfl⟩ | ⟨g, cap, cur, rfl, _⟩
  · exact ⟨none, 0, rfl⟩
  · exact ⟨_, _, rfl⟩
structure PR (zs : Nat → Int) (f : Int) (w : World) (k : Nat) (v : Value) (wr : World) : Prop where
  own : wr.ownsRow w.heap.size 30 3 v k (fl zs f k)
  below : Below w.heap.size w wr
theorem PR.keep {zs : Nat → Int} {f : Int} {w : World} {k : Nat} {v : Value} {wr w' : World} (h : PR zs f w k v wr) (b : Below wr.heap.size wr w') : PR zs f w k v w' := by
  refine ⟨⟨h.own.1, ?_⟩, h.below.trans (b.mono h.below.size)⟩
  rcases h.own.2 with h | ⟨g, cap, cur, h1, h2, h3, h4⟩
  · exact .inl h
  · exact .inr ⟨g, cap, cur, h1, h2, (b.block g (lt_of_block h3)).trans h3, h4⟩
def PathRel (zs : Nat → Int) (f : Int) (n : Nat) (w : World) (v now i : Value) (wr : World) : Prop :=
  ∃ k, k ≤ n ∧ i = .int .i64 (k : Int) ∧ now = .int .i64 (nw zs f k) ∧ PR zs f w k v wr
set_option maxHeartbeats 1600000 in
set_option maxRecDepth 4000 in
theorem path_any (f : Int) (a : Option Addr) (n cap : Nat) (zs : Nat → Int) (w : World) (hz : IntsAt w a n zs) (hn : n ≤ 1000) :
    Calls Try.prog 9 #[.int .i64 f, .slice a n cap] w fun e w' => ∃ V, e = .returned V ∧ w'.ownsRow w.heap.size 30 3 V n (fl zs f n) ∧ Below w.heap.size w w' := by
  obtain ⟨i0, hi, hz0, hz1, hz2⟩ := info_parts infoCh
  have HZ := Lib.hid hz
  have HN : Hid (n ≤ 1000) := hn
  clear hz
  have HS : Hid (PR zs f w 0 (.slice none 0 0) w) := ⟨World.ownsRow_nil _ _ _ _, Below.refl _ _⟩
  go_enter Try.func9, Try.ntmps9
  go_wp2_with fail
  go_loopw [5, 6, 13] (fun v now i wr => PathRel zs f n w v now i wr) (fun _ _ i _ => n - (intOf i).toNat)
  case atStart => exact ⟨0, Nat.zero_le _, rfl, rfl, HS.out⟩
  case round =>
    obtain ⟨k, hk, rfl, rfl, hp⟩ := hrel
    have HP := Lib.hid hp
    clear hp HS
    by_cases hlt : k < n
    · obtain ⟨x, rfl, hc⟩ := (HZ.out.kept (HP.out.below)) k hlt
      obtain ⟨z, hz⟩ : ∃ z, zs k = z := ⟨_, rfl⟩
      obtain ⟨m, hm⟩ : ∃ m, nw zs f k = m := ⟨_, rfl⟩
      rw [hz] at hc
      rw [hm]
      have hm2 : nw zs f (k + 1) = setM m z := by show setM (nw zs f k) (zs k) = _; rw [hm, hz]
      have hf2 : fl zs f (k + 1) = fl zs f k ++ [.int .i64 (setM m z), .int .i64 (setS m z), .int .i64 (askN m z)] := by show fl zs f k ++ _ = _; rw [hm, hz]
      have HM2 := Lib.hid hm2
      have HF2 := Lib.hid hf2
      have hkb : (k : Int) < n := by omega
      clear hk hz hm hm2 hf2
      go_wp2_with fail
      refine (set_any m z _).mono ?_
      rintro e w1 ⟨rfl, hb1⟩
      have HP1 := Lib.hid (HP.out.keep hb1)
      obtain ⟨M, hM⟩ : ∃ M, setM m z = M := ⟨_, rfl⟩
      obtain ⟨S, hS⟩ : ∃ S, setS m z = S := ⟨_, rfl⟩
      obtain ⟨K, hK⟩ : ∃ K, askN m z = K := ⟨_, rfl⟩
      rw [hM, hS, hK] at HF2
      rw [hM] at HM2
      rw [hM, hS, hK]
      have HP2 := Lib.hid (HP1.out.keep ((Below.refl _ _).alloc (Nat.le_refl _) (.cells #[.int .i64 M, .int .i64 S, .int .i64 K] 30)))
      have hx := heap_alloc_new w1 (.cells #[.int .i64 M, .int .i64 S, .int .i64 K] 30)
      clear hb1 hM hS hK hc
      go_upto_region 7 with fail
      obtain ⟨W2, hW2⟩ : ∃ W, w1.alloc (.cells #[.int .i64 M, .int .i64 S, .int .i64 K] 30) = W := ⟨_, rfl⟩
      obtain ⟨X, hX⟩ : ∃ X, w1.heap.size = X := ⟨_, rfl⟩
      rw [hW2] at HP2 hx
      rw [hX] at hx
      rw [hW2, hX]
      have HX := Lib.hid hx
      have c0 := cell_of_row _ _ 0 _ _ _ hx
      have c1 := cell_of_row _ _ 1 _ _ _ hx
      have c2 := cell_of_row _ _ 2 _ _ _ hx
      simp only [List.getElem?_toArray, List.getElem?_cons_zero, List.getElem?_cons_succ] at c0 c1 c2
      have HRX := Lib.hid (HP2.out.keep ((Below.refl _ _).alloc (Nat.le_refl _) (.cells #[.int .i64 M, .int .i64 S, .int .i64 K] 30)))
      have HNX : Hid (∀ kk, u5.ownBlock = some kk → kk ≠ X) := fun kk hkk e => by
        have := (HP1.out.own.lt kk hkk).2
        omega
      clear hx hW2 hX HP1
      go_wp2_with (at_builtin; refine wpList_append_own _ rfl _ _ 24 rfl w.heap.size 30 i0 (.agg #[.int .i64 0, .int .i64 0, .int .i64 0]) 3 24 Try.underlying24 hi hz0 hz1 hz2 rfl (by decide) _ k _ rfl HRX.out.own ⟨W2.heap.size, 0, none⟩ 1 1 [.int .i64 M, .int .i64 S, .int .i64 K] rfl rfl ?c1 ?c2 ?c3 ?c4 ?c5 ?_)
      case c1 =>
        intro j u hj
        have hrow := heap_alloc_new W2 (.cells #[.int .i64 M, .int .i64 S, .int .i64 K] 30)
        have e : (Addr.mk W2.heap.size 0 none).add j = ⟨W2.heap.size, j, none⟩ := by cases j <;> simp [Addr.add]
        rw [e, cell_of_row _ _ _ _ _ _ hrow, ← hj]
        simp
      case c2 => intro u hu; simp at hu; rcases hu with rfl | rfl | rfl <;> rfl
      case c3 => have := HN.out; unfold maxLen; omega
      case c4 => have := HN.out; omega
      case c5 => exact HRX.out.below.size
      intro v' w5 ho5 hg5 _
      have hx5 := (hg5.block X (Nat.lt_of_lt_of_le (lt_of_block HX.out) (by simp)) (fun e => HNX.out X e.symm rfl)).trans ((heap_alloc_old W2 (.cells #[.int .i64 M, .int .i64 S, .int .i64 K] 30) (lt_of_block HX.out)).trans HX.out)
      have d0 := cell_of_row _ _ 0 _ _ _ hx5
      simp only [List.getElem?_toArray, List.getElem?_cons_zero] at d0
      rw [← HF2.out] at ho5
      have hb5 := HRX.out.below.grown hg5 HRX.out.below.size (fun kk hkk => (HRX.out.own.lt kk hkk).1)
      have HP5 : Hid (PR zs f w (k + 1) v' w5) := ⟨ho5, hb5⟩
      have hnn := HN.out
      have hk1 : IntKind.i64.wrap ((k : Int) + 1) = (k : Int) + 1 := IntWalk.i64_in _ (by omega)
      clear ho5 hg5 hx5 hb5 c0 c1 c2 hnn
      go_wp2
      go_roundw
      case rel => exact ⟨k + 1, by omega, by go_num, by rw [HM2.out], HP5.out⟩
      case measure => simp [intOf]; omega
    · obtain rfl : k = n := by omega
      clear hk hlt
      go_wp2
      go_ret
      exact ⟨_, rfl, HP.out.own, HP.out.below⟩
theorem row_succ {w : World} {B e m : Nat} {v : Value} {xs : List Value} (h : w.ownsRow B e 3 v (m + 1) xs) : ∃ g c, v = .slice (some ⟨g, 0, none⟩) (m + 1) c := by
  rcases h.2 with ⟨rfl, h2⟩ | ⟨g, cap, cur, rfl, _⟩
  · omega
  · exact ⟨_, _, rfl⟩
/-- The cells of a row of the call's own. -/
theorem row_at {w W : World} {B e n c : Nat} {A : Option Addr} {xs : List Value} (h : w.ownsRow B e 3 (.slice A n c) n xs) (b : Below w.heap.size w W) (k : Nat) (hk : k < n) :
    ∃ G, A = some ⟨G, 0, none⟩ ∧ W.cell? ⟨G, k * 3, none⟩ = xs[k * 3]? ∧ W.cell? ⟨G, k * 3 + 1, none⟩ = xs[k * 3 + 1]? ∧ W.cell? ⟨G, k * 3 + 2, none⟩ = xs[k * 3 + 2]? := by
  obtain ⟨m, rfl⟩ : ∃ m, n = m + 1 := ⟨n - 1, by omega⟩
  obtain ⟨g, c', hv⟩ := row_succ h
  have hv' : A = some ⟨g, 0, none⟩ := by injection hv
  subst hv'
  have hg : g < w.heap.size := (h.lt g rfl).2
  refine ⟨g, rfl, ?_, ?_, ?_⟩
  · exact (b.cell (p := ⟨g, k * 3, none⟩) hg).trans (h.cellAt (k * 3) (by omega))
  · exact (b.cell (p := ⟨g, k * 3 + 1, none⟩) hg).trans (h.cellAt (k * 3 + 1) (by omega))
  · exact (b.cell (p := ⟨g, k * 3 + 2, none⟩) hg).trans (h.cellAt (k * 3 + 2) (by omega))
theorem setM_zero (z : Int) : setM 0 z = 0 := by
  unfold setM askN
  by_cases h : z < 0 ∨ 3 < z
  · simp [h]
  · simp [h]
end Go.Proofs.Ytnmcmeifbnpdaaa.Mod
