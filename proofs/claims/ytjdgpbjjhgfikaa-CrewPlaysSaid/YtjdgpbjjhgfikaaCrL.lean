
/- Shots but those of an id (crew.Without). Condition: at most a thousand shots of a thousand cells each. -/

import Derived.Test.YtjdgpbjjhgfikaaCrJ

namespace Go.Proofs.Ytjdgpbjjhgfikaa.Crw

open Go.RowKit Go.PlainAid Go.Proofs.Ytjdgpbjjhgfikaa.Args Go.Proofs.Ytjdgpbjjhgfikaa.Cel Go.Proofs.Ytjdgpbjjhgfikaa.Pt Go.Proofs.Ytjdgpbjjhgfikaa.Mpv

set_option linter.unusedVariables false

set_option linter.unusedSimpArgs false

def filt (id : Int) (l : List Sh) : List Sh := l.filter fun x => !(x.i == id)
theorem nums_grown {w w' : World} {V : Option Addr} {l : List Nat} {R : Option Nat} (h : NumsAt w V l) (hg : w.grownBy w' R) (ho : ∀ y, V = some y → R ≠ some y.block) : NumsAt w' V l := by
  intro i v hi
  obtain ⟨y, e, hc⟩ := h i v hi
  have e2 : (y.add i).block = y.block := by cases i <;> simp [Addr.add]
  have hl : y.block < w.heap.size := by rw [← e2]; exact Go.block_lt_of_cell hc
  exact ⟨y, e, (cell_same (w := w) (w' := w') (a := y.add i) (by rw [e2]; exact hg.block _ hl (fun h => ho y e h.symm))).trans hc⟩
/-- What was gathered, in a row of the call's own. -/
def OutAt (W : World) (N : Nat) (V : Value) (out : List SX) : Prop :=
  W.ownsRow N 79 5 V out.length (flX out) ∧ ∀ o ∈ out, NumsAt W o.V o.x.l ∧ ∀ y, o.V = some y → V.ownBlock ≠ some y.block ∧ y.block < W.heap.size
theorem OutAt.keep {W W' : World} {N : Nat} {V : Value} {out : List SX} (h : OutAt W N V out) (b : Below W.heap.size W W') : OutAt W' N V out :=
  ⟨own_keep h.1 b, fun o ho => ⟨(h.2 o ho).1.kept b, fun y hy => ⟨((h.2 o ho).2 y hy).1, Nat.lt_of_lt_of_le ((h.2 o ho).2 y hy).2 b.size⟩⟩⟩
def WiPost (l : List SX) (id : Int) (w : World) (e : Ending) (w' : World) : Prop :=
  ∃ V out, e = .returned V ∧ OutAt w' w.heap.size V out ∧ out.map SX.x = filt id (l.map SX.x) ∧ Below w.heap.size w w'
def WiRel (l : List SX) (id : Int) (n : Nat) (w : World) (V i : Value) (W : World) : Prop :=
  ∃ (k : Nat) (out : List SX), k ≤ n ∧ i = .int .i64 (k : Int) ∧ OutAt W w.heap.size V out ∧ out.map SX.x = filt id ((l.take k).map SX.x) ∧ Below w.heap.size w W
set_option maxRecDepth 8000 in
set_option maxHeartbeats 3200000 in
theorem without_any (A : Option Addr) (cap n : Nat) (l : List SX) (id : Int) (w : World) (h : XAt w A l) (hok : ∀ s ∈ l, s.ok ∧ s.x.l.length ≤ 1000) (hl : l.length = n) (hn : n ≤ 1000) :
    Calls Try.prog 27 #[.slice A n cap, .int .i64 id] w (WiPost l id w) := by
  obtain ⟨i0, hi0, hz0, hz1, hz2⟩ := info_parts infoShot
  have HX := Lib.hid h
  have HOK := Lib.hid hok
  have HN := Lib.hid hl
  have HL : Hid (n ≤ 1000) := hn
  have HS0 : Hid (WiRel l id n w (.slice none 0 0) (.int .i64 0) w) := ⟨0, [], Nat.zero_le _, rfl, ⟨World.ownsRow_nil _ _ _ _, fun o ho => by simp at ho⟩, rfl, Below.refl _ _⟩
  clear h hok hl hn
  go_enter Try.func27, Try.ntmps27
  go_wp2_with fail
  go_loopw [5, 10] (fun V i W => WiRel l id n w V i W) (fun _ i _ => n - (intOf i).toNat)
  case atStart => exact HS0.out
  case round =>
    rename World => W
    obtain ⟨k, out, hk, rfl, hout, hmap, hb⟩ := hrel
    obtain ⟨AO, cO, rfl⟩ := own_slice hout.1
    have HO := Lib.hid hout
    have HM := Lib.hid hmap
    have HB := Lib.hid hb
    clear hout hmap hb HS0
    by_cases hlt : k < n
    · obtain ⟨s, hs⟩ : ∃ s, l[k]? = some s := ⟨_, List.getElem?_eq_getElem (by rw [HN.out]; exact hlt)⟩
      obtain ⟨y, rfl, c0, c1, c2, c3, c4, hnum⟩ := (HX.out.kept HB.out) k s hs
      have hok := HOK.out s (List.mem_of_getElem? hs)
      have htk : (l.take (k + 1)).map SX.x = (l.take k).map SX.x ++ [s.x] := by rw [List.take_add_one, hs]; simp
      have HTK := Lib.hid htk
      have HOS := Lib.hid hok
      have HLT := Lib.hid hlt
      have hkb : (k : Int) < n := by omega
      have hki : (0 : Int) ≤ k := by omega
      have hk1 : IntKind.i64.wrap ((k : Int) + 1) = (k : Int) + 1 := IntWalk.i64_in _ (by have := HL.out; omega)
      have hb5 : Below W.heap.size W (W.alloc (.cells #[.int .i64 s.x.i, .int .i64 s.x.m, .int .i64 s.x.s, .int .i64 s.x.c, .slice s.V s.x.l.length s.c] 79)) := (Below.refl _ _).alloc (Nat.le_refl _) _
      have hx5 := heap_alloc_new W (.cells #[.int .i64 s.x.i, .int .i64 s.x.m, .int .i64 s.x.s, .int .i64 s.x.c, .slice s.V s.x.l.length s.c] 79)
      have hsz5 : (W.alloc (.cells #[.int .i64 s.x.i, .int .i64 s.x.m, .int .i64 s.x.s, .int .i64 s.x.c, .slice s.V s.x.l.length s.c] 79)).heap.size = W.heap.size + 1 := by simp
      have HCL := Lib.hid (cnums_any s.V s.c s.x.l _ (hnum.kept hb5) hok.1.1 hok.1.2 (by omega))
      clear hs hok htk hlt hk hnum
      go_upto_region 5 with fail
      obtain ⟨W5, hW5⟩ : ∃ W', W.alloc (.cells #[.int .i64 s.x.i, .int .i64 s.x.m, .int .i64 s.x.s, .int .i64 s.x.c, .slice s.V s.x.l.length s.c] 79) = W' := ⟨_, rfl⟩
      obtain ⟨Q, hQ⟩ : ∃ Q, W.heap.size = Q := ⟨_, rfl⟩
      have HQ := Lib.hid hQ
      rw [hW5] at hx5 hb5 HCL hsz5
      rw [hQ] at hx5
      rw [hW5, hQ]
      have HX5 := Lib.hid hx5
      have HB5 := Lib.hid hb5
      have HS5 := Lib.hid hsz5
      have x0 := cell_of_row W5 _ 0 _ _ _ hx5
      have x4 := cell_of_row W5 _ 4 _ _ _ hx5
      simp only [List.getElem?_toArray, List.getElem?_cons_zero, List.getElem?_cons_succ] at x0 x4
      clear hW5 hQ hx5 hb5 hsz5 c0 c1 c2 c3 c4
      by_cases hi : s.x.i = id
      · have t0 : (s.x.i != id) = false := by simp [hi]
        have HE : Hid (filt id ((l.take (k + 1)).map SX.x) = filt id ((l.take k).map SX.x)) := by
          show _ = _
          rw [HTK.out]
          unfold filt
          rw [List.filter_append]
          simp [hi]
        clear hi
        go_wp2
        go_roundw
        case rel => exact ⟨k + 1, out, HLT.out, by go_num, HO.out.keep HB5.out, by rw [HE.out]; exact HM.out, HB.out.trans (HB5.out.mono HB.out.size)⟩
        case measure => have := HLT.out; simp [intOf]; omega
      · have t0 : (s.x.i != id) = true := by simp; exact hi
        have HE : Hid (filt id ((l.take (k + 1)).map SX.x) = filt id ((l.take k).map SX.x) ++ [s.x]) := by
          show _ = _
          rw [HTK.out]
          unfold filt
          rw [List.filter_append]
          simp [hi]
        clear hi
        go_wp2_with fail
        refine HCL.out.mono ?_
        rintro e W6 ⟨V1, rfl, hov, hb6⟩
        obtain ⟨A1, c1, rfl⟩ := own_slice hov
        have hn1 := (own_nums hov rfl).1
        have hat1 := own_at hov
        have hx6 := (hb6.block Q (by have := HS5.out; have := HQ.out; omega)).trans HX5.out
        have z4 : W6.cell? ⟨Q, 4, none⟩ = some (.slice s.V s.x.l.length s.c) := by rw [cell_of_row W6 _ _ _ _ _ hx6]; rfl
        have f4 : W6.frozen? ⟨Q, 4, none⟩ = false := by simp [World.frozen?, hx6]
        have hx7 : (W6.setCell ⟨Q, 4, none⟩ (.slice A1 s.x.l.length c1)).heap[Q]? = some (.cells #[.int .i64 s.x.i, .int .i64 s.x.m, .int .i64 s.x.s, .int .i64 s.x.c, .slice A1 s.x.l.length c1] 79 (0, 0)) := by rw [heap_setCell_same W6 _ _ _ _ _ hx6]; rfl
        have hn7 : NumsAt (W6.setCell ⟨Q, 4, none⟩ (.slice A1 s.x.l.length c1)) A1 s.x.l := nums_block hn1 (fun y hy => heap_setCell_other W6 ⟨Q, 4, none⟩ _ _ (by have := (hat1 y hy).2.1; have := HS5.out; have := HQ.out; show y.block ≠ Q; omega))
        have hb7 : Below W.heap.size W (W6.setCell ⟨Q, 4, none⟩ (.slice A1 s.x.l.length c1)) := (HB5.out.trans (hb6.mono HB5.out.size)).trans ⟨rfl, rfl, rfl, by simp, fun b hb => heap_setCell_other W6 ⟨Q, 4, none⟩ b _ (by have := HQ.out; show b ≠ Q; omega)⟩
        have hs7 : W6.heap.size = (W6.setCell ⟨Q, 4, none⟩ (.slice A1 s.x.l.length c1)).heap.size := by simp
        obtain ⟨W7, hW7⟩ : ∃ W', W6.setCell ⟨Q, 4, none⟩ (.slice A1 s.x.l.length c1) = W' := ⟨_, rfl⟩
        rw [hW7] at hx7 hn7 hb7 hs7
        have HW7 := Lib.hid hW7
        have HX7 := Lib.hid hx7
        have HAT : Hid (∀ y, A1 = some y → W.heap.size < y.block ∧ y.block < W7.heap.size) := fun y hy => by have := (hat1 y hy).2; have := HS5.out; omega
        have hb78 : Below W7.heap.size W7 (W7.alloc (.cells #[.int .i64 s.x.i, .int .i64 s.x.m, .int .i64 s.x.s, .int .i64 s.x.c, .slice A1 s.x.l.length c1] 79)) := (Below.refl _ _).alloc (Nat.le_refl _) _
        have HN8 := Lib.hid (hn7.kept hb78)
        have HB8 := Lib.hid (hb7.trans (hb78.mono hb7.size))
        have HO8 := Lib.hid (HO.out.keep HB8.out)
        have HLE : Hid (out.length ≤ 1000) := by
          have h1 := congrArg List.length HM.out
          have h2 : (filt id ((l.take k).map SX.x)).length ≤ ((l.take k).map SX.x).length := List.length_filter_le _ _
          rw [List.length_map] at h1
          rw [List.length_map, List.length_take] at h2
          have := HLT.out; have := HL.out
          show _ ≤ _; omega
        have HSN : Hid (w.heap.size ≤ W7.heap.size) := Nat.le_trans HB.out.size hb7.size
        obtain ⟨on, hon⟩ : ∃ m, out.length = m := ⟨_, rfl⟩
        have HON := Lib.hid hon
        clear hov hb6 hn1 hat1 hx6 hx7 hn7 hb7 hs7 hW7 hb78 hon x0 x4
        go_upto_region 7 with fail
        rw [HW7.out]
        go_wp2_with (first
          | ((with_reducible show wpList _ _ _ _ _ _); refine wpList_load_row rfl 79 (.tmp 7) rfl Q rfl 79 _ (0, 0) _ HX7.out Try.underlying79 rfl size_sh ?_)
          | (at_builtin; refine wpList_append_own_at _ rfl _ _ 73 rfl w.heap.size 79 i0 (.agg #[.int .i64 0, .int .i64 0, .int .i64 0, .int .i64 0, .slice none 0 0]) 5 56 Try.underlying73 hi0 hz0 hz1 hz2 rfl (by decide) _ out.length _ rfl HO8.out.1 ⟨W7.heap.size, 0, none⟩ 1 1 [.int .i64 s.x.i, .int .i64 s.x.m, .int .i64 s.x.s, .int .i64 s.x.c, .slice A1 s.x.l.length c1] rfl rfl ?c1 ?c2 ?c3 ?c4 ?c5 ?_))
        case c1 =>
          intro j u hj
          have hrow := heap_alloc_new W7 (.cells #[.int .i64 s.x.i, .int .i64 s.x.m, .int .i64 s.x.s, .int .i64 s.x.c, .slice A1 s.x.l.length c1] 79)
          rw [add_blk, cell_of_row _ _ _ _ _ _ hrow, ← hj]
          simp
        case c2 => intro u hu; simp at hu; rcases hu with rfl | rfl | rfl | rfl | rfl <;> rfl
        case c3 => have := HLE.out; unfold maxLen; omega
        case c4 => have := HLE.out; omega
        case c5 => have := HSN.out; simp; omega
        intro V9 W9 ho9 hg9 _ hat9
        have hsz8 : (W7.alloc (.cells #[.int .i64 s.x.i, .int .i64 s.x.m, .int .i64 s.x.s, .int .i64 s.x.c, .slice A1 s.x.l.length c1] 79)).heap.size = W7.heap.size + 1 := by simp
        have hol := HO.out.1.lt
        have hne : ∀ (y : Addr), (Value.slice AO out.length cO).ownBlock ≠ some y.block → y.block < W7.heap.size + 1 → V9.ownBlock ≠ some y.block := fun y h1 h2 e => by
          rcases hat9 with e9 | e9
          · rw [e9] at e; exact h1 e
          · rw [e9] at e
            have := Option.some.inj e
            omega
        have HOUT : Hid (OutAt W9 w.heap.size V9 (out ++ [⟨s.x, A1, c1⟩])) := by
          refine ⟨by rw [List.length_append, flX_snoc]; exact ho9, fun o ho => ?_⟩
          rcases List.mem_append.1 ho with ho | ho
          · obtain ⟨h1, h2⟩ := HO8.out.2 o ho
            refine ⟨nums_grown h1 hg9 (fun y hy => (h2 y hy).1), fun y hy => ⟨hne y (h2 y hy).1 (by have := (h2 y hy).2; omega), Nat.lt_of_lt_of_le (h2 y hy).2 hg9.size⟩⟩
          · obtain rfl := List.mem_singleton.1 ho
            have hn2 : ∀ y, A1 = some y → (Value.slice AO out.length cO).ownBlock ≠ some y.block := fun y hy e => by
              have h1 := (hol _ e).2
              have h2 := (HAT.out y hy).1
              omega
            refine ⟨nums_grown HN8.out hg9 hn2, fun y hy => ⟨hne y (hn2 y hy) (by have := (HAT.out y hy).2; omega), ?_⟩⟩
            have h1 := (HAT.out y hy).2
            have h2 := hg9.size
            omega
        have HB9 := Lib.hid ((HB.out.trans (HB8.out.mono HB.out.size)).grown hg9 (Nat.le_trans HB.out.size HB8.out.size) (fun j hj => (hol j hj).1))
        have HE9 : Hid ((out ++ [(⟨s.x, A1, c1⟩ : SX)]).map SX.x = filt id ((l.take (k + 1)).map SX.x)) := by
          show _ = _
          rw [HE.out, List.map_append, HM.out]; rfl
        clear ho9 hg9 hat9 hsz8 hol hne z4 f4 HX7 HN8 HO8
        go_wp2
        go_roundw
        case rel => exact ⟨k + 1, out ++ [⟨s.x, A1, c1⟩], HLT.out, by go_num, HOUT.out, HE9.out, HB9.out⟩
        case measure => have := HLT.out; simp [intOf]; omega
    · obtain rfl : k = n := by omega
      have hfull : l.take k = l := List.take_of_length_le (by rw [HN.out]; exact Nat.le_refl _)
      rw [hfull] at HM
      clear hfull hk hlt
      go_wp2
      go_ret
      exact ⟨_, out, rfl, HO.out, HM.out, HB.out⟩
end Go.Proofs.Ytjdgpbjjhgfikaa.Crw
