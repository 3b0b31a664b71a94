/- Needs: two rows of numbers, one behind the other (slices.Concat). Condition: at most 2 to the power 40 numbers in each. Needs: the longest row of ticks without a partition (need.Blackout), of any schedule whose word is known. Condition: 1 to 1,048,576 ticks. -/
import Derived.Test.YtpjillclladjaaaDoorMg17
import Derived.Laws.AppendOwnNone
import Derived.Lib.AppendZerosOnto
import Derived.Lib.AppendZeros
import Derived.Lib.SliceRun
import Derived.Test.YtpjillclladjaaaDoorMg07
import Derived.Deep.RegionHeld3
import Derived.BigQuiet
namespace Go.Proofs.YtpjillclladjaaaDoor.Nee

open Go.RowKit Go.PlainAid Go.Proofs.YtpjillclladjaaaDoor.Oct Go.Proofs.YtpjillclladjaaaDoor.Flt Go.Proofs.YtpjillclladjaaaDoor.Rdr Go.Proofs.YtpjillclladjaaaDoor.Args Go.Proofs.YtpjillclladjaaaDoor.Win

set_option linter.unusedVariables false

set_option linter.unusedSimpArgs false

/-- Numbers of the call's own. -/
def OPost (w : World) (n : Nat) (xs : List Int) (e : Ending) (w' : World) : Prop := ∃ V, e = .returned V ∧ w'.ownsRow w.heap.size 3 1 V n (xs.map (Value.int .i64)) ∧ Below w.heap.size w w'
theorem owns_blockZ {w : World} {B n c : Nat} {cs : List Value} (h : w.heap[B]? = some (.cells cs.toArray 3 (0, 0))) (hn : n ≤ c) (hc : cs.length = c) (hm : c ≤ maxLen) :
    w.ownsRow B 3 1 (.slice (some ⟨B, 0, none⟩) n c) n (cs.take n) :=
  ⟨by simp; omega, .inr ⟨B, c, cs.toArray, rfl, Nat.le_refl _, h, hn, hm, by simpa using hc, by simp⟩⟩
theorem zat_cells {w : World} {y : Addr} {zs : List Int} (h : ZAt w y zs) : ∀ j v, (zs.map (Value.int .i64))[j]? = some v → w.cell? (y.add j) = some v := by
  intro j v hj
  rw [List.getElem?_map] at hj
  cases hz : zs[j]? with
  | none => rw [hz] at hj; cases hj
  | some x =>
    rw [hz] at hj
    obtain rfl := Option.some.inj hj
    exact h j x hz
set_option maxRecDepth 8000 in
set_option maxHeartbeats 800000 in
theorem grow_nil (n : Nat) (h1 : 1 ≤ n) (h2 : n ≤ 2199023255552) (w : World) :
    Calls Tryd.prog 77 #[.slice none 0 0, .int .i64 n] w (OPost w 0 []) := by
  obtain ⟨i0, hi, hz0, hz1, hz2⟩ := info_parts infoInt
  have hold : (Builtin.firstCells i0.size 0 (.slice none 0 0)).run Tryd.prog w.drew = .ok (#[] : Array Value) w.drew := run_firstCells_none w.drew i0.size 0 0 0
  have hrz : ∀ ty, (Builtin.append_ #[24, 3] ty #[.slice none 0 0, .int .i64 n]).run Tryd.prog w = _ := fun ty =>
    Lib.run_append_grow_zeros w 24 3 ty 3 i0 (.int .i64 0) .i64 .i64 Tryd.underlying24 Tryd.underlying3 hi hz0 none 0 0 [] hold n (by omega) (by rw [hz1]; decide) (by omega) (by omega) (by rw [hz2]; omega) (by rw [hz2]; unfold Builtin.nextslicecap; rw [if_pos (by omega)]; omega)
  have hGn : 0 + n ≤ grownCap w (0 + n) 0 3 := grownCap_ge w _ _ _
  obtain ⟨G, hG⟩ : ∃ G, G = grownCap w (0 + n) 0 3 := ⟨_, rfl⟩
  rw [← hG] at hrz hGn
  have hGm : G ≤ maxLen := by rw [hG]; exact grownCap_le_maxLen w (0 + n) 0 _ (by unfold maxLen; omega)
  obtain ⟨cur, hcur⟩ : ∃ cur, cur = (([] : List Value).toArray ++ Builtin.zeroCells (Value.int .i64 0).cells n ++ Builtin.zeroCells (Value.int .i64 0).cells (G - (0 + n))) := ⟨_, rfl⟩
  rw [← hcur] at hrz
  have hcs : cur.size = G := by rw [hcur]; simp [Builtin.zeroCells, Value.cells]; omega
  rw [Nat.zero_add] at hrz hGn
  have HOW : Hid ((w.drew.alloc (.cells cur 3)).ownsRow w.heap.size 3 1 (.slice (some ⟨w.heap.size, 0, none⟩) 0 G) 0 []) := by
    have h := owns_blockZ (w := w.drew.alloc (.cells cur 3)) (B := w.heap.size) (n := 0) (c := G) (cs := cur.toList) (by rw [Array.toArray_toList]; exact heap_alloc_new w.drew _) (Nat.zero_le _) (by simpa using hcs) hGm
    show World.ownsRow _ _ _ _ _ _ _
    simpa using h
  have HBB : Hid (Below w.heap.size w (w.drew.alloc (.cells cur 3))) := ((Below.refl w.heap.size w).drew).alloc (Nat.le_refl _) _
  have hn0 : (0 : Int) < n := by omega
  have hGi : G ≤ 9223372036854775807 := hGm
  clear hold hG hcur hcs hGm
  go_enter Tryd.func77, Tryd.ntmps77
  go_wp2_with (at_builtin; refine Lib.wpList_append_run _ rfl _ _ _ _ rfl _ _ rfl rfl _ _ (hrz _) ?_)
  go_ret
  exact ⟨_, rfl, HOW.out, HBB.out⟩
def catN (len m : Nat) : Nat → Nat
  | 0 => 0
  | 1 => len
  | _ => len + m
def catL (xs ys : List Int) : Nat → List Int
  | 0 => []
  | 1 => xs
  | _ => xs ++ ys
set_option maxRecDepth 8000 in
set_option maxHeartbeats 1600000 in
theorem concat_any (X : Nat) (ya yb : Addr) (len cap : Nat) (xs : List Int) (m c : Nat) (ys : List Int) (w : World) (h0 : w.cell? ⟨X, 0, none⟩ = some (.slice (some ya) len cap)) (h1 : w.cell? ⟨X, 1, none⟩ = some (.slice (some yb) m c))
    (hx : ZAt w ya xs) (hy : ZAt w yb ys) (hxl : xs.length = len) (hyl : ys.length = m) (hya : ya.block < w.heap.size) (hyb : yb.block < w.heap.size) (hl : len ≤ 1099511627776) (hl1 : 1 ≤ len) (hm2 : m ≤ 1099511627776) :
    Calls Tryd.prog 54 #[.slice (some ⟨X, 0, none⟩) 2 2] w (OPost w (len + m) (xs ++ ys)) := by
  obtain ⟨i0, hi, hz0, hz1, hz2⟩ := info_parts infoInt
  have H0 := Lib.hid h0
  have H1 := Lib.hid h1
  have HX := Lib.hid hx
  have HY := Lib.hid hy
  have HXL := Lib.hid hxl
  have HYL := Lib.hid hyl
  have hsum : (len : Int) + m ≤ 2199023255552 := by omega
  clear h0 h1 hx hy hxl hyl
  go_enter Tryd.func54, Tryd.ntmps54
  go_wp2
  go_loop [3, 11] (fun s i => ∃ k : Nat, k ≤ 2 ∧ i = .int .i64 k ∧ s = .int .i64 (catN len m k)) (fun _ i => 2 - (intOf i).toNat)
  case atStart => exact ⟨0, by omega, rfl, rfl⟩
  case round =>
    obtain ⟨k, hk, rfl, rfl⟩ := hrel
    rcases (show k = 0 ∨ k = 1 ∨ k = 2 by omega) with rfl | rfl | rfl
    · have h0 := H0.out
      rw [show catN len m 0 = 0 from rfl]
      have hs : IntKind.i64.wrap (((0 : Nat) : Int) + (len : Int)) = (len : Int) := by rw [IntKind.wrap_i64]; omega
      go_wp2
      go_round
      case rel => exact ⟨1, by omega, rfl, by first | rfl | go_num | simp [catN]⟩
      case measure => simp [intOf]
    · have h1 := H1.out
      rw [show catN len m 1 = len from rfl]
      go_wp2
      go_round
      case rel => exact ⟨2, by omega, rfl, by first | rfl | go_num | simp [catN]⟩
      case measure => simp [intOf]
    · rw [show catN len m 2 = len + m from rfl]
      have HG : Hid (∀ w, Calls Tryd.prog 77 #[.slice none 0 0, .int .i64 ((len : Int) + (m : Int))] w (OPost w 0 [])) := fun w => by
        rw [← Int.natCast_add]; exact grow_nil (len + m) (by omega) (by omega) w
      go_wp2_with fail
      refine (HG.out w).mono ?_
      rintro e w1 ⟨V0, rfl, ho0, hb0⟩
      have HO0 := Lib.hid ho0
      have HB0 := Lib.hid hb0
      clear ho0 hb0 HG
      go_wp2
      go_loopw [6, 27] (fun v i wr => ∃ k : Nat, k ≤ 2 ∧ i = .int .i64 k ∧ wr.ownsRow w.heap.size 3 1 v (catN len m k) ((catL xs ys k).map (Value.int .i64)) ∧ Below w.heap.size w wr) (fun _ i _ => 2 - (intOf i).toNat)
      case atStart => exact ⟨0, by omega, rfl, HO0.out, HB0.out⟩
      case round =>
        obtain ⟨k, hk, rfl, ho, hb⟩ := hrel
        have HO := Lib.hid ho
        have HB := Lib.hid hb
        clear HO0 HB0
        rcases (show k = 0 ∨ k = 1 ∨ k = 2 by omega) with rfl | rfl | rfl
        · have hc0 : wr.cell? ⟨X, 0, none⟩ = some (.slice (some ya) len cap) := (hb.cell (p := ⟨X, 0, none⟩) (Go.block_lt_of_cell H0.out)).trans H0.out
          have HA := Lib.hid (zat_cells (HX.out.kept HB.out (fun _ => hya)))
          clear ho hb
          go_wp2_with (at_builtin; refine wpList_append_own _ rfl _ _ 24 rfl w.heap.size 3 i0 (.int .i64 0) 1 8 Tryd.underlying24 hi hz0 hz1 hz2 rfl (by decide) _ _ _ rfl HO.out ya len cap (xs.map (Value.int .i64)) rfl ?c1 ?c2 ?c3 ?c4 ?c5 ?c6 ?_)
          case c1 => rw [List.length_map, HXL.out, Nat.mul_one]
          case c2 => exact HA.out
          case c3 => exact ints_oneCell _ _
          case c4 => rw [show catN len m 0 = 0 from rfl]; unfold maxLen; omega
          case c5 => rw [show catN len m 0 = 0 from rfl]; omega
          case c6 => exact HB.out.size
          intro v' w2 ho2 hg2 _
          have HB2 := Lib.hid (HB.out.grown hg2 HB.out.size (fun j hj => (HO.out.lt j hj).1))
          have HO2 : Hid (w2.ownsRow w.heap.size 3 1 v' (catN len m 1) ((catL xs ys 1).map (Value.int .i64))) := by
            have h := ho2
            rw [show catN len m 0 + len = catN len m 1 by simp [catN]] at h
            exact h
          clear hg2 ho2
          go_wp2
          go_roundw
          case rel => exact ⟨1, by omega, rfl, HO2.out, HB2.out⟩
          case measure => simp [intOf]
        · have hc1 : wr.cell? ⟨X, 1, none⟩ = some (.slice (some yb) m c) := (hb.cell (p := ⟨X, 1, none⟩) (Go.block_lt_of_cell H1.out)).trans H1.out
          have HA := Lib.hid (zat_cells (HY.out.kept HB.out (fun _ => hyb)))
          clear ho hb
          go_wp2_with (at_builtin; refine wpList_append_own _ rfl _ _ 24 rfl w.heap.size 3 i0 (.int .i64 0) 1 8 Tryd.underlying24 hi hz0 hz1 hz2 rfl (by decide) _ _ _ rfl HO.out yb m c (ys.map (Value.int .i64)) rfl ?c1 ?c2 ?c3 ?c4 ?c5 ?c6 ?_)
          case c1 => rw [List.length_map, HYL.out, Nat.mul_one]
          case c2 => exact HA.out
          case c3 => exact ints_oneCell _ _
          case c4 => rw [show catN len m 1 = len from rfl]; unfold maxLen; omega
          case c5 => rw [show catN len m 1 = len from rfl]; omega
          case c6 => exact HB.out.size
          intro v' w2 ho2 hg2 _
          have HB2 := Lib.hid (HB.out.grown hg2 HB.out.size (fun j hj => (HO.out.lt j hj).1))
          have HO2 : Hid (w2.ownsRow w.heap.size 3 1 v' (catN len m 2) ((catL xs ys 2).map (Value.int .i64))) := by
            have h := ho2
            rw [← List.map_append] at h
            exact h
          clear hg2 ho2
          go_wp2
          go_roundw
          case rel => exact ⟨2, by omega, rfl, HO2.out, HB2.out⟩
          case measure => simp [intOf]
        · clear ho hb
          go_wp2
          go_ret
          exact ⟨_, rfl, HO.out, HB.out⟩
end Go.Proofs.YtpjillclladjaaaDoor.Nee

namespace Go.Proofs.YtpjillclladjaaaDoor.Nee

open Go.RowKit Go.PlainAid Go.Proofs.YtpjillclladjaaaDoor.Oct Go.Proofs.YtpjillclladjaaaDoor.Flt Go.Proofs.YtpjillclladjaaaDoor.Rdr Go.Proofs.YtpjillclladjaaaDoor.Args Go.Proofs.YtpjillclladjaaaDoor.Win

set_option linter.unusedVariables false

set_option linter.unusedSimpArgs false

theorem getD_at {zs : List Int} {j : Nat} (hj : j < zs.length) : zs.getD j 0 = zs[j] := by simp [List.getD, hj]
theorem idx_none {z : Int} {ws : List Int} (h : z ∉ ws) : Lib.idxOf ws z = -1 := by
  have := Lib.idxOf_miss ws ws.length z (fun j hj e => h (by
    rw [getD_at hj] at e
    rw [← e]; exact List.getElem_mem hj))
  rwa [List.take_length] at this
theorem idx_some {z : Int} : ∀ {ws : List Int}, z ∈ ws → ∃ f, f < ws.length ∧ ws[f]? = some z ∧ Lib.idxOf ws z = (f : Int) := by
  intro ws h
  have hx : ∃ f, ws.idxOf? z = some f := by
    cases e : ws.idxOf? z with
    | none => rw [List.idxOf?_eq_none_iff] at e; exact absurd h e
    | some f => exact ⟨f, rfl⟩
  obtain ⟨f, hf⟩ := hx
  have hf2 := hf
  unfold List.idxOf? at hf2
  rw [List.findIdx?_eq_some_iff_getElem] at hf2
  obtain ⟨h1, h2, h3⟩ := hf2
  have e2 : ws[f] = z := by simpa using h2
  refine ⟨f, h1, by rw [List.getElem?_eq_getElem h1, e2], ?_⟩
  have := Lib.idxOf_hit ws ws.length f z h1 (Nat.le_refl _) (by rw [getD_at h1, e2]) (fun j hj e => by
    have := h3 j hj
    rw [getD_at (by omega)] at e
    simp [e] at this)
  rwa [List.take_length] at this
/-- What window.Word hands back. -/
def WordAt (A : Array Value) (ws : List Int) (n : Nat) (w : World) : Prop :=
  ∀ W, Below w.heap.size w W → Calls Tryd.prog 72 #[.agg A] W fun e w' => ∃ VB c, e = .returned (.slice (some ⟨VB, 0, none⟩) n c) ∧ w'.ownsRow W.heap.size 3 1 (.slice (some ⟨VB, 0, none⟩) n c) n (ws.map (Value.int .i64)) ∧ Below W.heap.size W w'
theorem own_zat {w : World} {B VB n c : Nat} {ws : List Int} (h : w.ownsRow B 3 1 (.slice (some ⟨VB, 0, none⟩) n c) n (ws.map (Value.int .i64))) (hn : ws.length = n) : ZAt w ⟨VB, 0, none⟩ ws := fun j v hv => by
  have hj : j < n := by have := (List.getElem?_eq_some_iff.1 hv).1; omega
  have hc := h.cellAt j (by omega)
  rw [List.getElem?_map, hv] at hc
  have e : (Addr.mk VB 0 none).add j = ⟨VB, j, none⟩ := by cases j <;> simp [Addr.add]
  rw [e]
  exact hc
theorem own_cap {w : World} {B VB n c : Nat} {xs : List Value} (h : w.ownsRow B 3 1 (.slice (some ⟨VB, 0, none⟩) n c) n xs) : n ≤ c ∧ c ≤ maxLen := by
  rcases h.2 with ⟨e, _⟩ | ⟨g, cap, cur, e, h1, h2, h3, h4, _⟩
  · cases e
  · cases e; exact ⟨h3, h4⟩
def BkRel (z : Int) (r : List Int) (i row lg : Value) : Prop := ∃ k : Nat, k ≤ r.length ∧ i = .int .i64 (k : Int) ∧ row = .int .i64 (((r.take k).foldl (rowF z) (0, 0)).1 : Nat) ∧ lg = .int .i64 (((r.take k).foldl (rowF z) (0, 0)).2 : Nat)
theorem fold_more (z : Int) (r : List Int) (k : Nat) (v : Int) (h : r[k]? = some v) : (r.take (k + 1)).foldl (rowF z) (0, 0) = rowF z ((r.take k).foldl (rowF z) (0, 0)) v := by
  rw [List.take_add_one, h, List.foldl_append]; rfl
theorem fold_in (z : Int) (r : List Int) : ∀ k, ((r.take k).foldl (rowF z) (0, 0)).1 ≤ k ∧ ((r.take k).foldl (rowF z) (0, 0)).2 ≤ k
  | 0 => by simp
  | k + 1 => by
    obtain ⟨h1, h2⟩ := fold_in z r k
    cases h : r[k]? with
    | none =>
      rw [List.take_add_one, h]
      simp
      omega
    | some v =>
      rw [fold_more z r k v h]
      generalize (r.take k).foldl (rowF z) (0, 0) = s at *
      unfold rowF
      by_cases e : v = z
      · rw [if_pos e]; dsimp only; omega
      · rw [if_neg e]; dsimp only; omega
end Go.Proofs.YtpjillclladjaaaDoor.Nee
