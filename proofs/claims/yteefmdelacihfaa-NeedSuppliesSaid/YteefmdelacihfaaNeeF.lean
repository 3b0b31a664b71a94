
/- Needs: the longest row of ticks without a partition (need.Blackout), of any schedule whose word is known. Condition: 1 to 1,048,576 ticks. -/

import Derived.Test.YteefmdelacihfaaNeeE

import Derived.Test.YteefmdelacihfaaNeeP

import Derived.Test.YteefmdelacihfaaShelf

import Derived.Deep.RegionHeld3

import Derived.BigQuiet

namespace Go.Proofs.Yteefmdelacihfaa.Nee

open Go.RowKit Go.PlainAid Go.Proofs.Yteefmdelacihfaa.Oct Go.Proofs.Yteefmdelacihfaa.Flt Go.Proofs.Yteefmdelacihfaa.Rdr Go.Proofs.Yteefmdelacihfaa.Args Go.Proofs.Yteefmdelacihfaa.Win

set_option linter.unusedVariables false

set_option linter.unusedSimpArgs false

theorem getD_at {zs : List Int} {j : Nat} (hj : j < zs.length) : zs.getD j 0 = zs[j] := by simp [List.getD, hj]
theorem idx_none {z : Int} {ws : List Int} (h : z ∉ ws) : Lib.idxOf ws z = -1 := by
  have := Lib.idxOf_miss ws ws.length z (fun j hj e => h (by
    rw [getD_at hj] at e
    rw [← e]; exact List.getElem_mem hj))
  rwa [List.take_length] at this
theorem idx_some {z : Int} : ∀ {ws : List Int}, z ∈ ws → ∃ f, f < ws.length ∧ ws[f]? = some z ∧ Lib.idxOf ws z = (f : Int) := by
  intro ws h
  have hx : ∃ f, ws.idxOf? z = some f := by
    cases e : ws.idxOf? z with
    | none => rw [List.idxOf?_eq_none_iff] at e; exact absurd h e
    | some f => exact ⟨f, rfl⟩
  obtain ⟨f, hf⟩ := hx
  have hf2 := hf
  unfold List.idxOf? at hf2
  rw [List.findIdx?_eq_some_iff_getElem] at hf2
  obtain ⟨h1, h2, h3⟩ := hf2
  have e2 : ws[f] = z := by simpa using h2
  refine ⟨f, h1, by rw [List.getElem?_eq_getElem h1, e2], ?_⟩
  have := Lib.idxOf_hit ws ws.length f z h1 (Nat.le_refl _) (by rw [getD_at h1, e2]) (fun j hj e => by
    have := h3 j hj
    rw [getD_at (by omega)] at e
    simp [e] at this)
  rwa [List.take_length] at this
/-- What window.Word hands back. -/
def WordAt (A : Array Value) (ws : List Int) (n : Nat) (w : World) : Prop :=
  ∀ W, Below w.heap.size w W → Calls Try.prog 22 #[.agg A] W fun e w' => ∃ VB c, e = .returned (.slice (some ⟨VB, 0, none⟩) n c) ∧ w'.ownsRow W.heap.size 3 1 (.slice (some ⟨VB, 0, none⟩) n c) n (ws.map (Value.int .i64)) ∧ Below W.heap.size W w'
theorem own_zat {w : World} {B VB n c : Nat} {ws : List Int} (h : w.ownsRow B 3 1 (.slice (some ⟨VB, 0, none⟩) n c) n (ws.map (Value.int .i64))) (hn : ws.length = n) : ZAt w ⟨VB, 0, none⟩ ws := fun j v hv => by
  have hj : j < n := by have := (List.getElem?_eq_some_iff.1 hv).1; omega
  have hc := h.cellAt j (by omega)
  rw [List.getElem?_map, hv] at hc
  have e : (Addr.mk VB 0 none).add j = ⟨VB, j, none⟩ := by cases j <;> simp [Addr.add]
  rw [e]
  exact hc
theorem own_cap {w : World} {B VB n c : Nat} {xs : List Value} (h : w.ownsRow B 3 1 (.slice (some ⟨VB, 0, none⟩) n c) n xs) : n ≤ c ∧ c ≤ maxLen := by
  rcases h.2 with ⟨e, _⟩ | ⟨g, cap, cur, e, h1, h2, h3, h4, _⟩
  · cases e
  · cases e; exact ⟨h3, h4⟩
def BkRel (z : Int) (r : List Int) (i row lg : Value) : Prop := ∃ k : Nat, k ≤ r.length ∧ i = .int .i64 (k : Int) ∧ row = .int .i64 (((r.take k).foldl (rowF z) (0, 0)).1 : Nat) ∧ lg = .int .i64 (((r.take k).foldl (rowF z) (0, 0)).2 : Nat)
theorem fold_more (z : Int) (r : List Int) (k : Nat) (v : Int) (h : r[k]? = some v) : (r.take (k + 1)).foldl (rowF z) (0, 0) = rowF z ((r.take k).foldl (rowF z) (0, 0)) v := by
  rw [List.take_add_one, h, List.foldl_append]; rfl
theorem fold_in (z : Int) (r : List Int) : ∀ k, ((r.take k).foldl (rowF z) (0, 0)).1 ≤ k ∧ ((r.take k).foldl (rowF z) (0, 0)).2 ≤ k
  | 0 => by simp
  | k + 1 => by
    obtain ⟨h1, h2⟩ := fold_in z r k
    cases h : r[k]? with
    | none =>
      rw [List.take_add_one, h]
      simp
      omega
    | some v =>
      rw [fold_more z r k v h]
      generalize (r.take k).foldl (rowF z) (0, 0) = s at *
      unfold rowF
      by_cases e : v = z
      · rw [if_pos e]; dsimp only; omega
      · rw [if_neg e]; dsimp only; omega
set_option maxRecDepth 8000 in
set_option maxHeartbeats 6400000 in
theorem black_any (id z : Int) (P C : Option Addr) (nl pc nn cc : Nat) (ws : List Int) (n : Nat) (w : World) (hw : WordAt #[.int .i64 id, .int .i64 (n : Int), .slice P nl pc, .slice C nn cc] ws n w) (hwl : ws.length = n) (h1 : 1 ≤ n) (h2 : n ≤ 1048576) :
    Calls Try.prog 11 #[.agg #[.int .i64 id, .int .i64 (n : Int), .slice P nl pc, .slice C nn cc], .int .i64 z] w fun e w' => e = .returned (.int .i64 (bestD z ws n : Nat)) ∧ Below w.heap.size w w' := by
  have hb0 : Below w.heap.size w (w.alloc (.cells #[.int .i64 id, .int .i64 (n : Int), .slice P nl pc, .slice C nn cc] 25)) := (Below.refl _ _).alloc (Nat.le_refl _) _
  have hx0 := heap_alloc_new w (.cells #[.int .i64 id, .int .i64 (n : Int), .slice P nl pc, .slice C nn cc] 25)
  have HW := Lib.hid (hw _ hb0)
  have HB0 := Lib.hid hb0
  have HX0 := Lib.hid hx0
  have HWL := Lib.hid hwl
  have HN : Hid (1 ≤ n ∧ n ≤ 1048576) := ⟨h1, h2⟩
  obtain ⟨bd, hbd⟩ : ∃ b, bestD z ws n = b := ⟨_, rfl⟩
  have HBD := Lib.hid hbd
  rw [hbd]
  clear hw hb0 hx0 hwl h1 h2 hbd
  go_enter Try.func11, Try.ntmps11
  go_wp2_with fail
  refine HW.out.mono ?_
  rintro e w2 ⟨VB, c, rfl, ho2, hb2⟩
  have HB2 := Lib.hid (HB0.out.trans (hb2.mono HB0.out.size))
  have HX2 := Lib.hid ((hb2.block _ (lt_of_block HX0.out)).trans HX0.out)
  have HZ2 := Lib.hid (own_zat ho2 HWL.out)
  have HV2 : Hid (VB < w2.heap.size) := (ho2.lt VB rfl).2
  have HC2 := Lib.hid (own_cap ho2)
  clear ho2 hb2 HW HB0 HX0
  have HIX : Hid (∀ W, ZAt W ⟨VB, 0, none⟩ ws → Calls Try.prog 24 #[.slice (some ⟨VB, 0, none⟩) n c, .int .i64 z] W fun e w' => e = .returned (.int .i64 (Lib.idxOf ws z)) ∧ w' = W) := fun W h => by
    have hh := Try.slices_Index_int VB 0 n c ws z W (by rw [HWL.out]; exact Nat.le_refl _) (by have := HN.out.2; omega) (fun j hj => by
      have hv : ws[j]? = some ws[j] := List.getElem?_eq_getElem hj
      have e : (Addr.mk VB 0 none).add j = ⟨VB, 0 + j, none⟩ := by cases j <;> simp [Addr.add]
      rw [← e, h j _ hv, getD_at hj])
    rw [List.take_of_length_le (by rw [HWL.out]; exact Nat.le_refl _)] at hh
    exact hh
  by_cases hz : z ∈ ws
  · obtain ⟨f, hf, hfz, hfi⟩ := idx_some hz
    rw [hfi] at HIX
    rw [HWL.out] at hf
    have hbs := best_some z ws f hfz
    rw [HWL.out, HBD.out] at hbs
    have hrl := rot_len ws f (by rw [HWL.out]; omega)
    rw [HWL.out] at hrl
    have HCT : Hid (∀ W X, W.cell? ⟨X, 0, none⟩ = some (.slice (some ⟨VB, f, none⟩) (n - f) (c - f)) → W.cell? ⟨X, 1, none⟩ = some (.slice (some ⟨VB, 0, none⟩) f c) → Below w2.heap.size w2 W → Calls Try.prog 25 #[.slice (some ⟨X, 0, none⟩) 2 2] W (OPost W n (rotZ ws f))) := fun W X c0 c1 b => by
      have hz := HZ2.out.kept b (fun _ => HV2.out)
      have e1 : (Addr.mk VB 0 none).add f = ⟨VB, f, none⟩ := by cases f <;> simp [Addr.add]
      have e2 : (Addr.mk VB 0 none).add 0 = ⟨VB, 0, none⟩ := by simp [Addr.add]
      have hzf := hz.part f (n - f)
      have hz0 := hz.part 0 f
      rw [e1, List.take_of_length_le (by rw [List.length_drop, HWL.out]; exact Nat.le_refl _)] at hzf
      rw [e2, List.drop_zero] at hz0
      have := HN.out
      have hh := concat_any X ⟨VB, f, none⟩ ⟨VB, 0, none⟩ (n - f) (c - f) (ws.drop f) f c (ws.take f) W c0 c1 hzf hz0 (by rw [List.length_drop, HWL.out]) (by rw [List.length_take, HWL.out]; omega) (Nat.lt_of_lt_of_le HV2.out b.size) (Nat.lt_of_lt_of_le HV2.out b.size) (by omega) (by omega) (by omega)
      rw [show n - f + f = n by omega] at hh
      exact hh
    obtain ⟨r, hr⟩ : ∃ r, rotZ ws f = r := ⟨_, rfl⟩
    rw [hr] at HCT hbs hrl
    have HBS := Lib.hid hbs
    have HRL := Lib.hid hrl
    have hNN := HN.out
    have hCC := HC2.out
    have q1 : ¬ (f : Int) < 0 := by omega
    have q2 : (0 : Int) ≤ f := by omega
    have q3 : (f : Int) ≤ n := by omega
    have q4 : (f : Int) ≤ c := by omega
    have q5 : ¬ c = f := by omega
    have q6 : ¬ c - f = 0 := by omega
    have q7 : ¬ c = 0 := by omega
    have q8 : f ≤ n := by omega
    have q9 : f ≤ c := by omega
    have q10 : n ≤ c := by omega
    have HQ : Hid (f < n ∧ 1 ≤ n ∧ n ≤ 1048576) := ⟨hf, hNN⟩
    clear hz hf hfz hfi hbs hrl hr hNN hCC
    go_wp2_with fail
    refine (HIX.out _ HZ2.out).mono ?_
    rintro e w3 ⟨rfl, rfl⟩
    go_upto_region 6 with fail
    have HPW : Hid (Below w3.heap.size w3 (w3.alloc (.cells #[.slice (some ⟨VB, f, none⟩) (n - f) (c - f), .slice (some ⟨VB, 0, none⟩) f c] 28)).drew) := ((Below.refl _ _).alloc (Nat.le_refl _) _).drew
    have HCC := Lib.hid (HCT.out (w3.alloc (.cells #[.slice (some ⟨VB, f, none⟩) (n - f) (c - f), .slice (some ⟨VB, 0, none⟩) f c] 28)).drew w3.heap.size (cell_of_row (w3.alloc _) _ 0 _ _ _ (heap_alloc_new w3 _)) (cell_of_row (w3.alloc _) _ 1 _ _ _ (heap_alloc_new w3 _)) HPW.out)
    go_region_held3 (fun _ => True) (trivial) (first | (go_at_call 25; refine HCC.out.mono ?_; rintro e w4 ⟨V4, rfl, ho4, hb4⟩; have HB4 := Lib.hid (HB2.out.trans ((HPW.out.trans (hb4.mono HPW.out.size)).mono HB2.out.size)); obtain ⟨m, hm⟩ : ∃ m, n = m + 1 := ⟨n - 1, by have := HQ.out; omega⟩; rw [hm] at ho4; obtain ⟨g, c4, rfl⟩ := ownsRow_succ ho4; rw [← hm] at ho4; have HO4 := Lib.hid ho4; rw [← hm]; clear ho4 hb4 hm HCC HCT HIX))
    have HR4 : Hid (ZAt w4 ⟨g, 0, none⟩ r) := own_zat HO4.out HRL.out
    clear HZ2 HV2 HC2 HPW HO4 HX2 HB2 q1 q2 q3 q4 q5 q6 q7 q8 q9 q10
    go_wp2
    go_loop [29, 8, 7] (fun i row lg => BkRel z r i row lg) (fun i _ _ => n - (intOf i).toNat)
    case atStart => exact ⟨0, Nat.zero_le _, rfl, rfl, rfl⟩
    case round =>
      obtain ⟨k, hk, rfl, rfl, rfl⟩ := hrel
      have hkn : k ≤ n := by rw [← HRL.out]; exact hk
      have hq := HQ.out
      have hin := fold_in z r k
      by_cases hlt : k < n
      · obtain ⟨v, hv⟩ : ∃ v, r[k]? = some v := ⟨_, List.getElem?_eq_getElem (by rw [HRL.out]; exact hlt)⟩
        have hc := HR4.out k v hv
        have e : (Addr.mk g 0 none).add k = ⟨g, k, none⟩ := by cases k <;> simp [Addr.add]
        rw [e] at hc
        have hm := fold_more z r k v hv
        obtain ⟨s, hs⟩ : ∃ s, (r.take k).foldl (rowF z) (0, 0) = s := ⟨_, rfl⟩
        rw [hs] at hm hin
        rw [hs]
        have hki : (0 : Int) ≤ k := by omega
        have hkb : (k : Int) < n := by omega
        have hk1 : IntKind.i64.wrap ((k : Int) + 1) = (k : Int) + 1 := IntWalk.i64_in _ (by omega)
        have hs1 : IntKind.i64.wrap ((s.1 : Int) + 1) = ((s.1 + 1 : Nat) : Int) := IntWalk.i64_in _ (by omega)
        have HM := Lib.hid hm
        clear e hv hm hs hk
        by_cases hvz : v = z
        · have hvb : (v == z) = true := by simp [hvz]
          have hmx : max (s.2 : Int) 0 = (s.2 : Int) := by omega
          have hmx2 : max (s.2 : Int) ((0 : Nat) : Int) = (s.2 : Int) := by omega
          have e3 : rowF z s v = (0, s.2) := by unfold rowF; rw [if_pos hvz]; simp
          rw [e3] at HM
          clear hvz e3
          go_wp2
          go_round
          case rel => exact ⟨k + 1, by rw [HRL.out]; omega, by go_num, by rw [HM.out]; first | done | rfl, by rw [HM.out]; first | done | rfl | simp⟩
          case measure => simp [intOf]; omega
        · have hvb : (v == z) = false := by simp [hvz]
          have hmx : max (s.2 : Int) ((s.1 + 1 : Nat) : Int) = ((max s.2 (s.1 + 1) : Nat) : Int) := by omega
          have e3 : rowF z s v = (s.1 + 1, max s.2 (s.1 + 1)) := by unfold rowF; rw [if_neg hvz]
          rw [e3] at HM
          clear hvz e3
          go_wp2
          go_round
          case rel => exact ⟨k + 1, by rw [HRL.out]; omega, by go_num, by rw [HM.out]; first | done | rfl | go_num | simp, by rw [HM.out]; first | done | rfl | (dsimp only; go_num) | (dsimp only; congr 1; omega) | simp⟩
          case measure => simp [intOf]; omega
      · obtain rfl : k = n := by omega
        have e : ((r.take k).foldl (rowF z) (0, 0)).2 = bd := by rw [List.take_of_length_le (by rw [HRL.out]; exact Nat.le_refl _), fold_best0, HBS.out]
        rw [e]
        clear e
        go_wp2
        go_ret
        exact ⟨rfl, HB4.out⟩
  · have hi := idx_none hz
    rw [hi] at HIX
    have hbn := best_none z ws hz
    rw [HWL.out, HBD.out] at hbn
    have c1 : w2.cell? ⟨w.heap.size, 1, none⟩ = some (.int .i64 (n : Int)) := by rw [cell_of_row _ _ _ _ _ _ HX2.out]; rfl
    have HBN := Lib.hid hbn
    clear hz hi hbn
    go_wp2_with fail
    refine (HIX.out _ HZ2.out).mono ?_
    rintro e w3 ⟨rfl, rfl⟩
    go_wp2
    go_ret
    exact ⟨by rw [HBN.out]; rfl, HB2.out⟩
end Go.Proofs.Yteefmdelacihfaa.Nee
