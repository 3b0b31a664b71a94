
/- Needs: by how much needs are met (need.Slack). Conditions: 1 to 1,048,576 ticks; at most 1,000 needs, whose numbers may be. -/

import Derived.Test.YteefmdelacihfaaNeeL

import Derived.Test.YteefmdelacihfaaWinD

namespace Go.Proofs.Yteefmdelacihfaa.Nee

open Go.RowKit Go.PlainAid Go.Proofs.Yteefmdelacihfaa.Oct Go.Proofs.Yteefmdelacihfaa.Flt Go.Proofs.Yteefmdelacihfaa.Rdr Go.Proofs.Yteefmdelacihfaa.Args Go.Proofs.Yteefmdelacihfaa.Win

open Go.Proofs.Yteefmdelacihfaa.Act (A3 ActsAt I64)

set_option linter.unusedVariables false

set_option linter.unusedSimpArgs false

/-- By how much a need is met. -/
def slV (ws : List Int) (n : Nat) (x : A3) : Int := if divB x.p n = true then ((lsV x.s x.p ws n : Nat) : Int) - x.a else 0
def slUp (ws : List Int) (n : Nat) (l : List A3) (k : Nat) : List Int := (l.take k).map (slV ws n) ++ List.replicate (l.length - k) 0
theorem slUp_len (ws : List Int) (n : Nat) (l : List A3) (k : Nat) (h : k ≤ l.length) : (slUp ws n l k).length = l.length := by
  unfold slUp; rw [List.length_append, List.length_map, List.length_take, List.length_replicate]; omega
theorem slUp_set (ws : List Int) (n : Nat) (l : List A3) (k : Nat) (x : A3) (h : l[k]? = some x) : (slUp ws n l k).set k (slV ws n x) = slUp ws n l (k + 1) := by
  obtain ⟨hk, _⟩ := List.getElem?_eq_some_iff.1 h
  obtain ⟨m, hm⟩ : ∃ m, l.length - k = m + 1 := ⟨l.length - k - 1, by omega⟩
  have hl : ((l.take k).map (slV ws n)).length = k := by rw [List.length_map, List.length_take]; omega
  unfold slUp
  rw [hm, show l.length - (k + 1) = m by omega, List.take_add_one, h, List.set_append_right _ _ (by omega), hl, Nat.sub_self, List.replicate_succ, List.set_cons_zero, List.map_append, List.append_assoc]
  rfl
theorem slUp_get (ws : List Int) (n : Nat) (l : List A3) (k : Nat) (h : k < l.length) : (slUp ws n l k)[k]? = some 0 := by
  have hl : ((l.take k).map (slV ws n)).length = k := by rw [List.length_map, List.length_take]; omega
  unfold slUp
  rw [List.getElem?_append_right (by omega), hl, Nat.sub_self]
  obtain ⟨m, hm⟩ : ∃ m, l.length - k = m + 1 := ⟨l.length - k - 1, by omega⟩
  rw [hm]; rfl
theorem slUp_skip (ws : List Int) (n : Nat) (l : List A3) (k : Nat) (x : A3) (h : l[k]? = some x) (h0 : slV ws n x = 0) : slUp ws n l (k + 1) = slUp ws n l k := by
  rw [← slUp_set ws n l k x h, h0]
  have hk := (List.getElem?_eq_some_iff.1 h).1
  have hg := slUp_get ws n l k hk
  apply List.ext_getElem?
  intro i
  rw [List.getElem?_set]
  split
  · rename_i e
    subst e
    rw [if_pos (by rw [slUp_len ws n l k (by omega)]; exact hk), hg]
  · rfl
theorem slUp_all (ws : List Int) (n : Nat) (l : List A3) : slUp ws n l l.length = l.map (slV ws n) := by
  unfold slUp; rw [List.take_length, Nat.sub_self]; simp
theorem slUp_zero (ws : List Int) (n : Nat) (l : List A3) : (slUp ws n l 0).map (Value.int .i64) = List.replicate l.length (.int .i64 0) := by
  unfold slUp; simp
/-- Within Slack: the schedule's box b, the word, the numbers so far. -/
structure SL (b : Nat) (xs : Array Value) (VB n c : Nat) (ws : List Int) (NB m : Nat) (ys : List Int) (w wr : World) : Prop where
  box : wr.heap[b]? = some (.cells xs 25 (0, 0))
  word : wr.ownsRow w.heap.size 3 1 (.slice (some ⟨VB, 0, none⟩) n c) n (ws.map (Value.int .i64))
  out : wr.ownsRow w.heap.size 3 1 (.slice (some ⟨NB, 0, none⟩) m m) m (ys.map (Value.int .i64))
  ne : VB ≠ NB
  gt : b < NB
  below : Below w.heap.size w wr
theorem SL.keep {b : Nat} {xs : Array Value} {VB n c : Nat} {ws : List Int} {NB m : Nat} {ys : List Int} {w wr w' : World} (f : SL b xs VB n c ws NB m ys w wr) (k : Below wr.heap.size wr w') : SL b xs VB n c ws NB m ys w w' :=
  ⟨(k.block _ (lt_of_block f.box)).trans f.box, owns_kept f.word k, owns_kept f.out k, f.ne, f.gt, f.below.trans (k.mono f.below.size)⟩
theorem SL.drewN {b : Nat} {xs : Array Value} {VB n c : Nat} {ws : List Int} {NB m : Nat} {ys : List Int} {w wr : World} (f : SL b xs VB n c ws NB m ys w wr) (k : Nat) : SL b xs VB n c ws NB m ys w (wr.drewN k) := f.keep ⟨rfl, rfl, rfl, Nat.le_refl _, fun _ _ => rfl⟩
theorem SL.set {b : Nat} {xs : Array Value} {VB n c : Nat} {ws : List Int} {NB m : Nat} {ys : List Int} {w wr : World} (f : SL b xs VB n c ws NB m ys w wr) (k : Nat) (u : Int) : SL b xs VB n c ws NB m (ys.set k u) w (wr.setCell ⟨NB, k, none⟩ (.int .i64 u)) := by
  have hst := f.out.stored k (.int .i64 u)
  rw [← List.map_set] at hst
  refine ⟨(hst.2.block b (lt_of_block f.box) (fun e => by cases e; exact absurd f.gt (Nat.lt_irrefl _))).trans f.box, f.word.kept hst.2 (.inr (fun e => f.ne (by simpa [Value.ownBlock] using e))), hst.1, f.ne, f.gt, f.below.grown hst.2 f.below.size (fun k e => by cases e; exact (f.out.lt NB rfl).1)⟩
def SLRel (b : Nat) (xs : Array Value) (VB n c : Nat) (ws : List Int) (NB m : Nat) (l : List A3) (w : World) (i : Value) (wr : World) : Prop :=
  ∃ k : Nat, k ≤ l.length ∧ i = .int .i64 k ∧ SL b xs VB n c ws NB m (slUp ws n l k) w wr
set_option maxRecDepth 8000 in
set_option maxHeartbeats 6400000 in
theorem slack_any (id : Int) (P : Option Addr) (nl pc : Nat) (l : List A3) (C : Option Addr) (cc : Nat) (ws : List Int) (n : Nat) (w : World)
    (h1 : ActsAt w C l) (hnum : ∀ x ∈ l, Num x) (hl : l.length ≤ 1000) (hw : WordAt #[.int .i64 id, .int .i64 (n : Int), .slice P nl pc, .slice C l.length cc] ws n w) (hwl : ws.length = n) (hn1 : 1 ≤ n) (hn2 : n ≤ 1048576) :
    Calls Try.prog 17 #[.agg #[.int .i64 id, .int .i64 (n : Int), .slice P nl pc, .slice C l.length cc]] w fun e w' => ∃ NB, e = .returned (.slice (some ⟨NB, 0, none⟩) l.length l.length) ∧ w'.ownsRow w.heap.size 3 1 (.slice (some ⟨NB, 0, none⟩) l.length l.length) l.length ((l.map (slV ws n)).map (Value.int .i64)) ∧ Below w.heap.size w w' := by
  obtain ⟨i0, hi, hz0, hz1, hz2⟩ := info_parts infoInt
  obtain ⟨a, ha⟩ : ∃ a, l.length = a := ⟨_, rfl⟩
  have HA := Lib.hid ha
  have hall := slUp_all ws n l
  have hzero := slUp_zero ws n l
  rw [ha] at hl hw hall hzero
  rw [ha]
  have HALL := Lib.hid hall
  have HZERO := Lib.hid hzero
  have H1 := Lib.hid h1
  have HM := Lib.hid hnum
  have HL : Hid (a ≤ 1000) := hl
  have HWL := Lib.hid hwl
  have HNN : Hid (1 ≤ n ∧ n ≤ 1048576) := ⟨hn1, hn2⟩
  have hb0 : Below w.heap.size w (w.alloc (.cells #[.int .i64 id, .int .i64 (n : Int), .slice P nl pc, .slice C a cc] 25)) := (Below.refl _ _).alloc (Nat.le_refl _) _
  have HB0 := Lib.hid hb0
  have HW0 := Lib.hid (hw _ hb0)
  have HBX := Lib.hid (heap_alloc_new w (.cells #[.int .i64 id, .int .i64 (n : Int), .slice P nl pc, .slice C a cc] 25))
  clear ha h1 hw hb0 hnum hwl hn1 hn2 hl hall hzero
  go_enter Try.func17, Try.ntmps17
  go_wp2_with fail
  refine HW0.out.mono ?_
  rintro e w2 ⟨VB, vc, rfl, ho2, hb2⟩
  have HB2 := Lib.hid (HB0.out.trans (hb2.mono HB0.out.size))
  have HX2 := Lib.hid ((hb2.block _ (lt_of_block HBX.out)).trans HBX.out)
  have HO2 := Lib.hid (ho2.mono HB0.out.size)
  have z3 := cell_of_row _ _ 3 _ _ _ HX2.out
  simp only [List.getElem?_toArray, List.getElem?_cons_zero, List.getElem?_cons_succ] at z3
  clear ho2 hb2 HBX HB0 HW0
  go_wp2_with ((with_reducible show wpList _ _ _ _ _ _); refine wpList_make_full _ rfl (.tmp 11) (.tmp 11) 28 rfl (w.heap.size) 3 i0 (.int .i64 0) 1 Try.underlying28 hi hz0 hz1 .i64 .i64 _ _ a rfl rfl (by simp) (by simp) ?m1 ?m2 ?m3 ?_)
  case m1 => have := HL.out; rw [hz2]; omega
  case m2 => have := HL.out; unfold maxLen; omega
  case m3 => exact HB2.out.size
  intro w3 ho3 hg3
  have hb3 : Below w2.heap.size w2 w3 := (Below.refl _ _).grown hg3 (Nat.le_refl _) (fun k hk => by cases hk)
  have hlt2 := lt_of_block HX2.out
  have hVB := (HO2.out.lt VB rfl).2
  have hs3 : SL w.heap.size #[.int .i64 id, .int .i64 (n : Int), .slice P nl pc, .slice C a cc] VB n vc ws w2.heap.size a (slUp ws n l 0) w w3 := by
    refine ⟨(hb3.block _ hlt2).trans HX2.out, owns_kept HO2.out hb3, ?_, by omega, hlt2, HB2.out.trans (hb3.mono HB2.out.size)⟩
    rw [HZERO.out]
    have h5 := toList_madeCells_one (.int .i64 0) a
    rw [← h5]
    exact ho3
  obtain ⟨NB, hNB⟩ : ∃ NB, w2.heap.size = NB := ⟨_, rfl⟩
  rw [hNB] at hs3
  rw [hNB]
  have HS3 := Lib.hid hs3
  have y3 := cell_of_row _ _ 3 _ _ _ hs3.box
  simp only [List.getElem?_toArray, List.getElem?_cons_zero, List.getElem?_cons_succ] at y3
  clear ho3 hg3 hb3 hlt2 hVB hs3 hNB HO2 HX2 HB2 z3
  go_wp2_with fail
  clear y3
  go_loopw [16] (fun i wr => SLRel w.heap.size #[.int .i64 id, .int .i64 (n : Int), .slice P nl pc, .slice C a cc] VB n vc ws NB a l w i wr) (fun i _ => a - (intOf i).toNat)
  case atStart => exact ⟨0, Nat.zero_le _, rfl, HS3.out⟩
  case round =>
    obtain ⟨k, hk, rfl, hsl⟩ := hrel
    have HSL := Lib.hid hsl
    have hka : k ≤ a := by rw [← HA.out]; exact hk
    clear hk hsl HS3
    by_cases hlt : k < a
    · obtain ⟨x, hx⟩ : ∃ x, l[k]? = some x := ⟨_, List.getElem?_eq_getElem (by rw [HA.out]; exact hlt)⟩
      obtain ⟨ax, rfl, c1, c2, c3⟩ := (H1.out.kept HSL.out.below) k x hx
      have HMX := Lib.hid (HM.out x (List.mem_of_getElem? hx))
      have HST := Lib.hid (slUp_set ws n l k x hx)
      have HSK := Lib.hid (slUp_skip ws n l k x hx)
      have HGT := Lib.hid (slUp_get ws n l k (by rw [HA.out]; exact hlt))
      have hb5 : Below wr.heap.size wr (wr.alloc (.cells (winC x) 43)) := (Below.refl _ _).alloc (Nat.le_refl _) _
      have HX5 := Lib.hid (heap_alloc_new wr (.cells (winC x) 43))
      have HS5 := Lib.hid (HSL.out.keep hb5)
      have HNX : Hid (NB < wr.heap.size) := (HSL.out.out.lt NB rfl).2
      have HDV := Lib.hid (fun W => divides_any x.p n (by have := HMX.out; unfold Num at this; unfold I64; omega) HNN.out.2 W)
      have HLS : Hid (divB x.p n = true → ∀ W, ∀ ys, SL w.heap.size #[.int .i64 id, .int .i64 (n : Int), .slice P nl pc, .slice (some ax) a cc] VB n vc ws NB a ys w W → Calls Try.prog 21 #[.slice (some ⟨VB, 0, none⟩) n vc, .int .i64 x.s, .int .i64 x.p] W fun e w' => e = .returned (.int .i64 (lsV x.s x.p ws n : Nat)) ∧ Below W.heap.size W w') := fun hd W ys h => by
        obtain ⟨hq1, hqn⟩ := divB_true hd
        obtain ⟨p, hp⟩ : ∃ p : Nat, x.p = (p : Int) := ⟨x.p.toNat, by omega⟩
        unfold lsV
        rw [if_pos hd, hp, Int.toNat_natCast]
        rw [hp, Int.toNat_natCast] at hqn
        have hK1 : 1 ≤ n / p := by
          rcases Nat.eq_zero_or_pos (n / p) with h | h
          · rw [h] at hqn; have := HNN.out; omega
          · exact h
        have hh := least_any x.s ws ⟨VB, 0, none⟩ p (n / p) vc W (own_zat h.word HWL.out) (h.word.lt VB rfl).2 (by rw [HWL.out, hqn]) (by omega) hK1 (by rw [hqn]; have := HNN.out; omega) (by rw [hqn]; exact (own_cap h.word).1)
        rw [hqn] at hh
        exact hh
      have hlb : ((lsV x.s x.p ws n : Nat) : Int) ≤ 1048576 := by
        have := HMX.out
        unfold Num at this
        unfold lsV
        split
        · have := minC_le x.s ws x.p.toNat x.p.toNat (n / x.p.toNat)
          omega
        · omega
      have hsv : slV ws n x = _ := rfl
      unfold slV at hsv
      obtain ⟨s1, p1, a1⟩ := x
      unfold winC at HX5 HS5
      dsimp only at c1 c2 c3 HX5 HS5 HLS HDV hlb hsv
      obtain ⟨dv, hdv⟩ : ∃ b, divB p1 n = b := ⟨_, rfl⟩
      obtain ⟨ls, hls⟩ : ∃ m, lsV s1 p1 ws n = m := ⟨_, rfl⟩
      have hsv2 : slV ws n ⟨s1, p1, a1⟩ = if dv = true then (ls : Int) - a1 else 0 := by unfold slV; dsimp only; rw [hdv, hls]
      rw [hdv] at HDV HLS
      rw [hls] at HLS hlb
      have HSV := Lib.hid hsv2
      have hmx := HMX.out
      unfold Num at hmx
      dsimp only at hmx
      have hki : (0 : Int) ≤ k := by omega
      have hkb : (k : Int) < a := by omega
      have hk1 : IntKind.i64.wrap ((k : Int) + 1) = (k : Int) + 1 := IntWalk.i64_in _ (by have := HL.out; omega)
      have hws : IntKind.i64.wrap ((ls : Int) - a1) = (ls : Int) - a1 := IntWalk.i64_in _ (by omega)
      have y1 := cell_of_row _ _ 1 _ _ _ HS5.out.box
      simp only [List.getElem?_toArray, List.getElem?_cons_zero, List.getElem?_cons_succ] at y1
      clear hb5 hsv hsv2 hdv hls hlb hmx hx HSL
      go_wp2_with fail
      refine (HDV.out _).mono ?_
      rintro e w6 ⟨rfl, rfl⟩
      obtain ⟨W, hW⟩ : ∃ W, wr.alloc (.cells #[.int .i64 s1, .int .i64 p1, .int .i64 a1] 43) = W := ⟨_, rfl⟩
      obtain ⟨X, hX⟩ : ∃ X, wr.heap.size = X := ⟨_, rfl⟩
      rw [hW] at HX5 HS5
      rw [hX] at HX5 HNX
      rw [hW, hX]
      have x0 := cell_of_row _ _ 0 _ _ _ HX5.out
      have x1 := cell_of_row _ _ 1 _ _ _ HX5.out
      have x2 := cell_of_row _ _ 2 _ _ _ HX5.out
      simp only [List.getElem?_toArray, List.getElem?_cons_zero, List.getElem?_cons_succ] at x0 x1 x2
      clear c1 c2 c3 y1 hW hX
      cases dv with
      | false =>
        have HE : Hid (slUp ws n l (k + 1) = slUp ws n l k) := HSK.out (by rw [HSV.out]; rfl)
        go_wp2
        go_roundw
        case rel => exact ⟨k + 1, by have := HA.out; omega, by go_num, by rw [HE.out]; exact HS5.out⟩
        case measure => simp [intOf]; omega
      | true =>
        have HLS2 := Lib.hid (HLS.out rfl)
        have HSE : Hid ((slUp ws n l k).set k ((ls : Int) - a1) = slUp ws n l (k + 1)) := by
          have h := HST.out
          rw [HSV.out, if_pos rfl] at h
          exact h
        have HPD := Lib.hid (HS5.out.drewN 1)
        have hXN : ¬ X = NB := by have := HNX.out; omega
        have hNX : ¬ NB = X := by have := HNX.out; omega
        go_wp2_with fail
        go_region_held3 (fun wx => wx.cell? ⟨X, 0, none⟩ = some (.int .i64 s1) ∧ wx.cell? ⟨X, 1, none⟩ = some (.int .i64 p1) ∧ wx.cell? ⟨X, 2, none⟩ = some (.int .i64 a1))
          (first | exact HKP.out | (refine ⟨?_, ?_, ?_⟩ <;> assumption) | (go_keep; done))
          (first
            | (go_at_call 21; refine (HLS2.out _ _ HPD.out).mono ?_; rintro e w9 ⟨rfl, hb9⟩; have HS9 := Lib.hid (HPD.out.keep hb9); have hxx := (hb9.block X (lt_of_block HX5.out)).trans HX5.out; have HKP : Hid (w9.cell? ⟨X, 0, none⟩ = some (.int .i64 s1) ∧ w9.cell? ⟨X, 1, none⟩ = some (.int .i64 p1) ∧ w9.cell? ⟨X, 2, none⟩ = some (.int .i64 a1)) := ⟨cell_of_row _ _ 0 _ _ _ hxx, cell_of_row _ _ 1 _ _ _ hxx, cell_of_row _ _ 2 _ _ _ hxx⟩; have hfz := HS9.out.out.frozenAt k; have hcl : w9.cell? ⟨NB, k, none⟩ = some (.int .i64 0) := (by rw [HS9.out.out.cellAt k (by omega), List.getElem?_map, HGT.out]; rfl); clear hb9 hxx))
        all_goals
          have hfin := HS9.out.set k ((ls : Int) - a1)
          rw [HSE.out] at hfin
          have HFIN := Lib.hid hfin
          clear hfin hcl hfz x0 x1 x2
          go_wp2
          go_roundw
          case rel => exact ⟨k + 1, by have := HA.out; omega, by go_num, HFIN.out⟩
          case measure => simp [intOf]; omega
    · obtain rfl : k = a := by omega
      have HSO := Lib.hid HSL.out.out
      have HBE := Lib.hid HSL.out.below
      clear HSL
      go_wp2
      go_ret
      exact ⟨NB, rfl, by rw [← HALL.out]; exact HSO.out, HBE.out⟩
end Go.Proofs.Yteefmdelacihfaa.Nee
