
/- The function CrewWithout returns true for every two slices of shots and every number. Condition: none. This text: the walk through the Go text; the row is in the text without the W at its name's end. -/

import Derived.Test.YtlbpmbdogkfecaaArgs

import Derived.Test.YtlbpmbdogkfecaaCrL

import Derived.Test.YtlbpmbdogkfecaaCrE

import Derived.Laws.AppendOwnNone

import Derived.Deep.RegionHeld3

namespace Go.Proofs.Ytlbpmbdogkfecaa.crewWithout

open Go.RowKit Go.PlainAid Go.Proofs.Ytlbpmbdogkfecaa.Args

set_option linter.unusedVariables false

open Go.Proofs.Ytlbpmbdogkfecaa.Crw Go.Proofs.Ytlbpmbdogkfecaa.Pt Go.Proofs.Ytlbpmbdogkfecaa.Cel

set_option linter.unusedSimpArgs false

theorem wpList_append_x {w : World} {ops : Array Oper} {rest : List Oper} {o : Oper} {a : Act} {Q : Exit → Act → World → Prop} (hgd : o.guard = none) (s x : Operand)
    (ho : o.op = .call { callee := .builtin .append, args := #[s, x], argTypes := #[73, 73] })
    (base : Nat) (v : Value) (n : Nat) (xs : List Value) (hs : a.eval s = v) (hown : w.ownsRow base 79 5 v n xs) (A : Option Addr) (m c : Nat) (l : List SX) (hx : a.eval x = .slice A m c) (hat : XAt w A l) (hl : l.length = m) (hnil : A = none → c = 0 ∧ m = 0) (hm : n + m ≤ 1000) (hbase : base ≤ w.heap.size)
    (h : ∀ v' w', w'.ownsRow base 79 5 v' (n + m) (xs ++ flX l) → w.grownBy w' v.ownBlock → wpList Try.prog ops Q rest (a.put o.dst v') w') : wpList Try.prog ops Q (o :: rest) a w := by
  obtain ⟨i0, hi0, hz0, hz1, hz2⟩ := info_parts infoShot
  cases A with
  | none =>
    obtain ⟨rfl, rfl⟩ := hnil rfl
    obtain rfl := List.length_eq_zero_iff.1 hl
    exact wpList_append_own_none hgd s x 73 ho base 79 i0 5 Try.underlying73 hi0 v n xs hs hown hx (h v w (by simpa [flX] using hown) (World.grownBy.refl _ _))
  | some y =>
    exact wpList_append_own _ hgd s x 73 ho base 79 i0 _ 5 56 Try.underlying73 hi0 hz0 hz1 hz2 rfl (by decide) v n xs hs hown y m c (flX l) hx (by rw [flX_len, hl]) hat.flat (flX_one l) (by unfold maxLen; omega) (by omega) hbase (fun v' w' h1 h2 _ => h v' w' h1 h2)
def W1Rel (l : List SX) (n : Nat) (w0 : World) (i : Value) (W : World) : Prop :=
  ∃ k : Nat, k ≤ n ∧ i = .int .i64 (k : Int) ∧ (∀ s ∈ l.take k, s.x.l.length ≤ 20) ∧ Below w0.heap.size w0 W
def W2Rel (l : List SX) (id : Int) (n : Nat) (w0 : World) (c i : Value) (W : World) : Prop :=
  ∃ k : Nat, k ≤ n ∧ c = .int .i64 ((filt id ((l.take k).map SX.x)).length : Int) ∧ i = .int .i64 (k : Int) ∧ Below w0.heap.size w0 W
theorem sameL_take : ∀ (xs ys : List Sh) (k : Nat), sameL xs ys = true → sameL (xs.take k) (ys.take k) = true
  | _, _, 0, _ => by simp [sameL]
  | [], [], k + 1, _ => rfl
  | x :: xs, y :: ys, k + 1, h => by
    simp only [sameL, Bool.and_eq_true] at h
    simp only [List.take_succ_cons, sameL, Bool.and_eq_true]
    exact ⟨h.1, sameL_take xs ys k h.2⟩
  | [], _ :: _, _ + 1, h => by simp [sameL] at h
  | _ :: _, [], _ + 1, h => by simp [sameL] at h
theorem sameL_snoc : ∀ (xs ys : List Sh) (x y : Sh), xs.length = ys.length → sameL (xs ++ [x]) (ys ++ [y]) = (sameL xs ys && sameSh x y)
  | [], [], x, y, _ => by simp [sameL]
  | a :: xs, b :: ys, x, y, h => by
    simp only [List.cons_append, sameL]
    rw [sameL_snoc xs ys x y (by simpa using h), Bool.and_assoc]
  | [], _ :: _, _, _, h => by simp at h
  | _ :: _, [], _, _, h => by simp at h
def W3Rel (xs ys : List Sh) (eb : Bool) (n : Nat) (w0 : World) (b i : Value) (W : World) : Prop :=
  ∃ (k : Nat) (bb : Bool), k ≤ n ∧ b = .bool bb ∧ i = .int .i64 (k : Int) ∧ bb = (eb && sameL (xs.take k) (ys.take k)) ∧ Below w0.heap.size w0 W
set_option maxRecDepth 16000 in
set_option maxHeartbeats 12800000 in
theorem walk (a0 : Option Addr) (len0 cap0 : Nat) (a1 : Int) (a2 : Option Addr) (len2 cap2 : Nat) (w : World) (w0 : IsNRows w a0 len0 cap0 [.one (.int .i64), .one (.int .i64), .one (.int .i64), .one (.int .i64), .nums .u32]) (w1 : (Lit.int .i64 a1).wf = true) (w2 : IsNRows w a2 len2 cap2 [.one (.int .i64), .one (.int .i64), .one (.int .i64), .one (.int .i64), .nums .u32]) :
    Calls Try.prog 4 #[.slice a0 len0 cap0, .int .i64 a1, .slice a2 len2 cap2] w fun e w' => e = .returned (.bool true) ∧ Below w.heap.size w w' := by
  obtain ⟨l, hll, hxl, hokl, hnl, hcl, hml⟩ := shots_in w0
  obtain ⟨m, hlm, hxm, hokm, hnm, hcm, hmm⟩ := shots_in w2
  have HLL := Lib.hid hll
  have HLM := Lib.hid hlm
  have HXL := Lib.hid hxl
  have HXM := Lib.hid hxm
  have HOKL := Lib.hid hokl
  have HOKM := Lib.hid hokm
  have HNL := Lib.hid hnl
  have HNM := Lib.hid hnm
  clear w0 w2 hll hlm hxl hxm hokl hokm hnl hnm hml hmm hcl hcm
  by_cases hbad : 40 < len0 ∨ 40 < len2
  · have hcase : decide (40 < (len0 : Int)) = true ∨ (decide (40 < (len0 : Int)) = false ∧ decide (40 < (len2 : Int)) = true) := by
      rcases Nat.lt_or_ge 40 len0 with h2 | h2
      · exact .inl (decide_eq_true (by omega))
      · exact .inr ⟨decide_eq_false (by omega), decide_eq_true (by omega)⟩
    clear hbad
    rcases hcase with t0 | ⟨t0, t1⟩
    all_goals
      go_enter Try.func4, Try.ntmps4
      go_wp2_with (go_at_call 7; refine (awake_any _).mono ?_; rintro e w2 ⟨rfl, hb2⟩; have HB2 := Lib.hid hb2; clear hb2)
      go_ret
      exact ⟨rfl, HB2.out⟩
  · have t0 : decide (40 < (len0 : Int)) = false := decide_eq_false (by omega)
    have t1 : decide (40 < (len2 : Int)) = false := decide_eq_false (by omega)
    have HL0 : Hid (len0 ≤ 40) := by show _ ≤ _; omega
    have HL2 : Hid (len2 ≤ 40) := by show _ ≤ _; omega
    clear hbad
    have hb1 : Below w.heap.size w (w.alloc (.cells #[] 79)) := (Below.refl _ _).alloc (Nat.le_refl _) _
    have HB1 := Lib.hid hb1
    have HOW : Hid ((w.alloc (.cells #[] 79)).ownsRow w.heap.size 79 5 (.slice (some ⟨w.heap.size, 0, none⟩) 0 0) 0 []) := World.ownsRow_lit w #[] 0 (Nat.le_refl _) (by unfold maxLen; omega) rfl
    clear hb1
    go_enter Try.func4, Try.ntmps4
    go_wp2_with (at_builtin; refine wpList_append_x rfl _ _ rfl w.heap.size _ 0 [] rfl HOW.out a0 len0 cap0 l rfl (HXL.out.kept HB1.out) HLL.out HNL.out (by have := HL0.out; omega) HB1.out.size ?_)
    intro v1 w1 ho1 hg1
    have HB2 := Lib.hid (HB1.out.grown hg1 HB1.out.size (fun j hj => (HOW.out.lt j hj).1))
    have HO1 := Lib.hid ho1
    clear ho1 hg1 HB1 HOW
    go_wp2_with (at_builtin; refine wpList_append_x rfl _ _ rfl w.heap.size v1 len0 (flX l) rfl HO1.out a2 len2 cap2 m rfl (HXM.out.kept HB2.out) HLM.out HNM.out (by have := HL0.out; have := HL2.out; omega) HB2.out.size ?_)
    intro v2 w2 ho2 hg2
    have HB3 := Lib.hid (HB2.out.grown hg2 HB2.out.size (fun j hj => (HO1.out.lt j hj).1))
    have hnn : len0 + len2 = (l ++ m).length := by rw [List.length_append, HLL.out, HLM.out]
    have hxx : flX l ++ flX m = flX (l ++ m) := (flX_app l m).symm
    rw [hnn, hxx] at ho2
    obtain ⟨NN, hNN⟩ : ∃ n, (l ++ m).length = n := ⟨_, rfl⟩
    rw [hNN] at ho2
    obtain ⟨A3, c3, rfl⟩ := own_slice ho2
    have hxa := xat_own ho2 hNN (fun s hs => by
      rcases List.mem_append.1 hs with hs | hs
      · obtain ⟨i, hi, rfl⟩ := List.mem_iff_getElem.1 hs
        obtain ⟨_, _, _, _, _, _, _, hq⟩ := (HXL.out.kept HB3.out) i _ (List.getElem?_eq_getElem hi)
        exact hq
      · obtain ⟨i, hi, rfl⟩ := List.mem_iff_getElem.1 hs
        obtain ⟨_, _, _, _, _, _, _, hq⟩ := (HXM.out.kept HB3.out) i _ (List.getElem?_eq_getElem hi)
        exact hq)
    have HXA := Lib.hid hxa
    have HNN := Lib.hid hNN
    have HN80 : Hid (NN ≤ 80) := by show _ ≤ _; have := HL0.out; have := HL2.out; omega
    clear ho2 hg2 hnn hxx hNN hxa HO1 HB2
    have HS1 : Hid (W1Rel (l ++ m) NN w2 (.int .i64 0) w2) := ⟨0, Nat.zero_le _, rfl, fun s hs => by simp at hs, Below.refl _ _⟩
    go_wp2_with fail
    go_loopw [30] (fun i W => W1Rel (l ++ m) NN w2 i W) (fun i _ => NN - (intOf i).toNat)
    case atStart => exact HS1.out
    case round =>
      rename World => W
      obtain ⟨k, hk, rfl, hall, hb⟩ := hrel
      have HALL := Lib.hid hall
      have HB := Lib.hid hb
      clear hall hb HS1
      by_cases hlt : k < NN
      · obtain ⟨s, hs⟩ : ∃ s, (l ++ m)[k]? = some s := ⟨_, List.getElem?_eq_getElem (by rw [HNN.out]; exact hlt)⟩
        obtain ⟨y, rfl, c0, c1, c2, c3, c4, -⟩ := (HXA.out.kept HB.out) k s hs
        have HS := Lib.hid hs
        have HLT := Lib.hid hlt
        have hkb : (k : Int) < NN := by omega
        have hki : (0 : Int) ≤ k := by omega
        have hk1 : IntKind.i64.wrap ((k : Int) + 1) = (k : Int) + 1 := IntWalk.i64_in _ (by have := HN80.out; omega)
        have HB2 : Hid (∀ o, Below w2.heap.size w2 (W.alloc o)) := fun o => HB.out.trans (((Below.refl _ _).alloc (Nat.le_refl _) o).mono HB.out.size)
        by_cases h20 : s.x.l.length ≤ 20
        · have t5 : decide ((20 : Int) < (s.x.l.length : Int)) = false := decide_eq_false (by omega)
          have t6 : decide (20 < s.x.l.length) = false := decide_eq_false (by omega)
          have HE : Hid (∀ z ∈ (l ++ m).take (k + 1), z.x.l.length ≤ 20) := fun z hz => by
            rw [List.take_add_one, HS.out] at hz
            rcases List.mem_append.1 hz with hz | hz
            · exact HALL.out z hz
            · have : z = s := by simpa using hz
              rw [this]; exact h20
          clear hs hlt hk h20
          go_wp2
          go_roundw
          case rel => exact ⟨k + 1, HLT.out, by go_num, HE.out, HB2.out _⟩
          case measure => have := HLT.out; simp [intOf]; omega
        · have t5 : decide ((20 : Int) < (s.x.l.length : Int)) = true := decide_eq_true (by omega)
          have t6 : decide (20 < s.x.l.length) = true := decide_eq_true (by omega)
          clear hs hlt hk h20
          go_wp2_with (go_at_call 7; refine (awake_any _).mono ?_; rintro e w4 ⟨rfl, hb4⟩; have HB4 := Lib.hid (HB3.out.trans (((HB2.out _).trans (hb4.mono (HB2.out _).size)).mono HB3.out.size)); clear hb4)
          go_ret
          exact ⟨rfl, HB4.out⟩
      · obtain rfl : NN = k := by omega
        have hfull : (l ++ m).take NN = l ++ m := List.take_of_length_le (by rw [HNN.out]; exact Nat.le_refl _)
        rw [hfull] at HALL
        have HBW := Lib.hid (HB3.out.trans (HB.out.mono HB3.out.size))
        have HAL : Hid (∀ s ∈ l, s.ok ∧ s.x.l.length ≤ 20) := fun s hs => ⟨HOKL.out s hs, HALL.out s (List.mem_append_left _ hs)⟩
        have HAM : Hid (∀ s ∈ m, s.ok ∧ s.x.l.length ≤ 20) := fun s hs => ⟨HOKM.out s hs, HALL.out s (List.mem_append_right _ hs)⟩
        have HWI := Lib.hid (without_any a0 cap0 len0 l a1 W (HXL.out.kept HBW.out) (fun s hs => ⟨(HAL.out s hs).1, by have := (HAL.out s hs).2; omega⟩) HLL.out (by have := HL0.out; omega))
        clear hfull hlt hk HALL HB HB3 HXA HNN HN80
        go_wp2_with fail
        refine HWI.out.mono ?_
        rintro e w4 ⟨V4, out, rfl, hout, hmap, hb4⟩
        obtain ⟨A4, c4, rfl⟩ := own_slice hout.1
        obtain ⟨on, hon⟩ : ∃ n, out.length = n := ⟨_, rfl⟩
        have hxo : XAt w4 A4 out := by
          have h1 := hout.1
          rw [hon] at h1
          exact xat_own h1 hon (fun s hs => (hout.2 s hs).1)
        have HXO := Lib.hid hxo
        have HMP := Lib.hid hmap
        have HB4 := Lib.hid (HBW.out.trans (hb4.mono HBW.out.size))
        have HON := Lib.hid hon
        have hle40 : on ≤ 40 := by
          have h1 := congrArg List.length hmap
          have h2 : (filt a1 (l.map SX.x)).length ≤ (l.map SX.x).length := List.length_filter_le _ _
          rw [List.length_map] at h1
          rw [List.length_map] at h2
          have := HLL.out; have := HL0.out; omega
        have HO40 := Lib.hid hle40
        rw [hon]
        clear hout hmap hb4 hxo hon hle40 HWI HBW
        have HS2 : Hid (W2Rel l a1 len0 w4 (.int .i64 0) (.int .i64 0) w4) := ⟨0, Nat.zero_le _, rfl, rfl, Below.refl _ _⟩
        go_wp2_with fail
        go_loopw [10, 45] (fun c i W' => W2Rel l a1 len0 w4 c i W') (fun _ i _ => len0 - (intOf i).toNat)
        case atStart => exact HS2.out
        case round =>
          rename World => W5
          obtain ⟨k, hk, rfl, rfl, hb5⟩ := hrel
          have HB5 := Lib.hid hb5
          clear hb5 HS2
          by_cases hlt : k < len0
          · obtain ⟨s, hs⟩ : ∃ s, l[k]? = some s := ⟨_, List.getElem?_eq_getElem (by rw [HLL.out]; exact hlt)⟩
            have hbb := HB4.out.trans (HB5.out.mono HB4.out.size)
            obtain ⟨y, rfl, c0, c1, c2, c3, c4', hnum⟩ := (HXL.out.kept hbb) k s hs
            have htk : (l.take (k + 1)).map SX.x = (l.take k).map SX.x ++ [s.x] := by rw [List.take_add_one, hs]; simp
            have HTK := Lib.hid htk
            have HS := Lib.hid hs
            have HLT := Lib.hid hlt
            have hkb : (k : Int) < len0 := by omega
            have hki : (0 : Int) ≤ k := by omega
            have HK1 : Hid (IntKind.i64.wrap ((k : Int) + 1) = (k : Int) + 1) := IntWalk.i64_in _ (by have := HL0.out; omega)
            have hk1 := HK1.out
            have hb6 : Below W5.heap.size W5 (W5.alloc (.cells #[.int .i64 s.x.i, .int .i64 s.x.m, .int .i64 s.x.s, .int .i64 s.x.c, .slice s.V s.x.l.length s.c] 79)) := (Below.refl _ _).alloc (Nat.le_refl _) _
            have hx6 := heap_alloc_new W5 (.cells #[.int .i64 s.x.i, .int .i64 s.x.m, .int .i64 s.x.s, .int .i64 s.x.c, .slice s.V s.x.l.length s.c] 79)
            clear hs htk hlt hk hbb
            go_upto_region 14 with fail
            obtain ⟨W6, hW6⟩ : ∃ W', W5.alloc (.cells #[.int .i64 s.x.i, .int .i64 s.x.m, .int .i64 s.x.s, .int .i64 s.x.c, .slice s.V s.x.l.length s.c] 79) = W' := ⟨_, rfl⟩
            obtain ⟨Q, hQ⟩ : ∃ Q, W5.heap.size = Q := ⟨_, rfl⟩
            rw [hW6] at hx6 hb6
            rw [hQ] at hx6
            rw [hW6, hQ]
            have x0 := cell_of_row W6 _ 0 _ _ _ hx6
            have x1 := cell_of_row W6 _ 1 _ _ _ hx6
            have x2 := cell_of_row W6 _ 2 _ _ _ hx6
            have x3 := cell_of_row W6 _ 3 _ _ _ hx6
            have x4 := cell_of_row W6 _ 4 _ _ _ hx6
            simp only [List.getElem?_toArray, List.getElem?_cons_zero, List.getElem?_cons_succ] at x0 x1 x2 x3 x4
            have HNU := Lib.hid (hnum.kept hb6)
            have HB6 := Lib.hid (HB5.out.trans (hb6.mono HB5.out.size))
            clear hW6 hQ hx6 hb6 hnum c0 c1 c2 c3 c4'
            obtain ⟨cc, hcc⟩ : ∃ c, (filt a1 ((l.take k).map SX.x)).length = c := ⟨_, rfl⟩
            by_cases hi : s.x.i = a1
            · have t7 : (s.x.i == a1) = true := by simp [hi]
              have HE : Hid (filt a1 ((l.take (k + 1)).map SX.x) = filt a1 ((l.take k).map SX.x)) := by
                show _ = _
                rw [HTK.out]
                unfold filt
                rw [List.filter_append]
                simp [hi]
              clear hi hcc
              go_wp2
              go_roundw
              case rel => exact ⟨k + 1, HLT.out, by rw [HE.out], by go_num, HB6.out⟩
              case measure => have := HLT.out; simp [intOf]; omega
            · have t7 : (s.x.i == a1) = false := by simp; exact hi
              have HE : Hid (filt a1 ((l.take (k + 1)).map SX.x) = filt a1 ((l.take k).map SX.x) ++ [s.x]) := by
                show _ = _
                rw [HTK.out]
                unfold filt
                rw [List.filter_append]
                simp [hi]
              have hoc : (out.map SX.x)[cc]? = some s.x := by
                have hkl : k < l.length := (List.getElem?_eq_some_iff.1 HS.out).1
                have e1 : l = l.take k ++ s :: l.drop (k + 1) := by
                  have h1 := (List.take_append_drop k l).symm
                  rw [List.drop_eq_getElem_cons hkl, (List.getElem?_eq_some_iff.1 HS.out).2] at h1
                  exact h1
                have e2 : filt a1 (l.map SX.x) = filt a1 ((l.take k).map SX.x) ++ s.x :: filt a1 ((l.drop (k + 1)).map SX.x) := by
                  have e3 : l.map SX.x = (l.take k).map SX.x ++ s.x :: (l.drop (k + 1)).map SX.x := by
                    have := congrArg (List.map SX.x) e1
                    rw [List.map_append, List.map_cons] at this
                    exact this
                  rw [e3]
                  unfold filt
                  rw [List.filter_append, List.filter_cons, if_pos (by simp [hi])]
                rw [HMP.out, e2, List.getElem?_append_right (by omega), hcc, Nat.sub_self]
                rfl
              rw [List.getElem?_map] at hoc
              obtain ⟨o, ho, hox⟩ := Option.map_eq_some_iff.1 hoc
              obtain ⟨yo, rfl, d0, d1, d2, d3, d4, hno⟩ := (HXO.out.kept HB6.out) cc o ho
              have hcl := (List.getElem?_eq_some_iff.1 ho).1
              rw [HON.out] at hcl
              rw [hox] at d0 d1 d2 d3 d4 hno
              have hlen20 := (HAL.out s (List.mem_of_getElem? HS.out)).2
              have HSA : Hid (∀ n, Calls Try.prog 28 #[.slice o.V s.x.l.length o.c, .slice s.V s.x.l.length s.c] (W6.drewN n) fun e w' => e = .returned (.bool true) ∧ ∃ m, w' = (W6.drewN n).drewN m) := fun n => by
                have h := rsameG_any o.V s.V o.c s.c s.x.l.length s.x.l.length s.x.l s.x.l (W6.drewN n) (hno.drewN n) (HNU.out.drewN n) rfl rfl (by omega)
                simpa using h
              have HCC := Lib.hid hcc
              have HCL := Lib.hid hcl
              have t8 : decide ((on : Int) ≤ (cc : Int)) = false := decide_eq_false (by omega)
              have t8' : decide (on ≤ cc) = false := decide_eq_false (by omega)
              have hc0 : (0 : Int) ≤ cc := by omega
              have hcn : (cc : Int) < on := by omega
              have hcw : IntKind.i64.wrap ((cc : Int) + 1) = (cc : Int) + 1 := IntWalk.i64_in _ (by have := HO40.out; omega)
              have q0 : (s.x.i != s.x.i) = false := by simp
              have q1 : (s.x.m != s.x.m) = false := by simp
              have q2 : (s.x.s != s.x.s) = false := by simp
              have q3 : (s.x.c != s.x.c) = false := by simp
              rw [hcc]
              clear hoc ho hox hno hcl hlen20 hcc hi HTK
              go_wp2_with fail
              go_quiet (first | (go_at_call 28; exact Calls.quiet_of (HSA.out _)) | fail)
              go_wp2
              go_roundw
              case rel => exact ⟨k + 1, HLT.out, by rw [HE.out, List.length_append, HCC.out]; rfl, by go_num, HB6.out.trans ⟨rfl, rfl, rfl, Nat.le_refl _, fun _ _ => rfl⟩⟩
              case measure => have := HLT.out; simp [intOf]; omega
          · obtain rfl : len0 = k := by omega
            have hfull : l.take len0 = l := List.take_of_length_le (by rw [HLL.out]; exact Nat.le_refl _)
            have hfl : (filt a1 (l.map SX.x)).length = on := by
              have h1 := congrArg List.length HMP.out
              rw [List.length_map, HON.out] at h1
              exact h1.symm
            rw [hfull, hfl]
            have HB6 := Lib.hid (HB4.out.trans (HB5.out.mono HB4.out.size))
            obtain ⟨xs, hxs⟩ : ∃ xs, l.map SX.x = xs := ⟨_, rfl⟩
            obtain ⟨ys, hys⟩ : ∃ ys, m.map SX.x = ys := ⟨_, rfl⟩
            have hxl : xs.length = len0 := by rw [← hxs, List.length_map]; exact HLL.out
            have hyl : ys.length = len2 := by rw [← hys, List.length_map]; exact HLM.out
            have hx20 : ∀ x ∈ xs, x.l.length ≤ 1000 := fun x hx => by
              rw [← hxs] at hx
              obtain ⟨s, hs, rfl⟩ := List.mem_map.1 hx
              have := (HAL.out s hs).2
              omega
            have HSLM := Lib.hid (fun (W' : World) (b : Below w.heap.size w W') => same_any a0 a2 cap0 cap2 len0 len2 xs ys W' (by rw [← hxs]; exact (HXL.out.kept b).ss) (by rw [← hys]; exact (HXM.out.kept b).ss) hxl hyl (by have := HL0.out; omega) hx20)
            have HSLL := Lib.hid (fun (W' : World) (b : Below w.heap.size w W') => same_any a0 a0 cap0 cap0 len0 len0 xs xs W' (by rw [← hxs]; exact (HXL.out.kept b).ss) (by rw [← hxs]; exact (HXL.out.kept b).ss) hxl hxl (by have := HL0.out; omega) hx20)
            rw [show sameL xs xs = true from sameL_refl xs] at HSLL
            obtain ⟨eb, heb⟩ : ∃ b : Bool, (len0 == len2) = b := ⟨_, rfl⟩
            have r0 : ((len0 : Int) == (len2 : Int)) = eb := by
              rw [← heb]
              by_cases h : len0 = len2
              · simp [h]
              · have h1 : (len0 == len2) = false := by simp [h]
                have h2 : ((len0 : Int) == (len2 : Int)) = false := by simp; omega
                rw [h1, h2]
            have HEB := Lib.hid heb
            have HXS := Lib.hid hxs
            have HYS := Lib.hid hys
            have HXN := Lib.hid hxl
            have HYN := Lib.hid hyl
            have HS3 : Hid (W3Rel xs ys eb len0 w4 (.bool eb) (.int .i64 0) W5) := ⟨0, eb, Nat.zero_le _, rfl, rfl, by simp [sameL], HB5.out⟩
            clear hfull hfl hxs hys hxl hyl hx20 hlt hk HB6
            go_wp2_with fail
            go_loopw [13, 14] (fun b i W' => W3Rel xs ys eb len0 w4 b i W') (fun _ i _ => len0 - (intOf i).toNat)
            case atStart => exact HS3.out
            case round =>
              rename World => W7
              obtain ⟨k, bb, hk, rfl, rfl, hbb, hb7⟩ := hrel
              have HBB := Lib.hid hbb
              have HB7 := Lib.hid hb7
              clear hb7 HS3 HB5
              by_cases hgo : bb = true ∧ k < len0
              · obtain ⟨hb1, hlt⟩ := hgo
                subst hb1
                have heb1 : eb = true := by
                  cases eb with
                  | true => rfl
                  | false => simp at hbb
                have hlen : len0 = len2 := by
                  have h1 := HEB.out
                  rw [heb1] at h1
                  simpa using h1
                obtain ⟨s, hs⟩ : ∃ s, l[k]? = some s := ⟨_, List.getElem?_eq_getElem (by rw [HLL.out]; exact hlt)⟩
                obtain ⟨t, ht⟩ : ∃ t, m[k]? = some t := ⟨_, List.getElem?_eq_getElem (by rw [HLM.out]; omega)⟩
                have hbb7 := HB4.out.trans (HB7.out.mono HB4.out.size)
                obtain ⟨y, rfl, c0, c1, c2, c3, c4', hnu⟩ := (HXL.out.kept hbb7) k s hs
                obtain ⟨z, rfl, d0, d1, d2, d3, d4, hnv⟩ := (HXM.out.kept hbb7) k t ht
                have HNX : Hid (sameSh s.x t.x = (eb && sameL (xs.take (k + 1)) (ys.take (k + 1)))) := by
                  show _ = _
                  have e1 : xs.take (k + 1) = xs.take k ++ [s.x] := by rw [List.take_add_one, ← HXS.out, List.getElem?_map, hs]; rfl
                  have e2 : ys.take (k + 1) = ys.take k ++ [t.x] := by rw [List.take_add_one, ← HYS.out, List.getElem?_map, ht]; rfl
                  rw [e1, e2, sameL_snoc _ _ _ _ (by rw [List.length_take, List.length_take, HXN.out, HYN.out]; omega), ← Bool.and_assoc, ← hbb, Bool.true_and]
                have hl20 := (HAL.out s (List.mem_of_getElem? hs)).2
                have HSA : Hid (∀ n, Calls Try.prog 28 #[.slice s.V s.x.l.length s.c, .slice t.V t.x.l.length t.c] (W7.drewN n) fun e w' => e = .returned (.bool (decide (s.x.l = t.x.l))) ∧ ∃ m, w' = (W7.drewN n).drewN m) := fun n =>
                  rsameG_any s.V t.V s.c t.c s.x.l.length t.x.l.length s.x.l t.x.l (W7.drewN n) (hnu.drewN n) (hnv.drewN n) rfl rfl (by omega)
                have HLT := Lib.hid hlt
                have hkb : (k : Int) < len0 := by omega
                have hkc : (k : Int) < len2 := by omega
                have hki : (0 : Int) ≤ k := by omega
                have hk1 : IntKind.i64.wrap ((k : Int) + 1) = (k : Int) + 1 := IntWalk.i64_in _ (by have := HL0.out; omega)
                have HDR : Hid (∀ n, Below w4.heap.size w4 (W7.drewN n)) := fun n => HB7.out.trans ⟨rfl, rfl, rfl, Nat.le_refl _, fun _ _ => rfl⟩
                clear hs ht hbb7 hnu hnv hl20 hlt hk hbb heb1 hlen HBB
                by_cases h0 : s.x.i = t.x.i
                · have q0 : (s.x.i == t.x.i) = true := by simp [h0]
                  by_cases h1 : s.x.m = t.x.m
                  · have q1 : (s.x.m == t.x.m) = true := by simp [h1]
                    by_cases h2 : s.x.s = t.x.s
                    · have q2 : (s.x.s == t.x.s) = true := by simp [h2]
                      by_cases h3 : s.x.c = t.x.c
                      · have q3 : (s.x.c == t.x.c) = true := by simp [h3]
                        have HSV : Hid (sameSh s.x t.x = decide (s.x.l = t.x.l)) := by show _ = _; unfold sameSh; simp [h0, h1, h2, h3]
                        obtain ⟨v, hv⟩ : ∃ v, decide (s.x.l = t.x.l) = v := ⟨_, rfl⟩
                        rw [hv] at HSA HSV
                        clear h0 h1 h2 h3 hv
                        go_wp2_with fail
                        go_quiet (first | (go_at_call 28; exact Calls.quiet_of (HSA.out _)) | fail)
                        go_wp2
                        go_roundw
                        case rel => exact ⟨k + 1, v, HLT.out, rfl, by go_num, by rw [← HSV.out]; exact HNX.out, HDR.out _⟩
                        case measure => have := HLT.out; simp [intOf]; omega
                      · have q3 : (s.x.c == t.x.c) = false := by simp [h3]
                        have HSV : Hid (sameSh s.x t.x = false) := by show _ = _; unfold sameSh; simp [h3]
                        clear h0 h1 h2 h3
                        go_wp2_with fail
                        go_quiet (fail)
                        go_wp2
                        go_roundw
                        case rel => exact ⟨k + 1, false, HLT.out, rfl, by go_num, by rw [← HSV.out]; exact HNX.out, HDR.out _⟩
                        case measure => have := HLT.out; simp [intOf]; omega
                    · have q2 : (s.x.s == t.x.s) = false := by simp [h2]
                      have HSV : Hid (sameSh s.x t.x = false) := by show _ = _; unfold sameSh; simp [h2]
                      clear h0 h1 h2
                      go_wp2_with fail
                      go_quiet (fail)
                      go_wp2
                      go_roundw
                      case rel => exact ⟨k + 1, false, HLT.out, rfl, by go_num, by rw [← HSV.out]; exact HNX.out, HDR.out _⟩
                      case measure => have := HLT.out; simp [intOf]; omega
                  · have q1 : (s.x.m == t.x.m) = false := by simp [h1]
                    have HSV : Hid (sameSh s.x t.x = false) := by show _ = _; unfold sameSh; simp [h1]
                    clear h0 h1
                    go_wp2_with fail
                    go_quiet (fail)
                    go_wp2
                    go_roundw
                    case rel => exact ⟨k + 1, false, HLT.out, rfl, by go_num, by rw [← HSV.out]; exact HNX.out, HDR.out _⟩
                    case measure => have := HLT.out; simp [intOf]; omega
                · have q0 : (s.x.i == t.x.i) = false := by simp [h0]
                  have HSV : Hid (sameSh s.x t.x = false) := by show _ = _; unfold sameSh; simp [h0]
                  clear h0
                  go_wp2_with fail
                  go_quiet (fail)
                  go_wp2
                  go_roundw
                  case rel => exact ⟨k + 1, false, HLT.out, rfl, by go_num, by rw [← HSV.out]; exact HNX.out, HDR.out _⟩
                  case measure => have := HLT.out; simp [intOf]; omega
              · have hb2 : bb = sameL xs ys := by
                  cases hsv : sameL xs ys with
                  | true =>
                    have h1 := sameL_len xs ys hsv
                    rw [HXN.out, HYN.out] at h1
                    have h2 : eb = true := by rw [← HEB.out]; simp [h1]
                    rw [hbb, h2, sameL_take xs ys k hsv]; rfl
                  | false =>
                    cases bb with
                    | false => rfl
                    | true =>
                      have hkn : k = len0 := by
                        rcases Nat.lt_or_ge k len0 with h | h
                        · exact absurd ⟨rfl, h⟩ hgo
                        · omega
                      rw [hkn] at hbb
                      have h2 : eb = true := by cases eb with | true => rfl | false => simp at hbb
                      have h3 : len0 = len2 := by
                        have h1 := HEB.out
                        rw [h2] at h1
                        simpa using h1
                      rw [List.take_of_length_le (by rw [HXN.out]; exact Nat.le_refl _), List.take_of_length_le (by rw [HYN.out]; omega), hsv, h2] at hbb
                      simp at hbb
                rw [← hb2] at HSLM
                have HB8 := Lib.hid (HB4.out.trans (HB7.out.mono HB4.out.size))
                cases bb with
                | true =>
                  have hkn : k = len0 := by
                    rcases Nat.lt_or_ge k len0 with h | h
                    · exact absurd ⟨rfl, h⟩ hgo
                    · omega
                  subst hkn
                  clear hb2 hgo hbb hk HBB HB7
                  go_wp2_with (first
                    | (go_at_call 26; refine (HSLM.out _ HB8.out).mono ?_; rintro e w9 ⟨rfl, hb9⟩; have HB9 := Lib.hid (HB8.out.trans (hb9.mono HB8.out.size)); clear hb9)
                    | (go_at_call 26; refine (HSLL.out _ HB9.out).mono ?_; rintro e w10 ⟨rfl, hb10⟩; have HB10 := Lib.hid (HB9.out.trans (hb10.mono HB9.out.size)); clear hb10)
                    | (go_at_call 7; refine (awake_any _).mono ?_; rintro e w11 ⟨rfl, hb11⟩; have HB11 := Lib.hid (HB10.out.trans (hb11.mono HB10.out.size)); clear hb11))
                  go_ret
                  exact ⟨rfl, HB11.out⟩
                | false =>
                  clear hb2 hgo hbb HBB HB7
                  go_wp2_with (first
                    | (go_at_call 26; refine (HSLM.out _ HB8.out).mono ?_; rintro e w9 ⟨rfl, hb9⟩; have HB9 := Lib.hid (HB8.out.trans (hb9.mono HB8.out.size)); clear hb9)
                    | (go_at_call 26; refine (HSLL.out _ HB9.out).mono ?_; rintro e w10 ⟨rfl, hb10⟩; have HB10 := Lib.hid (HB9.out.trans (hb10.mono HB9.out.size)); clear hb10)
                    | (go_at_call 7; refine (awake_any _).mono ?_; rintro e w11 ⟨rfl, hb11⟩; have HB11 := Lib.hid (HB10.out.trans (hb11.mono HB10.out.size)); clear hb11))
                  go_ret
                  exact ⟨rfl, HB11.out⟩

end Go.Proofs.Ytlbpmbdogkfecaa.crewWithout
