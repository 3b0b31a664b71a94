
/- Whether rows of shots are one. Condition: at most a million shots of a thousand cells each. -/

import Derived.Test.YtjdgpbjjhgfikaaCrG

namespace Go.Proofs.Ytjdgpbjjhgfikaa.Crw

open Go.RowKit Go.PlainAid Go.Proofs.Ytjdgpbjjhgfikaa.Args Go.Proofs.Ytjdgpbjjhgfikaa.Cel Go.Proofs.Ytjdgpbjjhgfikaa.Pt Go.Proofs.Ytjdgpbjjhgfikaa.Mpv

set_option linter.unusedVariables false

set_option linter.unusedSimpArgs false

/-- Shots lie at an address. -/
def SsAt (w : World) (A : Option Addr) (xs : List Sh) : Prop :=
  ∀ i x, xs[i]? = some x → ∃ y V vc, A = some y ∧ w.cell? (y.add (i * 5)) = some (.int .i64 x.i) ∧ w.cell? ⟨(y.add (i * 5)).block, (y.add (i * 5)).off + 1, none⟩ = some (.int .i64 x.m) ∧ w.cell? ⟨(y.add (i * 5)).block, (y.add (i * 5)).off + 2, none⟩ = some (.int .i64 x.s) ∧ w.cell? ⟨(y.add (i * 5)).block, (y.add (i * 5)).off + 3, none⟩ = some (.int .i64 x.c) ∧ w.cell? ⟨(y.add (i * 5)).block, (y.add (i * 5)).off + 4, none⟩ = some (.slice V x.l.length vc) ∧ NumsAt w V x.l
theorem SsAt.kept {w w' : World} {A : Option Addr} {xs : List Sh} (h : SsAt w A xs) (b : Below w.heap.size w w') : SsAt w' A xs := by
  intro i x hx
  obtain ⟨y, V, vc, e, h1, h2, h3, h4, h5, h6⟩ := h i x hx
  exact ⟨y, V, vc, e, (b.cell (Go.block_lt_of_cell h1)).trans h1, (b.cell (Go.block_lt_of_cell h2)).trans h2, (b.cell (Go.block_lt_of_cell h3)).trans h3, (b.cell (Go.block_lt_of_cell h4)).trans h4, (b.cell (Go.block_lt_of_cell h5)).trans h5, h6.kept b⟩
def CP.sh (p : CP) : Sh := ⟨p.s.id, p.m, p.st, p.ca, p.ns⟩
theorem add_blk (R i : Nat) : (Addr.mk R 0 none).add i = ⟨R, i, none⟩ := by cases i <;> simp [Addr.add]
/-- A crew's shots as shots. -/
theorem ShD.ss {w : World} {N R : Nat} {L : List CP} {D : List (List Value)} (h : ShD w N L D) (hb : BR R 79 D w) (hl : D.length = L.length) (hn : ∀ p ∈ L, p.ns.length = p.s.n) : SsAt w (some ⟨R, 0, none⟩) (L.map CP.sh) := by
  intro i x hx
  rw [List.getElem?_map] at hx
  obtain ⟨p, hp, rfl⟩ := Option.map_eq_some_iff.1 hx
  have hi := (List.getElem?_eq_some_iff.1 hp).1
  obtain ⟨b, hbi⟩ : ∃ b, D[i]? = some b := ⟨_, List.getElem?_eq_getElem (by omega)⟩
  obtain ⟨p', V, vc, h1, h2, h3, h4⟩ := h.2 i b hbi
  rw [hp] at h1
  obtain rfl := Option.some.inj h1
  have hc : ∀ j v, b[j]? = some v → w.cell? ⟨R, i * 5 + j, none⟩ = some v := fun j v hj => hb.cell 5 h.1 hbi hj
  refine ⟨_, V, vc, rfl, ?_, ?_, ?_, ?_, ?_, h3⟩
  all_goals (rw [add_blk])
  · exact hc 0 _ (by rw [h2]; rfl)
  · exact hc 1 _ (by rw [h2]; rfl)
  · exact hc 2 _ (by rw [h2]; rfl)
  · exact hc 3 _ (by rw [h2]; rfl)
  · refine hc 4 _ ?_
    rw [h2]
    show some _ = some _
    rw [← hn p (List.mem_of_getElem? hp)]
    rfl
def sameL : List Sh → List Sh → Bool
  | [], [] => true
  | x :: xs, y :: ys => sameSh x y && sameL xs ys
  | _, _ => false
theorem sameL_refl : ∀ xs, sameL xs xs = true
  | [] => rfl
  | x :: xs => by simp [sameL, sameSh, sameL_refl xs]
theorem sameL_len : ∀ xs ys, sameL xs ys = true → xs.length = ys.length
  | [], [], _ => rfl
  | x :: xs, y :: ys, h => by
    simp only [sameL, Bool.and_eq_true] at h
    simp [sameL_len xs ys h.2]
  | [], _ :: _, h => by simp [sameL] at h
  | _ :: _, [], h => by simp [sameL] at h
theorem size_sh : (Try.prog.info? 79).map (·.size) = some 5 := by kernel_rfl
def EfRel (xs ys : List Sh) (n : Nat) (v : Bool) (w : World) (i : Value) (W : World) : Prop :=
  ∃ k : Nat, k ≤ n ∧ i = .int .i64 (k : Int) ∧ sameL (xs.drop k) (ys.drop k) = v ∧ Below w.heap.size w W
set_option maxRecDepth 8000 in
set_option maxHeartbeats 3200000 in
theorem equalf_any (A D : Option Addr) (ac dc n m : Nat) (xs ys : List Sh) (w : World) (h1 : SsAt w A xs) (h2 : SsAt w D ys) (hl1 : xs.length = n) (hl2 : ys.length = m) (hl : n ≤ 1000000) (hlx : ∀ x ∈ xs, x.l.length ≤ 1000) :
    Calls Try.prog 52 #[.slice A n ac, .slice D m dc, .func (.func 53) #[] #[]] w fun e w' => e = .returned (.bool (sameL xs ys)) ∧ Below w.heap.size w w' := by
  by_cases hnm : n = m
  · subst hnm
    have t0 : ((n : Int) != (n : Int)) = false := by simp
    obtain ⟨v, hv⟩ : ∃ v, sameL xs ys = v := ⟨_, rfl⟩
    rw [hv]
    have HV := Lib.hid hv
    have H1 := Lib.hid h1
    have H2 := Lib.hid h2
    have HL1 := Lib.hid hl1
    have HL2 := Lib.hid hl2
    have HL : Hid (n ≤ 1000000) := hl
    have HLX := Lib.hid hlx
    clear hv h1 h2 hl1 hl2 hl hlx
    go_enter Try.func52, Try.ntmps52
    go_wp2_with fail
    go_loopw [17] (fun i W => EfRel xs ys n v w i W) (fun i _ => n - (intOf i).toNat)
    case atStart => exact ⟨0, Nat.zero_le _, rfl, HV.out, Below.refl _ _⟩
    case round =>
      rename World => W
      obtain ⟨k, hk, rfl, hr, hb⟩ := hrel
      have HR := Lib.hid hr
      have HB := Lib.hid hb
      clear hr hb
      by_cases hlt : k < n
      · obtain ⟨x, hx⟩ : ∃ x, xs[k]? = some x := ⟨_, List.getElem?_eq_getElem (by rw [HL1.out]; exact hlt)⟩
        obtain ⟨y, hy⟩ : ∃ y, ys[k]? = some y := ⟨_, List.getElem?_eq_getElem (by rw [HL2.out]; exact hlt)⟩
        obtain ⟨ax, V, vc, rfl, c0, c1, c2, c3, c4, hnx⟩ := (H1.out.kept HB.out) k x hx
        obtain ⟨ay, V', vc', rfl, d0', d1', d2', d3', d4', hny⟩ := (H2.out.kept HB.out) k y hy
        have HLT := Lib.hid hlt
        have hkb : (k : Int) < n := by omega
        have hki : (0 : Int) ≤ k := by omega
        have HK1 : Hid (IntKind.i64.wrap ((k : Int) + 1) = (k : Int) + 1) := IntWalk.i64_in _ (by have := HL.out; omega)
        have hst : v = (sameSh x y && sameL (xs.drop (k + 1)) (ys.drop (k + 1))) := by
          have ex : xs.drop k = x :: xs.drop (k + 1) := by
            have hk1 : k < xs.length := by rw [HL1.out]; exact hlt
            rw [List.drop_eq_getElem_cons hk1, (List.getElem?_eq_some_iff.1 hx).2]
          have ey : ys.drop k = y :: ys.drop (k + 1) := by
            have hk1 : k < ys.length := by rw [HL2.out]; exact hlt
            rw [List.drop_eq_getElem_cons hk1, (List.getElem?_eq_some_iff.1 hy).2]
          rw [← HR.out, ex, ey]
          rfl
        have HST := Lib.hid hst
        have hxl : x.l.length ≤ 1000 := HLX.out x (List.mem_of_getElem? hx)
        have hb5 : Below W.heap.size W (W.alloc (.cells #[.int .i64 x.i, .int .i64 x.m, .int .i64 x.s, .int .i64 x.c, .slice V x.l.length vc] 79)) := (Below.refl _ _).alloc (Nat.le_refl _) _
        have hx5 := heap_alloc_new W (.cells #[.int .i64 x.i, .int .i64 x.m, .int .i64 x.s, .int .i64 x.c, .slice V x.l.length vc] 79)
        obtain ⟨W5, hW5⟩ : ∃ W', W.alloc (.cells #[.int .i64 x.i, .int .i64 x.m, .int .i64 x.s, .int .i64 x.c, .slice V x.l.length vc] 79) = W' := ⟨_, rfl⟩
        rw [hW5] at hb5 hx5
        have HW5 := Lib.hid hW5
        have d0 := (hb5.cell (Go.block_lt_of_cell d0')).trans d0'
        have d1 := (hb5.cell (Go.block_lt_of_cell d1')).trans d1'
        have d2 := (hb5.cell (Go.block_lt_of_cell d2')).trans d2'
        have d3 := (hb5.cell (Go.block_lt_of_cell d3')).trans d3'
        have d4 := (hb5.cell (Go.block_lt_of_cell d4')).trans d4'
        have hb6 : Below W5.heap.size W5 (W5.alloc (.cells #[.int .i64 y.i, .int .i64 y.m, .int .i64 y.s, .int .i64 y.c, .slice V' y.l.length vc'] 79)) := (Below.refl _ _).alloc (Nat.le_refl _) _
        have hy6 := heap_alloc_new W5 (.cells #[.int .i64 y.i, .int .i64 y.m, .int .i64 y.s, .int .i64 y.c, .slice V' y.l.length vc'] 79)
        have hx6 := (hb6.block _ (lt_of_block hx5)).trans hx5
        obtain ⟨W6, hW6⟩ : ∃ W', W5.alloc (.cells #[.int .i64 y.i, .int .i64 y.m, .int .i64 y.s, .int .i64 y.c, .slice V' y.l.length vc'] 79) = W' := ⟨_, rfl⟩
        rw [hW6] at hb6 hy6 hx6
        have HW6 := Lib.hid hW6
        have hbb := hb5.trans (hb6.mono hb5.size)
        have HB6 := Lib.hid (HB.out.trans (hbb.mono HB.out.size))
        have HSM := Lib.hid (sameshot_any x y V V' vc vc' x.l.length y.l.length W6 (hnx.kept hbb) (hny.kept hbb) rfl rfl hxl)
        obtain ⟨P5, hP5⟩ : ∃ P, W.heap.size = P := ⟨_, rfl⟩
        obtain ⟨P6, hP6⟩ : ∃ P, W5.heap.size = P := ⟨_, rfl⟩
        rw [hP5] at hx6
        rw [hP6] at hy6
        have HX6 := Lib.hid hx6
        have HY6 := Lib.hid hy6
        have HP5 := Lib.hid hP5
        have HP6 := Lib.hid hP6
        have hk1 := HK1.out
        clear hx hy hlt hk hst hxl hb5 hx5 hb6 hy6 hx6 hbb hnx hny d0' d1' d2' d3' d4' hW5 hW6 hP5 hP6
        go_upto_region 6 with fail
        rw [HW5.out, HP5.out]
        go_upto_region 7 with fail
        rw [HW6.out, HP6.out]
        go_wp2_with (first
          | ((with_reducible show wpList _ _ _ _ _ _); refine wpList_load_row rfl 79 (.tmp 8) rfl P5 rfl 79 _ (0, 0) _ HX6.out Try.underlying79 rfl size_sh ?_)
          | ((with_reducible show wpList _ _ _ _ _ _); refine wpList_load_row rfl 79 (.tmp 9) rfl P6 rfl 79 _ (0, 0) _ HY6.out Try.underlying79 rfl size_sh ?_))
        refine HSM.out.mono ?_
        rintro e W7 ⟨rfl, hb7⟩
        have HB7 := Lib.hid (HB6.out.trans (hb7.mono HB6.out.size))
        clear hb7 HSM HX6 HY6 c0 c1 c2 c3 c4 d0 d1 d2 d3 d4
        cases hs : sameSh x y with
        | true =>
          have HE : Hid (sameL (xs.drop (k + 1)) (ys.drop (k + 1)) = v) := by show _ = _; rw [HST.out, hs]; rfl
          clear hs
          go_wp2
          go_roundw
          case rel => exact ⟨k + 1, HLT.out, by go_num, HE.out, HB7.out⟩
          case measure => have := HLT.out; simp [intOf]; omega
        | false =>
          have HE : Hid (v = false) := by show _ = _; rw [HST.out, hs]; rfl
          clear hs
          go_wp2
          go_ret
          exact ⟨by rw [HE.out]; rfl, HB7.out⟩
      · obtain rfl : k = n := by omega
        have HE : Hid (v = true) := by show _ = _; rw [← HR.out, List.drop_eq_nil_of_le (by rw [HL1.out]; exact Nat.le_refl _), List.drop_eq_nil_of_le (by rw [HL2.out]; exact Nat.le_refl _)]; rfl
        clear hlt hk
        go_wp2
        go_ret
        exact ⟨by rw [HE.out]; rfl, HB.out⟩
  · have t0 : ((n : Int) != (m : Int)) = true := by simp; omega
    have t1 : (n != m) = true := by simp; omega
    have t2 : ((n : Int) == (m : Int)) = false := by simp; omega
    have t3 : (n == m) = false := by simp; omega
    have hv : sameL xs ys = false := by
      cases h : sameL xs ys with
      | false => rfl
      | true => have := sameL_len xs ys h; omega
    rw [hv]
    clear h1 h2 hl1 hl2 hl hlx hnm hv
    go_enter Try.func52, Try.ntmps52
    go_wp2
    go_ret
    exact ⟨rfl, Below.refl _ _⟩
set_option maxRecDepth 4000 in
theorem same_any (A D : Option Addr) (ac dc n m : Nat) (xs ys : List Sh) (w : World) (h1 : SsAt w A xs) (h2 : SsAt w D ys) (hl1 : xs.length = n) (hl2 : ys.length = m) (hl : n ≤ 1000000) (hlx : ∀ x ∈ xs, x.l.length ≤ 1000) :
    Calls Try.prog 26 #[.slice A n ac, .slice D m dc] w fun e w' => e = .returned (.bool (sameL xs ys)) ∧ Below w.heap.size w w' := by
  have HE := Lib.hid (equalf_any A D ac dc n m xs ys w h1 h2 hl1 hl2 hl hlx)
  clear h1 h2 hl1 hl2 hl hlx
  go_enter Try.func26, Try.ntmps26
  go_wp2_with fail
  refine HE.out.mono ?_
  rintro e w2 ⟨rfl, hb⟩
  have HB := Lib.hid hb
  clear hb HE
  go_wp2
  go_ret
  exact ⟨rfl, HB.out⟩
/-! ### Few partitions -/

def fewB (l : List AP) : Bool := l.all (fun x => decide (x.s.n ≤ 20)) && decide (l.length ≤ 20)
def FwRel (l : List AP) (n : Nat) (w : World) (i : Value) (W : World) : Prop :=
  ∃ k : Nat, k ≤ n ∧ i = .int .i64 (k : Int) ∧ (l.take k).all (fun x => decide (x.s.n ≤ 20)) = true ∧ Below w.heap.size w W
set_option maxRecDepth 4000 in
set_option maxHeartbeats 1600000 in
theorem few_any (A : Option Addr) (cap : Nat) (l : List AP) (w : World) (h : PAt w A l) (hl : l.length ≤ maxLen) :
    Calls Try.prog 6 #[.slice A l.length cap] w fun e w' => e = .returned (.bool (fewB l)) ∧ Below w.heap.size w w' := by
  obtain ⟨n, hn⟩ : ∃ n, l.length = n := ⟨_, rfl⟩
  have HN := Lib.hid hn
  have HP := Lib.hid h
  have HL : Hid (n ≤ 9223372036854775807) := by show _ ≤ _; unfold maxLen at hl; omega
  obtain ⟨v, hv⟩ : ∃ v, fewB l = v := ⟨_, rfl⟩
  have HV := Lib.hid hv
  rw [hn, hv]
  clear h hl hn hv
  go_enter Try.func6, Try.ntmps6
  go_wp2_with fail
  go_loopw [7] (fun i W => FwRel l n w i W) (fun i _ => n - (intOf i).toNat)
  case atStart => exact ⟨0, Nat.zero_le _, rfl, rfl, Below.refl _ _⟩
  case round =>
    rename World => W
    obtain ⟨k, hk, rfl, hr, hb⟩ := hrel
    have HR := Lib.hid hr
    have HB := Lib.hid hb
    clear hr hb
    by_cases hlt : k < n
    · obtain ⟨x, hx⟩ : ∃ x, l[k]? = some x := ⟨_, List.getElem?_eq_getElem (by rw [HN.out]; exact hlt)⟩
      obtain ⟨y, rfl, e1, e2, e3, e4⟩ := (HP.out.kept HB.out) k x hx
      have HX := Lib.hid hx
      have HLT := Lib.hid hlt
      have hkb : (k : Int) < n := by omega
      have hki : (0 : Int) ≤ k := by omega
      have hk1 : IntKind.i64.wrap ((k : Int) + 1) = (k : Int) + 1 := IntWalk.i64_in _ (by have := HL.out; omega)
      have HB2 : Hid (∀ o, Below w.heap.size w (W.alloc o)) := fun o => HB.out.trans (((Below.refl _ _).alloc (Nat.le_refl _) o).mono HB.out.size)
      by_cases h20 : x.s.n ≤ 20
      · have t0 : decide ((20 : Int) < (x.s.n : Int)) = false := decide_eq_false (by omega)
        have t1 : decide (20 < x.s.n) = false := decide_eq_false (by omega)
        have HE : Hid ((l.take (k + 1)).all (fun x => decide (x.s.n ≤ 20)) = true) := by
          show _ = _
          rw [List.take_add_one, HX.out, List.all_append, HR.out]
          simp [h20]
        clear hx hlt hk h20
        go_wp2
        go_roundw
        case rel => exact ⟨k + 1, HLT.out, by go_num, HE.out, HB2.out _⟩
        case measure => have := HLT.out; simp [intOf]; omega
      · have t0 : decide ((20 : Int) < (x.s.n : Int)) = true := decide_eq_true (by omega)
        have t1 : decide (20 < x.s.n) = true := decide_eq_true (by omega)
        have HE : Hid (v = false) := by
          show _ = _
          rw [← HV.out]
          unfold fewB
          have : l.all (fun x => decide (x.s.n ≤ 20)) = false := by
            rw [List.all_eq_false]
            exact ⟨x, List.mem_of_getElem? HX.out, by simp; omega⟩
          rw [this]; rfl
        clear hx hlt hk h20
        go_wp2
        go_ret
        exact ⟨by rw [HE.out]; rfl, HB2.out _⟩
    · obtain rfl : k = n := by omega
      have HE : Hid (v = decide (k ≤ 20)) := by
        show _ = _
        have h := HR.out
        rw [List.take_of_length_le (by rw [HN.out]; exact Nat.le_refl _)] at h
        rw [← HV.out]
        unfold fewB
        rw [h, HN.out]; rfl
      have HE2 : Hid (decide ((k : Int) ≤ 20) = decide (k ≤ 20)) := by show _ = _; simp only [decide_eq_decide]; omega
      clear hlt hk
      go_wp2
      go_ret
      exact ⟨by rw [HE.out, ← HE2.out]; rfl, HB.out⟩
end Go.Proofs.Ytjdgpbjjhgfikaa.Crw
