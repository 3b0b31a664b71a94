
/- A strip in memory: Of, Count, Same. Condition: none. -/

import Derived.Test.YtilkicbokfgjlaaDoorStpD

namespace Go.Proofs.YtilkicbokfgjlaaDoor.Stp

open Go.RowKit Go.PlainAid Go.Proofs.YtilkicbokfgjlaaDoor.Cel

set_option linter.unusedVariables false

set_option linter.unusedSimpArgs false

/-- Numbers lie at an address. -/
def NAt (w : World) (A : Option Addr) (l : List Int) : Prop := ∀ i x, l[i]? = some x → ∃ y, A = some y ∧ w.cell? (y.add i) = some (.int .i64 x)
theorem NAt.kept {w w' : World} {A : Option Addr} {l : List Int} (h : NAt w A l) (b : Below w.heap.size w w') : NAt w' A l := by
  intro i x hx
  obtain ⟨y, e, h1⟩ := h i x hx
  exact ⟨y, e, (b.cell (Go.block_lt_of_cell h1)).trans h1⟩
def OfPost (w : World) (X : List RW) (e : Ending) (w' : World) : Prop := e = .returned (.pointer (some ⟨w.heap.size, 0, none⟩)) ∧ IsSt w' w.heap.size w.heap.size X ∧ w.heap.size < w'.heap.size ∧ Below w.heap.size w w'
def OfRel (w : World) (l : List Int) (i : Value) (wr : World) : Prop :=
  ∃ k : Nat, k ≤ l.length ∧ i = .int .i64 (k : Int) ∧ IsSt wr w.heap.size w.heap.size (ofX (l.take k)) ∧ w.heap.size < wr.heap.size ∧ Below w.heap.size w wr
set_option maxRecDepth 4000 in
set_option maxHeartbeats 1600000 in
theorem of_any (A : Option Addr) (cap n : Nat) (l : List Int) (w : World) (h : NAt w A l) (hl : l.length = n) (hn : n ≤ 1073741824) :
    Calls Tryd.prog 6 #[.slice A n cap] w (OfPost w (ofX l)) := by
  have HN := Lib.hid (new_any w)
  have HA := Lib.hid h
  have HL := Lib.hid hl
  have HNN : Hid (n ≤ 1073741824) := hn
  clear h hl hn
  go_enter Tryd.func6, Tryd.ntmps6
  go_wp2_with (go_at_call 17; refine HN.out.mono ?_; rintro e w1 ⟨rfl, hs, hz, hb⟩; have HS := Lib.hid hs; have HZ : Hid (w.heap.size < w1.heap.size) := hz; have HB := Lib.hid hb; clear hs hz hb)
  go_loopw [9] (fun i wr => OfRel w l i wr) (fun i _ => n - (intOf i).toNat)
  case atStart => exact ⟨0, Nat.zero_le _, rfl, HS.out, HZ.out, HB.out⟩
  case round =>
    obtain ⟨k, hk, rfl, hs, hz, hb⟩ := hrel
    rw [HL.out] at hk
    have HSR := Lib.hid hs
    have HZR : Hid (w.heap.size < wr.heap.size) := hz
    have HBR := Lib.hid hb
    clear hs hz hb HS HZ HB
    by_cases hlt : k < n
    · obtain ⟨x, hx⟩ : ∃ x, l[k]? = some x := ⟨_, List.getElem?_eq_getElem (by rw [HL.out]; exact hlt)⟩
      obtain ⟨ax, rfl, c1⟩ := (HA.out.kept HBR.out) k x hx
      have HT : Hid (ofX (l.take (k + 1)) = addX (ofX (l.take k)) x 1) := by show _ = _; rw [List.take_add_one, hx]; exact of_snoc _ _
      have HAD := Lib.hid (add_any HSR.out (of_ok _) x 1 (by omega))
      have HKL : Hid (k < n) := hlt
      have h0 : (0 : Int) ≤ k := by omega
      have h1 : (k : Int) < n := by omega
      have hk1 : IntKind.i64.wrap ((k : Int) + 1) = (k : Int) + 1 := IntWalk.i64_in _ (by have := HNN.out; omega)
      clear hx hlt hk
      go_wp2_with (go_at_call 18; refine HAD.out.mono ?_; rintro e w2 ⟨rfl, hs2, hc2⟩; have HS2 := Lib.hid hs2; have HC2 := Lib.hid hc2; clear hs2 hc2)
      go_roundw
      case rel => exact ⟨k + 1, by rw [HL.out]; exact HKL.out, by go_num, by rw [HT.out]; exact HS2.out, Nat.lt_of_lt_of_le HZR.out HC2.out.size, HC2.out.below HBR.out HBR.out.size⟩
      case measure => have := HKL.out; simp [intOf]; omega
    · obtain rfl : k = n := by omega
      rw [List.take_of_length_le (by rw [HL.out]; exact Nat.le_refl _)] at HSR
      clear hk hlt
      go_wp2
      go_ret
      exact ⟨rfl, HSR.out, HZR.out, HBR.out⟩
def cntX (id : Int) : List RW → Int
  | [] => 0
  | x :: l => (if x.i = id then x.c else 0) + cntX id l
theorem cnt_snoc (id : Int) (l : List RW) (x : RW) : cntX id (l ++ [x]) = cntX id l + (if x.i = id then x.c else 0) := by
  induction l with
  | nil => simp [cntX]
  | cons y l ih => simp only [List.cons_append, cntX, ih]; omega
theorem cnt_le (id : Int) : ∀ (l : List RW), (∀ x ∈ l, 1 ≤ x.c) → 0 ≤ cntX id l ∧ cntX id l ≤ sumR l
  | [], _ => by simp [cntX, sumR]
  | x :: l, h => by
    have ih := cnt_le id l fun y hy => h y (by simp [hy])
    have := h x (by simp)
    simp only [cntX, sumR]
    split <;> omega
section

variable {w : World} {B g : Nat} {X : List RW}

def CtRel (X : List RW) (id : Int) (w : World) (i v : Value) (wr : World) : Prop :=
  ∃ k : Nat, k ≤ X.length ∧ i = .int .i64 (k : Int) ∧ v = .int .i64 (cntX id (X.take k)) ∧ Below w.heap.size w wr
end

theorem eq_run2 (a b c d : Int) (w : World) : (Op.equalIn 10000 78 (.agg #[.int .i64 a, .int .i64 b]) (.agg #[.int .i64 c, .int .i64 d])).run Tryd.prog w = .ok ((a == c) && (b == d)) w := by
  have hS : Tryd.prog.underlying 78 = some (.struct (Tryd.prog.fieldsOf 78)) := by kernel_rfl
  rw [show (10000 : Nat) = 9999 + 1 from rfl, run_equalIn_agg w 9999 78 _ _ hS (by kernel_rfl)]
  simp only [Program.fieldsOf, Tryd.underlying78]
  cases h1 : (a == c) <;> cases h2 : (b == d) <;> simp [go_sem, h1, h2]
theorem rw_ext {l m : List RW} {n : Nat} (h1 : l.length = n) (h2 : m.length = n) (h : ∀ (j : Nat) (x y : RW), j < n → l[j]? = some x → m[j]? = some y → x = y) : l = m := by
  apply List.ext_getElem?
  intro j
  rcases Nat.lt_or_ge j n with hj | hj
  · have e1 : l[j]? = some l[j] := List.getElem?_eq_getElem (by omega)
    have e2 : m[j]? = some m[j] := List.getElem?_eq_getElem (by omega)
    rw [e1, e2, h j _ _ hj e1 e2]
  · rw [List.getElem?_eq_none (by omega), List.getElem?_eq_none (by omega)]
theorem eq_rw (x y : RW) : ((x.i == y.i) && (x.c == y.c)) = decide (x = y) := by
  obtain ⟨a, b⟩ := x
  obtain ⟨c, d⟩ := y
  rw [Bool.eq_iff_iff]; simp
set_option maxRecDepth 4000 in
set_option maxHeartbeats 1600000 in
theorem eqRuns_any (A D : Option Addr) (ca cd a b : Nat) (l m : List RW) (w : World) (h1 : RAt w A l) (h2 : RAt w D m) (ha : l.length = a) (hb : m.length = b) (hl : a ≤ 1073741824) (hm : b ≤ 1073741824) :
    Calls Tryd.prog 28 #[.slice A a ca, .slice D b cd] w fun e w' => e = .returned (.bool (decide (l = m))) ∧ ∃ n, w' = w.drewN n := by
  by_cases hab : a = b
  · subst hab
    have HA := Lib.hid ha
    have HB := Lib.hid hb
    have H1 := Lib.hid h1
    have H2 := Lib.hid h2
    obtain ⟨z, hz⟩ : ∃ z, decide (l = m) = z := ⟨_, rfl⟩
    rw [hz]
    have HZ := Lib.hid hz
    clear h1 h2 ha hb hz
    have tne : ((a : Int) != (a : Int)) = false := by simp
    go_enter Tryd.func28, Tryd.ntmps28
    go_wp2
    go_loopw [13] (fun i wr => ∃ k n : Nat, k ≤ a ∧ i = .int .i64 k ∧ wr = w.drewN n ∧ ∀ (j : Nat) x y, j < k → l[j]? = some x → m[j]? = some y → x = y) (fun i _ => a - (intOf i).toNat)
    case atStart => exact ⟨0, 0, Nat.zero_le _, rfl, rfl, fun j x y h => absurd h (by omega)⟩
    case round =>
      obtain ⟨k, n, hk, rfl, hw, hall⟩ := hrel
      have HALL := Lib.hid hall
      have HW := Lib.hid hw
      by_cases hlt : k < a
      · obtain ⟨x, hx⟩ : ∃ x, l[k]? = some x := ⟨_, List.getElem?_eq_getElem (by rw [HA.out]; exact hlt)⟩
        obtain ⟨y, hy⟩ : ∃ y, m[k]? = some y := ⟨_, List.getElem?_eq_getElem (by rw [HB.out]; exact hlt)⟩
        obtain ⟨ax, rfl, c1, c2⟩ := H1.out k x hx
        obtain ⟨ay, rfl, c3, c4⟩ := H2.out k y hy
        have c1' : wr.cell? (ax.add (k * 2)) = some (.int .i64 x.i) := by rw [hw]; exact c1
        have c2' : wr.cell? ⟨(ax.add (k * 2)).block, (ax.add (k * 2)).off + 1, none⟩ = some (.int .i64 x.c) := by rw [hw]; exact c2
        have c3' : wr.cell? (ay.add (k * 2)) = some (.int .i64 y.i) := by rw [hw]; exact c3
        have c4' : wr.cell? ⟨(ay.add (k * 2)).block, (ay.add (k * 2)).off + 1, none⟩ = some (.int .i64 y.c) := by rw [hw]; exact c4
        have heq : ∀ wx : World, (Op.equalIn 10000 78 (.agg #[.int .i64 x.i, .int .i64 x.c]) (.agg #[.int .i64 y.i, .int .i64 y.c])).run Tryd.prog wx = .ok (decide (x = y)) wx := fun wx => by rw [← eq_rw]; exact eq_run2 x.i x.c y.i y.c wx
        have HX := Lib.hid hx
        have HY := Lib.hid hy
        have hki : (0 : Int) ≤ k := by omega
        have hka : (k : Int) < a := by omega
        clear hall hw hx hy c1 c2 c3 c4 H1 H2
        by_cases hq : x = y
        · have HQ := Lib.hid hq
          rw [decide_eq_true hq] at heq
          clear hq
          go_wp2
          go_quiet (fail)
          go_wp2
          go_roundw
          case rel => exact ⟨k + 1, n + nq, by omega, by go_num, by rw [HW.out, World.drewN_drewN], fun j x' y' hj h3 h4 => by
            rcases (show j < k ∨ j = k by omega) with h | rfl
            · exact HALL.out j x' y' h h3 h4
            · obtain rfl : x = x' := Option.some.inj (HX.out.symm.trans h3)
              obtain rfl : y = y' := Option.some.inj (HY.out.symm.trans h4)
              exact HQ.out⟩
          case measure => simp [intOf]; omega
        · have HQ : Hid (¬ x = y) := hq
          rw [decide_eq_false hq] at heq
          clear hq
          have hzf : z = false := by
            rw [← HZ.out]
            exact decide_eq_false fun e => HQ.out (Option.some.inj (HX.out.symm.trans ((by rw [e] : l[k]? = m[k]?).trans HY.out)))
          subst hzf
          go_wp2
          go_quiet (fail)
          go_wp2
          go_ret
          exact ⟨rfl, n + nq, by rw [HW.out, World.drewN_drewN]⟩
      · obtain rfl : k = a := by omega
        have hzt : z = true := by rw [← HZ.out]; exact decide_eq_true (rw_ext HA.out HB.out HALL.out)
        subst hzt
        clear hall hw
        go_wp2
        go_ret
        exact ⟨rfl, n, HW.out⟩
  · have tne : ((a : Int) != (b : Int)) = true := by simp; omega
    have hz : decide (l = m) = false := decide_eq_false fun e => hab (by rw [← ha, ← hb, e])
    rw [hz]
    clear h1 h2 ha hb hz hab
    go_enter Tryd.func28, Tryd.ntmps28
    go_wp2
    go_ret
    exact ⟨rfl, 0, rfl⟩
set_option maxRecDepth 4000 in
set_option maxHeartbeats 1600000 in
theorem same_any {w : World} {B g B' g' : Nat} {X Y : List RW} (h : IsSt w B g X) (h' : IsSt w B' g' Y) (ho : OkX X) (ho' : OkX Y) :
    Calls Tryd.prog 12 #[.pointer (some ⟨g, 0, none⟩), .pointer (some ⟨g', 0, none⟩)] w fun e w' => e = .returned (.bool (decide (X = Y))) ∧ ∃ n, w' = w.drewN n := by
  obtain ⟨A, c, h⟩ := h
  obtain ⟨A', c', h'⟩ := h'
  have c0 := h.cell
  have b0 := h'.cell
  have hE := eqRuns_any A A' c c' X.length Y.length _ _ w.drew h.rat h'.rat (runsF_len _ _) (runsF_len _ _) ho.len ho'.len
  have hd : decide (runsF 0 X = runsF 0 Y) = decide (X = Y) := by
    rw [Bool.eq_iff_iff]; simp
    exact ⟨fun e => runsF_inj _ _ _ e, fun e => by rw [e]⟩
  rw [hd] at hE
  have HE := Lib.hid hE
  obtain ⟨b, hb⟩ : ∃ b, decide (X = Y) = b := ⟨_, rfl⟩
  rw [hb] at HE
  rw [hb]
  obtain ⟨n, hn⟩ : ∃ n, X.length = n := ⟨_, rfl⟩
  obtain ⟨m, hm⟩ : ∃ m, Y.length = m := ⟨_, rfl⟩
  rw [hn] at c0 HE
  rw [hm] at b0 HE
  clear h h' ho ho' hE hd hb hn hm
  go_enter Tryd.func12, Tryd.ntmps12
  go_wp2_with fail
  go_region_held3 (fun wx => wx.cell? ⟨g, 0, none⟩ = some (.slice A n c) ∧ wx.cell? ⟨g', 0, none⟩ = some (.slice A' m c'))
    (first | (refine ⟨?_, ?_⟩ <;> assumption) | (go_keep; done))
    (first
      | (go_at_call 28; refine HE.out.mono ?_; rintro e w3 ⟨rfl, q3, rfl⟩))
  all_goals
    go_wp2
    go_ret
    exact ⟨rfl, 1 + q3, by first | rfl | (simp [World.drewN]; done)⟩
end Go.Proofs.YtilkicbokfgjlaaDoor.Stp
