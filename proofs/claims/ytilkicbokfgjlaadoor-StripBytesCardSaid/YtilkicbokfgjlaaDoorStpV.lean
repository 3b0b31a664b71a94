
/- A strip as bytes: the document's Bytes; whether numbers are the same. Condition: at most 268,435,455 rows. -/

import Derived.Test.YtilkicbokfgjlaaDoorStpU

namespace Go.Proofs.YtilkicbokfgjlaaDoor.Stp

open Go.RowKit Go.PlainAid Go.Proofs.YtilkicbokfgjlaaDoor.Cel Go.Proofs.YtilkicbokfgjlaaDoor.Oct Go.Proofs.YtilkicbokfgjlaaDoor.Flt

set_option linter.unusedVariables false

set_option linter.unusedSimpArgs false

theorem bad_uniq {X : List RW} {k k' : Nat} (h : BadAt X k) (h' : BadAt X k') : k = k' := by
  obtain ⟨h1, x, hx, hb⟩ := h
  obtain ⟨h1', x', hx', hb'⟩ := h'
  rcases Nat.lt_trichotomy k k' with e | e | e
  · rw [h1' k x e hx] at hb; cases hb
  · exact e
  · rw [h1 k' x' e hx'] at hb'; cases hb'
def RBytPost (X : List RW) (w : World) (e : Ending) (w' : World) : Prop :=
  ((∀ x ∈ X, idB x = true) ∧ e = .returned (.tuple #[.string (strOfNums (bytesX X)), .int .i64 (-1)]) ∧ Below w.heap.size w w') ∨
  (∃ k : Nat, BadAt X k ∧ e = .returned (.tuple #[.string ⟨#[]⟩, .int .i64 (k : Int)]) ∧ Below w.heap.size w w')
def RByRel (X : List RW) (w : World) (s i : Value) (wr : World) : Prop :=
  ∃ k : Nat, k ≤ X.length ∧ i = .int .i64 (k : Int) ∧ s = .string (strOfNums (bytesX (X.take k))) ∧ (∀ (j : Nat) (x : RW), j < k → X[j]? = some x → idB x = true) ∧ Below w.heap.size w wr
section

variable {w : World} {A : Option Addr} {c : Nat} {X : List RW}

set_option maxRecDepth 8000 in
set_option maxHeartbeats 6400000 in
theorem rbytes_any (h : RX w A X) (ho : OkX X) (N : Nat) (hN : X.length = N) (hl : N ≤ 268435455) :
    Calls Tryd.prog 9 #[.slice A N c] w (RBytPost X w) := by
  have HR := Lib.hid h
  have HO := Lib.hid ho
  have HN := Lib.hid hN
  have HL : Hid (N ≤ 268435455) := hl
  clear h ho hN hl
  go_enter Tryd.func9, Tryd.ntmps9
  go_wp2_with fail
  go_loopw [4, 5] (fun s i wr => RByRel X w s i wr) (fun _ i _ => N - (intOf i).toNat)
  case atStart => exact ⟨0, Nat.zero_le _, rfl, rfl, fun j x hj => by omega, Below.refl _ _⟩
  case round =>
    obtain ⟨k, hk, rfl, rfl, hid, hb⟩ := hrel
    rw [HN.out] at hk
    have HID := Lib.hid hid
    have HB := Lib.hid hb
    clear hid hb
    by_cases hlt : k < N
    rotate_left
    · obtain rfl : k = N := by omega
      have hf : X.take k = X := List.take_of_length_le (by rw [HN.out]; exact Nat.le_refl _)
      rw [hf]
      have HALL : Hid (∀ x ∈ X, idB x = true) := fun x hx => by
        obtain ⟨i, hi, rfl⟩ := List.mem_iff_getElem.1 hx
        exact HID.out i _ (by rw [← HN.out]; exact hi) (List.getElem?_eq_getElem hi)
      clear hf hk hlt
      go_wp2
      go_ret2
      exact .inl ⟨HALL.out, rfl, HB.out⟩
    obtain ⟨x, hx⟩ : ∃ x, X[k]? = some x := ⟨_, List.getElem?_eq_getElem (by rw [HN.out]; exact hlt)⟩
    have hrat := fun (W : World) (b : Below w.heap.size w W) => (HR.out.keep b).rat k x hx
    obtain ⟨ax, rfl, c1, c2⟩ := hrat wr HB.out
    have hcc : ∀ W : World, Below w.heap.size w W → W.cell? (ax.add (k * 2)) = some (.int .i64 x.i) ∧ W.cell? ⟨(ax.add (k * 2)).block, (ax.add (k * 2)).off + 1, none⟩ = some (.int .i64 x.c) := fun W b => by
      obtain ⟨y, hy, d1, d2⟩ := hrat W b
      obtain rfl := Option.some.inj hy
      exact ⟨d1, d2⟩
    have HCC := Lib.hid hcc
    have hxm := List.mem_of_getElem? hx
    have HKX := Lib.hid hx
    have HKL : Hid (k < N) := hlt
    have h0 : (0 : Int) ≤ k := by omega
    have h1 : (k : Int) < N := by omega
    have hk1 : IntKind.i64.wrap ((k : Int) + 1) = (k : Int) + 1 := IntWalk.i64_in _ (by have := HL.out; omega)
    by_cases hlo : x.i < -1
    · have t0 : decide (x.i < -1) = true := decide_eq_true hlo
      have HBAD : Hid (BadAt X k) := ⟨HID.out, x, HKX.out, by
        cases hb : idB x with
        | false => rfl
        | true => have := (idB_iff x).1 hb; omega⟩
      clear hrat hcc hx hxm hlt hk hlo
      go_wp2
      go_ret2
      exact .inr ⟨k, HBAD.out, rfl, HB.out⟩
    have t0 : decide (x.i < -1) = false := decide_eq_false hlo
    by_cases hhi : 254 < x.i
    · have t1 : decide (254 < x.i) = true := decide_eq_true hhi
      have HBAD : Hid (BadAt X k) := ⟨HID.out, x, HKX.out, by
        cases hb : idB x with
        | false => rfl
        | true => have := (idB_iff x).1 hb; omega⟩
      clear hrat hcc hx hxm hlt hk hlo hhi
      go_wp2
      go_ret2
      exact .inr ⟨k, HBAD.out, rfl, HB.out⟩
    have t1 : decide (254 < x.i) = false := decide_eq_false hhi
    have hidx : idB x = true := (idB_iff x).2 ⟨by omega, by omega⟩
    have HIDN : Hid (∀ (j : Nat) (y : RW), j < k + 1 → X[j]? = some y → idB y = true) := fun j y hj hy => by
      rcases (show j < k ∨ j = k by omega) with h | rfl
      · exact HID.out j y h hy
      · rw [HKX.out] at hy; obtain rfl := Option.some.inj hy; exact hidx
    have hc1 := HO.out.pos x hxm
    have hc2 : x.c ≤ 1073741824 := by
      have h1 := sum_take_succ hx
      have h2 := sum_take_le HO.out.pos (k + 1)
      have h3 := sum_take_mono HO.out.pos k
      have h4 := HO.out.sum
      omega
    have hbt : strOfNums (bytesX (X.take (k + 1))) = strOfNums (bytesX (X.take k)) ++ (strOfNums (low (x.i + 1).toNat 1) ++ strOfNums (low x.c.toNat 4)) := by
      rw [take_snoc hx, bytes_snoc, strOf_append]
      unfold rowB
      rw [strOf_append]
    have hsl : (strOfNums (bytesX (X.take k))).size ≤ 5 * 268435455 := by
      rw [strOfNums_size, bytes_len, List.length_take]
      have := HL.out
      have := HN.out
      omega
    obtain ⟨xi, xcI⟩ := x
    dsimp only at hc1 hc2 hbt c1 c2 t0 t1 hlo hhi HCC
    obtain ⟨cn, rfl⟩ : ∃ n : Nat, xcI = n := ⟨xcI.toNat, by omega⟩
    obtain ⟨v, hv⟩ : ∃ v : Nat, xi + 1 = v := ⟨(xi + 1).toNat, by omega⟩
    rw [hv, Int.toNat_natCast, Int.toNat_natCast] at hbt
    have hwv : IntKind.i64.wrap (xi + 1) = (v : Int) := by rw [hv]; exact IntWalk.i64_in _ (by omega)
    have hwu : IntKind.u64.wrap (v : Int) = (v : Int) := by rw [IntKind.wrap_u64]; omega
    have hwc : IntKind.u64.wrap (cn : Int) = (cn : Int) := by rw [IntKind.wrap_u64]; omega
    have hs1 : (strOfNums (low v 1)).size = 1 := by rw [strOfNums_size, low_length]
    have hs4 : (strOfNums (low cn 4)).size = 4 := by rw [strOfNums_size, low_length]
    have HT1 := Lib.hid (fun (W : World) => text_any v 1 (by omega) (by omega) W)
    have HT4 := Lib.hid (fun (W : World) => text_any cn 4 (by omega) (by omega) W)
    obtain ⟨SA, hSA⟩ : ∃ s, strOfNums (low v 1) = s := ⟨_, rfl⟩
    obtain ⟨SB, hSB⟩ : ∃ s, strOfNums (low cn 4) = s := ⟨_, rfl⟩
    obtain ⟨SS, hSS⟩ : ∃ s, strOfNums (bytesX (X.take k)) = s := ⟨_, rfl⟩
    rw [hSA] at hbt hs1 HT1
    rw [hSB] at hbt hs4 HT4
    rw [hSS] at hbt hsl ⊢
    have hm1 : ¬ 9223372036854775807 < SA.size + SB.size := by omega
    have hm2 : ¬ 9223372036854775807 < SS.size + (SA ++ SB).size := by rw [ByteArray.size_append]; omega
    have hm3 : ¬ 9223372036854775807 < SS.size + (SA.size + SB.size) := by omega
    have HBT := Lib.hid hbt
    have HT1b : Hid (∀ W : World, Calls Tryd.prog 25 #[.int .u64 (v : Int), .int .i64 1] W fun e w' => e = .returned (.string SA) ∧ Below W.heap.size W w') := HT1.out
    have HT4b : Hid (∀ W : World, Calls Tryd.prog 25 #[.int .u64 (cn : Int), .int .i64 4] W fun e w' => e = .returned (.string SB) ∧ Below W.heap.size W w') := HT4.out
    clear hrat hcc hx hxm hlt hk hlo hhi hidx hc1 hc2 hbt hsl hv hs1 hs4 hSA hSB hSS HT1 HT4
    go_wp2_with fail
    have hbd : Below w.heap.size w wr.drew := HB.out.trans ((below_n wr 1).mono HB.out.size)
    have HBD := Lib.hid hbd
    clear hbd
    go_region_held3 (fun wx => wx.cell? (ax.add (k * 2)) = some (.int .i64 xi) ∧ wx.cell? ⟨(ax.add (k * 2)).block, (ax.add (k * 2)).off + 1, none⟩ = some (.int .i64 (cn : Int)))
      (first | (refine ⟨?_, ?_⟩ <;> assumption) | (go_keep; done))
      (first
        | (go_at_call 25; (with_reducible refine (HT1b.out _).mono ?_); rintro e w3 ⟨rfl, hb3⟩; have HB3 := Lib.hid (HBD.out.trans (hb3.mono HBD.out.size)); obtain ⟨d1, d2⟩ := HCC.out _ HB3.out; clear hb3)
        | (go_at_call 25; (with_reducible refine (HT4b.out _).mono ?_); rintro e w4 ⟨rfl, hb4⟩; have HB4 := Lib.hid (HB3.out.trans (hb4.mono HB3.out.size)); obtain ⟨f1, f2⟩ := HCC.out _ HB4.out; clear hb4))
    all_goals
      go_wp2
      go_roundw
      case rel => exact ⟨k + 1, by rw [HN.out]; exact HKL.out, by go_num, by rw [HBT.out], HIDN.out, HB4.out⟩
      case measure => have := HKL.out; simp [intOf]; omega
end

theorem i_ext {l m : List Int} {n : Nat} (h1 : l.length = n) (h2 : m.length = n) (h : ∀ (j : Nat) (x y : Int), j < n → l[j]? = some x → m[j]? = some y → x = y) : l = m := by
  apply List.ext_getElem?
  intro j
  rcases Nat.lt_or_ge j n with hj | hj
  · have e1 : l[j]? = some l[j] := List.getElem?_eq_getElem (by omega)
    have e2 : m[j]? = some m[j] := List.getElem?_eq_getElem (by omega)
    rw [e1, e2, h j _ _ hj e1 e2]
  · rw [List.getElem?_eq_none (by omega), List.getElem?_eq_none (by omega)]
set_option maxRecDepth 4000 in
set_option maxHeartbeats 1600000 in
theorem same10_any (A D : Option Addr) (ca cd a b : Nat) (l m : List Int) (w : World) (h1 : NAt w A l) (h2 : NAt w D m) (ha : l.length = a) (hb : m.length = b) (hl : a ≤ 1073741824) (hm : b ≤ 1073741824) :
    Calls Tryd.prog 13 #[.slice A a ca, .slice D b cd] w fun e w' => e = .returned (.bool (decide (l = m))) ∧ Below w.heap.size w w' := by
  by_cases hab : a = b
  · subst hab
    have HA := Lib.hid ha
    have HB := Lib.hid hb
    have H1 := Lib.hid h1
    have H2 := Lib.hid h2
    have HL : Hid (a ≤ 1073741824) := hl
    obtain ⟨z, hz⟩ : ∃ z, decide (l = m) = z := ⟨_, rfl⟩
    rw [hz]
    have HZ := Lib.hid hz
    clear h1 h2 ha hb hz hl hm
    have tne : ((a : Int) != (a : Int)) = false := by simp
    go_enter Tryd.func13, Tryd.ntmps13
    go_wp2
    go_loopw [5] (fun i wr => ∃ k n : Nat, k ≤ a ∧ i = .int .i64 k ∧ wr = w.drewN n ∧ ∀ (j : Nat) x y, j < k → l[j]? = some x → m[j]? = some y → x = y) (fun i _ => a - (intOf i).toNat)
    case atStart => exact ⟨0, 0, Nat.zero_le _, rfl, rfl, fun j x y h => absurd h (by omega)⟩
    case round =>
      obtain ⟨k, n, hk, rfl, hw, hall⟩ := hrel
      have HALL := Lib.hid hall
      have HW := Lib.hid hw
      by_cases hlt : k < a
      · obtain ⟨x, hx⟩ : ∃ x, l[k]? = some x := ⟨_, List.getElem?_eq_getElem (by rw [HA.out]; exact hlt)⟩
        obtain ⟨y, hy⟩ : ∃ y, m[k]? = some y := ⟨_, List.getElem?_eq_getElem (by rw [HB.out]; exact hlt)⟩
        obtain ⟨ax, rfl, c1⟩ := H1.out k x hx
        obtain ⟨ay, rfl, c2⟩ := H2.out k y hy
        have c1' : wr.cell? (ax.add k) = some (.int .i64 x) := by rw [hw]; exact c1
        have c2' : wr.cell? (ay.add k) = some (.int .i64 y) := by rw [hw]; exact c2
        have HX := Lib.hid hx
        have HY := Lib.hid hy
        have hki : (0 : Int) ≤ k := by omega
        have hka : (k : Int) < a := by omega
        have hk1 : IntKind.i64.wrap ((k : Int) + 1) = (k : Int) + 1 := IntWalk.i64_in _ (by have := HL.out; omega)
        clear hall hw hx hy c1 c2 H1 H2
        by_cases hq : x = y
        · have HQ := Lib.hid hq
          have tb : (x != y) = false := by simp [hq]
          clear hq
          go_wp2
          go_quiet (fail)
          go_wp2
          go_roundw
          case rel => exact ⟨k + 1, n + nq, by omega, by go_num, by rw [HW.out, World.drewN_drewN], fun j x' y' hj h3 h4 => by
            rcases (show j < k ∨ j = k by omega) with h | rfl
            · exact HALL.out j x' y' h h3 h4
            · obtain rfl : x = x' := Option.some.inj (HX.out.symm.trans h3)
              obtain rfl : y = y' := Option.some.inj (HY.out.symm.trans h4)
              exact HQ.out⟩
          case measure => simp [intOf]; omega
        · have HQ : Hid (¬ x = y) := hq
          have tb : (x != y) = true := by simp [hq]
          clear hq
          have hzf : z = false := by
            rw [← HZ.out]
            exact decide_eq_false fun e => HQ.out (Option.some.inj (HX.out.symm.trans ((by rw [e] : l[k]? = m[k]?).trans HY.out)))
          subst hzf
          go_wp2
          go_quiet (fail)
          have HBQ : Hid (Below w.heap.size w (wr.drewN nq)) := by rw [HW.out]; exact (below_n w n).trans ((below_n (w.drewN n) nq))
          go_wp2
          go_ret
          exact ⟨rfl, HBQ.out⟩
      · obtain rfl : k = a := by omega
        have hzt : z = true := by rw [← HZ.out]; exact decide_eq_true (i_ext HA.out HB.out HALL.out)
        subst hzt
        have HBQ : Hid (Below w.heap.size w wr) := by rw [HW.out]; exact below_n w n
        clear hall hw
        go_wp2
        go_ret
        exact ⟨rfl, HBQ.out⟩
  · have tne : ((a : Int) != (b : Int)) = true := by simp; omega
    have hz : decide (l = m) = false := decide_eq_false fun e => hab (by rw [← ha, ← hb, e])
    rw [hz]
    clear h1 h2 ha hb hz hab
    go_enter Tryd.func13, Tryd.ntmps13
    go_wp2
    go_ret
    exact ⟨rfl, Below.refl _ _⟩
end Go.Proofs.YtilkicbokfgjlaaDoor.Stp
