
/- A strip in memory: Part. Condition: none. -/

import Derived.Test.YtilkicbokfgjlaaStpG

namespace Go.Proofs.Ytilkicbokfgjlaa.Stp

open Go.RowKit Go.PlainAid Go.Proofs.Ytilkicbokfgjlaa.Cel

set_option linter.unusedVariables false

set_option linter.unusedSimpArgs false

/-- Behind the end nothing is added. -/
theorem part_skip (f t : Int) : ∀ (l : List RW) (s : Int) (Y : List RW), (∀ x ∈ l, 1 ≤ x.c) → t ≤ max s f → partF f t s l Y = Y
  | [], s, Y, _, _ => rfl
  | x :: l, s, Y, h, ht => by
    have hx := h x (by simp)
    rw [partF, if_neg (by omega)]
    exact part_skip f t l _ Y (fun y hy => h y (by simp [hy])) (by omega)
/-- Ahead of the beginning nothing is added. -/
theorem part_ahead (f t : Int) : ∀ (k : Nat) (l : List RW) (s : Int) (Y : List RW), (∀ x ∈ l, 1 ≤ x.c) → k ≤ l.length → (k = 0 ∨ s + sumR (l.take k) ≤ f) → partF f t s l Y = partF f t (s + sumR (l.take k)) (l.drop k) Y
  | 0, l, s, Y, _, _, _ => by simp [sumR]
  | k + 1, [], s, Y, _, hk, _ => by simp at hk
  | k + 1, x :: l, s, Y, h, hk, hs => by
    have hl : ∀ y ∈ l, 1 ≤ y.c := fun y hy => h y (by simp [hy])
    have hx := h x (by simp)
    have hm := sum_take_mono hl k
    simp only [List.take_succ_cons, sumR] at hs
    rw [partF, if_neg (by omega), part_ahead f t k l (s + x.c) Y hl (by simpa using hk) (by omega)]
    simp only [List.take_succ_cons, sumR, List.drop_succ_cons]
    congr 1
    omega
theorem part_begin {X : List RW} (h : ∀ x ∈ X, 1 ≤ x.c) (f t : Int) : partF f t 0 X [] = partF f t (sumR (X.take (kX (max f 0) 0 X))) (X.drop (kX (max f 0) 0 X)) [] := by
  have hle := kX_le (max f 0) X 0
  obtain ⟨k, hk⟩ : ∃ k, kX (max f 0) 0 X = k := ⟨_, rfl⟩
  rw [hk] at hle ⊢
  have e := part_ahead f t k X 0 [] h hle (by
    rcases Nat.eq_zero_or_pos k with h0 | h0
    · exact .inl h0
    · refine .inr ?_
      have hx : X[k - 1]? = some X[k - 1] := List.getElem?_eq_getElem (by omega)
      have hi := kX_iff (max f 0) X 0 h (k - 1) _ hx
      rw [hk, show k - 1 + 1 = k by omega] at hi
      have h1 : ¬ k ≤ k - 1 := by omega
      have h2 := mt hi.1 h1
      have h3 := sum_ge_len (X := X.take k) fun x hx => h x (List.mem_of_mem_take hx)
      rw [List.length_take, Nat.min_eq_left hle] at h3
      omega)
  rw [e]
  congr 1
  omega
theorem part_step {X : List RW} {k : Nat} {x : RW} (hx : X[k]? = some x) (f t s : Int) (Y : List RW) : partF f t s (X.drop k) Y = partF f t (s + x.c) (X.drop (k + 1)) (if max s f < min (s + x.c) t then addX Y x.i (min (s + x.c) t - max s f) else Y) := by
  have hk := (List.getElem?_eq_some_iff.1 hx).1
  have he := (List.getElem?_eq_some_iff.1 hx).2
  rw [List.drop_eq_getElem_cons hk, he]
  rfl
theorem drop_pos {X : List RW} (h : ∀ x ∈ X, 1 ≤ x.c) (k : Nat) : ∀ x ∈ X.drop k, 1 ≤ x.c := fun x hx => h x (List.mem_of_mem_drop hx)
def PaRel (X : List RW) (f t t' : Int) (F : List RW) (w : World) (t2 : Value) (i a : Value) (wr : World) : Prop :=
  ∃ (k : Nat) (av : Int) (Y : List RW), k ≤ X.length + 1 ∧ i = .int .i64 (k : Int) ∧ a = .int .i64 av ∧ OkX Y ∧ IsSt wr w.heap.size w.heap.size Y ∧ w.heap.size < wr.heap.size ∧ Below w.heap.size w wr ∧
    ((k ≤ X.length ∧ av = max (sumR (X.take k)) (max f 0) ∧ (∀ x, X[k]? = some x → max f 0 < sumR (X.take k) + x.c) ∧ partF f t (sumR (X.take k)) (X.drop k) Y = F) ∨ (t' ≤ av ∧ Y = F))
theorem pa_none {X : List RW} (h : ∀ x ∈ X, 1 ≤ x.c) {f t : Int} {k : Nat} {Y : List RW} (hk : k ≤ X.length) (hg : ∀ x, X[k]? = some x → max f 0 < sumR (X.take k) + x.c) (ha : min t (sumR X) ≤ max (sumR (X.take k)) (max f 0)) : partF f t (sumR (X.take k)) (X.drop k) Y = Y := by
  have h0 := sum_take_mono h k
  rcases Nat.lt_or_ge k X.length with hlt | hge
  · have hx : X[k]? = some X[k] := List.getElem?_eq_getElem hlt
    have h1 := hg _ hx
    have h2 := sum_take_succ hx
    have h3 := sum_take_le h (k + 1)
    have h4 := h X[k] (List.getElem_mem _)
    exact part_skip f t _ _ Y (drop_pos h k) (by omega)
  · rw [List.drop_eq_nil_of_le hge]; rfl
section

variable {w : World} {B g : Nat} {X : List RW}

set_option maxRecDepth 4000 in
set_option maxHeartbeats 3200000 in
theorem part_any (h : IsSt w B g X) (ho : OkX X) (f t : Int) (hf : -9223372036854775808 ≤ f ∧ f ≤ 9223372036854775807) (ht : -9223372036854775808 ≤ t ∧ t ≤ 9223372036854775807) :
    Calls Try.prog 10 #[.pointer (some ⟨g, 0, none⟩), .int .i64 f, .int .i64 t] w (OfPost w (partF f t 0 X [])) := by
  obtain ⟨A, c, h⟩ := h
  have HN := Lib.hid (new_any w)
  have HLE := Lib.hid (fun (W : World) (b : Below w.heap.size w W) => len_any W B g A c X (h.keep b) ho)
  have HFI := Lib.hid (fun (W : World) (b : Below w.heap.size w W) => find_any (h.keep b) ho (max f 0))
  have HC := Lib.hid (fun (W : World) (b : Below w.heap.size w W) => (h.keep b).cell)
  have HR : Hid (∀ W1, Below w.heap.size w W1 → RAt W1 A (runsF 0 X)) := fun W1 hb => (h.keep hb).rat
  have HO := Lib.hid ho
  have hst := part_begin ho.pos f t
  obtain ⟨F, hF⟩ : ∃ F, partF f t 0 X [] = F := ⟨_, rfl⟩
  rw [hF] at hst ⊢
  have hkl := kX_le (max f 0) X 0
  have hki := kX_iff (max f 0) X 0 ho.pos
  obtain ⟨k0, hk0⟩ : ∃ k, kX (max f 0) 0 X = k := ⟨_, rfl⟩
  rw [hk0] at hst HFI hkl hki
  have h00 : sumR (X.take k0) ≤ max f 0 := by
    rcases Nat.eq_zero_or_pos k0 with e | e
    · subst e; simp [sumR]; omega
    · have hx : X[k0 - 1]? = some X[k0 - 1] := List.getElem?_eq_getElem (by omega)
      have hi := hki (k0 - 1) _ hx
      rw [show k0 - 1 + 1 = k0 by omega] at hi
      have h2 := mt hi.1 (by omega)
      omega
  have HST : Hid (k0 ≤ X.length + 1 ∧ k0 ≤ X.length ∧ max f 0 = max (sumR (X.take k0)) (max f 0) ∧ (∀ x, X[k0]? = some x → max f 0 < sumR (X.take k0) + x.c) ∧ partF f t (sumR (X.take k0)) (X.drop k0) [] = F) := by
    refine ⟨by omega, hkl, by omega, fun x hx => ?_, hst.symm⟩
    have hi := (hki k0 x hx).2 (Nat.le_refl _)
    rw [sum_take_succ hx] at hi
    omega
  obtain ⟨a0, ha0⟩ : ∃ a, max f 0 = a := ⟨_, rfl⟩
  have HA0 := Lib.hid ha0
  have hsm := ho.sum
  have hs0 := ho.sum0
  obtain ⟨t', ht'⟩ : ∃ a, min t (sumR X) = a := ⟨_, rfl⟩
  have HT' := Lib.hid ht'
  rw [ha0] at HFI
  have hl := ho.len
  obtain ⟨N, hN⟩ : ∃ N, X.length = N := ⟨_, rfl⟩
  have HNL := Lib.hid hN
  rw [hN] at HC hl
  have HLN : Hid (N ≤ 1073741824) := hl
  have HSM : Hid (0 ≤ sumR X ∧ sumR X ≤ 1073741824) := ⟨hs0, hsm⟩
  have HF : Hid (-9223372036854775808 ≤ f ∧ f ≤ 9223372036854775807) := hf
  have HT : Hid (-9223372036854775808 ≤ t ∧ t ≤ 9223372036854775807) := ht
  obtain ⟨v, hv⟩ : ∃ v, sumR X = v := ⟨_, rfl⟩
  rw [hv] at HLE ht'
  have HV := Lib.hid hv
  clear h ho hst hF hkl hki hk0 h00 hsm hs0 hl hN hf ht hv
  go_enter Try.func10, Try.ntmps10
  go_wp2_with (go_at_call 5; refine HN.out.mono ?_; rintro e w1 ⟨rfl, hs, hz, hb⟩; have HS := Lib.hid hs; have HZ : Hid (w.heap.size < w1.heap.size) := hz; have HB := Lib.hid hb; have HL1 := Lib.hid (HLE.out _ hb); clear hs hz hb)
  go_wp2_with (first | (go_at_call 15; refine HL1.out.mono ?_; rintro e w2 ⟨rfl, q, rfl⟩; have hb2 := HB.out.trans ((below_n w1 q).mono HB.out.size); have HS2 := Lib.hid (HS.out.keep (below_n w1 q)); have HFX := Lib.hid (HFI.out _ hb2); have HB2 := Lib.hid hb2; have HZ2 : Hid (w.heap.size < (w1.drewN q).heap.size) := HZ.out; obtain ⟨W2, hW2⟩ : ∃ W2, w1.drewN q = W2 := ⟨_, rfl⟩; rw [hW2] at HFX HB2 HS2 HZ2; rw [hW2]; clear hW2 hb2) | (go_at_call 20; refine HFX.out.mono ?_; rintro e w3 ⟨rfl, hb3⟩; have HB3 := Lib.hid (HB2.out.trans (hb3.mono HB2.out.size)); have HS3 := Lib.hid (HS2.out.keep hb3); have HZ3 : Hid (w.heap.size < w3.heap.size) := Nat.lt_of_lt_of_le HZ2.out hb3.size; clear hb3))
  go_loopw [9, 8] (fun i a wr => PaRel X f t t' F w (.int .i64 t') i a wr) (fun i _ _ => N + 2 - (intOf i).toNat)
  case atStart =>
    obtain ⟨s1, s2, s3, s4, s5⟩ := HST.out
    exact ⟨k0, a0, [], s1, rfl, rfl, ok_nil, HS3.out, HZ3.out, HB3.out, .inl ⟨s2, by rw [← HA0.out]; exact s3, s4, s5⟩⟩
  case round =>
    obtain ⟨k, av, Y, hk, rfl, rfl, hoy, hsy, hzy, hby, hor⟩ := hrel
    rw [HNL.out] at hk
    have HOY := Lib.hid hoy
    have HSY := Lib.hid hsy
    have HZY : Hid (w.heap.size < wr.heap.size) := hzy
    have HBY := Lib.hid hby
    clear hoy hsy hzy hby HS3 HZ3 HB3
    by_cases hlt : av < t'
    · rcases hor with ⟨q1, q2, q3, q4⟩ | ⟨q1, _⟩
      rotate_left
      · omega
      have ht2 := HT'.out
      have hsum := HSM.out
      have hkN : k < X.length := by
        rcases Nat.lt_or_ge k X.length with e | e
        · exact e
        · exfalso
          rw [List.take_of_length_le e] at q2
          omega
      have hx : X[k]? = some X[k] := List.getElem?_eq_getElem hkN
      obtain ⟨x, hxe⟩ : ∃ x, X[k] = x := ⟨_, rfl⟩
      rw [hxe] at hx
      obtain ⟨ax, rfl, c1, c2⟩ := HR.out _ HBY.out k _ (runsF_get X 0 k x hx)
      have d0 := HC.out _ HBY.out
      dsimp only at c1 c2
      have hsk := sum_take_succ hx
      have hle := sum_take_le HO.out.pos (k + 1)
      have hs0 := sum_take_mono HO.out.pos k
      have hxc := HO.out.pos x (List.mem_of_getElem? hx)
      have hg := q3 x hx
      have hps := part_step hx f t (sumR (X.take k)) Y
      have hv := HV.out
      obtain ⟨en, hen⟩ : ∃ e, (0 : Int) + sumR (X.take (k + 1)) = e := ⟨_, rfl⟩
      rw [hen] at c2
      obtain ⟨mn, hmn⟩ : ∃ m, min en t' = m := ⟨_, rfl⟩
      have hal : max (sumR (X.take k)) f = av := by have := HA0.out; omega
      have hbm : min (sumR (X.take k) + x.c) t = mn := by omega
      have hif : max (sumR (X.take k)) f < min (sumR (X.take k) + x.c) t := by omega
      rw [if_pos hif, hal, hbm] at hps
      have HY2 : Hid ((k + 1 ≤ X.length ∧ mn = max (sumR (X.take (k + 1))) (max f 0) ∧ (∀ x, X[k + 1]? = some x → max f 0 < sumR (X.take (k + 1)) + x.c) ∧ partF f t (sumR (X.take (k + 1))) (X.drop (k + 1)) (addX Y x.i (mn - av)) = F) ∨ (t' ≤ mn ∧ addX Y x.i (mn - av) = F)) := by
        rw [← hsk] at hps
        by_cases he : en ≤ t'
        · refine .inl ⟨hkN, by omega, fun y hy => ?_, by rw [← hps]; exact q4⟩
          have := HO.out.pos y (List.mem_of_getElem? hy)
          omega
        · refine .inr ⟨by omega, ?_⟩
          rw [← q4, hps]
          exact (part_skip f t _ _ _ (drop_pos HO.out.pos _) (by omega)).symm
      have hwd : IntKind.i64.wrap (mn - av) = mn - av := IntWalk.i64_in _ (by omega)
      have HAD := Lib.hid (add_any HSY.out HOY.out x.i (mn - av) (by omega))
      have HOK := Lib.hid (HOY.out.add x.i (mn - av))
      have hkn : k < N := by rw [← HNL.out]; exact hkN
      have HKN : Hid (k < N) := hkn
      have h0 : (0 : Int) ≤ k := by omega
      have h1 : (k : Int) < N := by omega
      have hk1 : IntKind.i64.wrap ((k : Int) + 1) = (k : Int) + 1 := IntWalk.i64_in _ (by have := HLN.out; omega)
      have tl : decide (av < t') = true := decide_eq_true hlt
      have HCY := Lib.hid (fun W b => HC.out W b)
      clear hk hlt q1 q2 q3 q4 ht2 hsum hkN hx hxe hsk hle hs0 hxc hg hps hv hen hal hbm hif hkn
      go_wp2_with (go_at_call 7; refine HAD.out.mono ?_; rintro e w4 ⟨rfl, hs4, hc4⟩; have HS4 := Lib.hid hs4; have HC4 := Lib.hid hc4; clear hs4 hc4)
      go_roundw
      case rel => exact ⟨k + 1, mn, _, by rw [HNL.out]; have := HKN.out; omega, by go_num, rfl, HOK.out, HS4.out, Nat.lt_of_lt_of_le HZY.out HC4.out.size, HC4.out.below HBY.out HBY.out.size, HY2.out⟩
      case measure => have := HKN.out; simp [intOf]; omega
    · have hY : Y = F := by
        rcases hor with ⟨q1, q2, q3, q4⟩ | ⟨_, q2⟩
        · rw [← q4]
          refine (pa_none HO.out.pos q1 q3 ?_).symm
          have := HT'.out
          omega
        · exact q2
      rw [hY] at HSY
      have tl : decide (av < t') = false := decide_eq_false hlt
      clear hk hor hlt hY
      go_wp2
      go_ret
      exact ⟨rfl, HSY.out, HZY.out, HBY.out⟩
end

end Go.Proofs.Ytilkicbokfgjlaa.Stp
