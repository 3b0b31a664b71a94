
/- A row of acts of the call's own: one act is merged into a sorted part (slices.symMergeCmpFunc). Condition: at most a million acts. A row of acts of the call's own: one act behind a sorted part is merged into it (slices.symMergeCmpFunc). Condition: at most a million acts. -/

import Derived.Test.YtjdgpbjjhgfikaaSrtB

namespace Go.Proofs.Ytjdgpbjjhgfikaa.Srt

open Go.RowKit Go.PlainAid

open Go.Proofs.Ytjdgpbjjhgfikaa.Cel (Two two_below)

set_option linter.unusedVariables false

set_option linter.unusedSimpArgs false

theorem half_facts {u v : Nat} (h : u + v ≤ 4000000) : IntKind.i64.wrap ((u : Int) + (v : Int)) = ((u + v : Nat) : Int) ∧ IntKind.u64.wrap (((u + v : Nat) : Nat) : Int) = ((u + v : Nat) : Int) := by
  constructor
  · rw [Int.natCast_add]; exact IntWalk.i64_in _ (by omega)
  · rw [IntKind.wrap_u64]; omega
/-- Where an act belongs: below stand those that are ahead of it. -/
def LfRel (L Y : List A3) (x : A3) (g m : Nat) (tl : List Value) (w : World) (i j : Value) (W : World) : Prop :=
  ∃ (p q : Nat), p ≤ q ∧ q ≤ m + Y.length ∧ m ≤ p ∧ i = .int .i64 (p : Int) ∧ j = .int .i64 (q : Int) ∧ (∀ y, m < p → Y[p - 1 - m]? = some y → lt y x) ∧ (∀ y, Y[q - m]? = some y → ¬ lt y x) ∧ Row g tl L W ∧ Two g none w W
def LsRel (P Z R : List A3) (x : A3) (g : Nat) (tl : List Value) (w : World) (i : Value) (W : World) : Prop :=
  ∃ (k : Nat) (Z1 Z2 : List A3), Z1 ++ Z2 = Z ∧ k = P.length + Z1.length ∧ i = .int .i64 (k : Int) ∧ Row g tl (P ++ Z1 ++ x :: Z2 ++ R) W ∧ Two g none w W
section
attribute [-go_sem] storeVar loadVar
set_option maxRecDepth 8000 in
set_option maxHeartbeats 6400000 in
theorem sym_left (P Y C : List A3) (x : A3) (g n cap a m b : Nat) (tl : List Value) (w : World) (hr : Row g tl (P ++ [x] ++ Y ++ C) w) (hY : Srt Y) (hY0 : 0 < Y.length) (ha : P.length = a) (hm : a + 1 = m) (hb : m + Y.length = b) (hn : (P ++ [x] ++ Y ++ C).length = n) (hc : n ≤ cap) (hl : n ≤ 1000000) :
    Calls Try.prog 91 #[.slice (some ⟨g, 0, none⟩) n cap, .int .i64 (a : Int), .int .i64 (m : Int), .int .i64 (b : Int), .func (.func 68) #[] #[]] w fun e w' => e = .returned (.tuple #[]) ∧ SortPost P (x :: Y) C g tl w w' := by
  obtain ⟨L, hL⟩ : ∃ L, P ++ [x] ++ Y ++ C = L := ⟨_, rfl⟩
  rw [hL] at hr hn
  have hlen : m + Y.length + C.length = n := by rw [← hn, ← hL]; simp; omega
  have wa : IntKind.i64.wrap ((m : Int) - (a : Int)) = 1 := by rw [show (m : Int) - a = 1 by omega]; exact IntWalk.i64_in _ (by omega)
  have hga : L[a]? = some x := by rw [← hL]; have e : P ++ [x] ++ Y ++ C = P ++ x :: (Y ++ C) := by simp
                                  rw [e]; exact get_mid ha.symm
  have hgy : ∀ k y, Y[k]? = some y → L[m + k]? = some y := fun k y hy => by
    have hk := (List.getElem?_eq_some_iff.1 hy).1
    rw [← hL, List.append_assoc, List.getElem?_append_right (by simp; omega), List.getElem?_append_left (by simp; omega), ← hy]
    congr 1; simp; omega
  have HST : Hid (LfRel L Y x g m tl w (.int .i64 (m : Int)) (.int .i64 (b : Int)) w) := ⟨m, b, by omega, by omega, Nat.le_refl _, rfl, rfl, fun y h _ => by omega, fun y h => (by rw [List.getElem?_eq_none (by omega)] at h; cases h), hr, Two.refl _ _ _⟩
  have HLN := Lib.hid hlen
  have HLL : Hid (P ++ [x] ++ Y ++ C = L) := hL
  have HA := Lib.hid ha
  have HM : Hid (a + 1 = m) := hm
  have HB : Hid (m + Y.length = b) := hb
  have HL : Hid (n ≤ 1000000) := hl
  have HGA := Lib.hid hga
  have HGY := Lib.hid hgy
  have HNN : Hid (L.length = n) := hn
  have HSY := Lib.hid hY
  have HAN : Hid (a < n) := by show a < n; omega
  clear hr hL ha hm hb hn hl hlen hga hgy hY hY0
  go_enter Try.func91, Try.ntmps91
  go_wp2_with fail
  go_loopw [10, 11] (fun i j W => LfRel L Y x g m tl w i j W) (fun i j _ => (intOf j).toNat - (intOf i).toNat)
  case atStart => exact HST.out
  case round =>
    rename World => W
    clear HST wa
    obtain ⟨p, q, hpq, hqb, hmp, rfl, rfl, hlo, hhi, hrow, htw⟩ := hrel
    have HROW := Lib.hid hrow
    have HTW := Lib.hid htw
    have HLO := Lib.hid hlo
    have HHI := Lib.hid hhi
    clear hrow htw hlo hhi
    by_cases hlt : p < q
    · have tpq : decide ((p : Int) < (q : Int)) = true := decide_eq_true (by omega)
      have tpqn : decide (p < q) = true := decide_eq_true hlt
      have hql := HLN.out
      have hnl := HL.out
      obtain ⟨hw1, hw2⟩ := half_facts (u := p) (v := q) (by omega)
      obtain ⟨pq, hpqs⟩ : ∃ pq, p + q = pq := ⟨_, rfl⟩
      rw [hpqs] at hw1 hw2
      obtain ⟨h, hh⟩ : ∃ h, pq / 2 = h := ⟨_, rfl⟩
      have hhI : ((pq : Int) / 2) = (h : Int) := by omega
      go_upto_region 5 with fail
      try rw [hhI]
      obtain ⟨y, hy⟩ : ∃ y, Y[h - m]? = some y := ⟨_, List.getElem?_eq_getElem (by omega)⟩
      have hgh : L[h]? = some y := by have := HGY.out (h - m) y hy; rw [show m + (h - m) = h by omega] at this; exact this
      have hrd : Row g tl L W.drew := HROW.out
      have l0 := hrd.load hgh
      have l1 := hrd.load HGA.out
      have bh0 : (0 : Int) ≤ h := by omega
      have bh1 : (h : Int) < n := by omega
      have ba0 : (0 : Int) ≤ a := by omega
      have ba1 : (a : Int) < n := by have := HAN.out; omega
      have HCM : Hid (∀ W, Calls Try.prog 68 #[.agg #[.int .i64 y.s, .int .i64 y.p, .int .i64 y.a], .agg #[.int .i64 x.s, .int .i64 x.p, .int .i64 x.a]] W fun e w' => e = .returned (.int .i64 (cmpA y x)) ∧ Below W.heap.size W w') := fun W => compare_any y x W
      have HCL : Hid (cmpA y x < 0 ↔ lt y x) := cmp_less y x
      obtain ⟨c, hcc⟩ : ∃ c, cmpA y x = c := ⟨_, rfl⟩
      rw [hcc] at HCM HCL
      have HGH := Lib.hid hgh
      have HYY := Lib.hid hy
      have HRD := Lib.hid hrd
      have HPH : Hid (p ≤ h ∧ h < q ∧ m ≤ p ∧ q ≤ m + Y.length ∧ h < n) := by show _ ∧ _; omega
      have wh : IntKind.i64.wrap ((h : Int) + 1) = ((h + 1 : Nat) : Int) := by rw [Int.natCast_add]; exact IntWalk.i64_in _ (by omega)
      clear hcc hgh hy hrd hh hhI hpqs hw1 hw2 hql hnl hlt hpq hqb hmp
      go_region_held3 (fun wx => Sem.run Try.prog (loadVar 84 ⟨g, h * 3, none⟩) wx = .ok (.agg #[.int .i64 y.s, .int .i64 y.p, .int .i64 y.a]) wx ∧ Sem.run Try.prog (loadVar 84 ⟨g, a * 3, none⟩) wx = .ok (.agg #[.int .i64 x.s, .int .i64 x.p, .int .i64 x.a]) wx)
        (first | exact HKP.out | (refine ⟨?_, ?_⟩ <;> assumption) | (go_keep; done))
        (first
          | (go_at_call 68; refine (HCM.out _).mono ?_; rintro e V2 ⟨rfl, hb⟩; have hr2 : Row g tl L V2 := HRD.out.keep hb; have HR2 := Lib.hid hr2; have HT2 : Hid (Two g none w V2) := (HTW.out.trans (two_drew g W)).trans (two_below hb); have HKP : Hid (Sem.run Try.prog (loadVar 84 ⟨g, h * 3, none⟩) V2 = .ok (.agg #[.int .i64 y.s, .int .i64 y.p, .int .i64 y.a]) V2 ∧ Sem.run Try.prog (loadVar 84 ⟨g, a * 3, none⟩) V2 = .ok (.agg #[.int .i64 x.s, .int .i64 x.p, .int .i64 x.a]) V2) := ⟨hr2.load HGH.out, hr2.load HGA.out⟩; clear hb hr2))
      by_cases hc0 : c < 0
      · have tc : decide (c < 0) = true := decide_eq_true hc0
        have HNX : Hid (LfRel L Y x g m tl w (.int .i64 ((h + 1 : Nat) : Int)) (.int .i64 (q : Int)) V2) := ⟨h + 1, q, HPH.out.2.1, HPH.out.2.2.2.1, by have := HPH.out; omega, rfl, rfl, fun z _ hz => by
          rw [show h + 1 - 1 - m = h - m by omega, HYY.out] at hz
          obtain rfl := Option.some.inj hz
          exact HCL.out.1 hc0, HHI.out, HR2.out, HT2.out⟩
        clear HKP HR2 HCM HCL HRD HT2 HTW
        go_wp2
        go_roundw
        case rel => exact HNX.out
        case measure => have := HPH.out; simp [intOf]; omega
      · have tc : decide (c < 0) = false := decide_eq_false hc0
        have tc2 : (0 : Int) ≤ c := by omega
        have HNX : Hid (LfRel L Y x g m tl w (.int .i64 (p : Int)) (.int .i64 (h : Int)) V2) := ⟨p, h, HPH.out.1, by have := HPH.out; omega, HPH.out.2.2.1, rfl, rfl, HLO.out, fun z hz => by
          rw [HYY.out] at hz
          obtain rfl := Option.some.inj hz
          exact fun hl => hc0 (HCL.out.2 hl), HR2.out, HT2.out⟩
        clear HKP HR2 HCM HCL HRD HT2 HTW
        go_wp2
        go_roundw
        case rel => exact HNX.out
        case measure => have := HPH.out; simp [intOf]; omega
    · obtain rfl : p = q := by omega
      have tpq : decide ((p : Int) < (p : Int)) = false := decide_eq_false (by omega)
      obtain ⟨t, ht⟩ : ∃ t, p - m = t := ⟨_, rfl⟩
      obtain ⟨R, hR⟩ : ∃ R, Y.drop t ++ C = R := ⟨_, rfl⟩
      have hYZ : Y.take t ++ Y.drop t = Y := List.take_append_drop _ _
      have hnl := HNN.out
      have hll := HLL.out
      have hla := HA.out
      have hlm := HM.out
      have hln := HLN.out
      have HI0 : Hid (LsRel P (Y.take t) R x g tl w (.int .i64 (a : Int)) W) := ⟨a, [], Y.take t, rfl, by simp [hla], rfl, by
        have h1 : P ++ [] ++ x :: (Y.take t) ++ R = L := by rw [← hll, ← hR]; simp; rw [← List.append_assoc (Y.take t), hYZ]
        rw [h1]; exact HROW.out, HTW.out⟩
      have HEND : Hid (∀ V, Row g tl (P ++ Y.take t ++ x :: [] ++ R) V → Two g none w V → SortPost P (x :: Y) C g tl w V) := fun V h1 h2 => by
        refine ⟨⟨Y.take t ++ x :: Y.drop t, ?_, by rw [← hR] at h1; simpa using h1⟩, h2⟩
        have hs := HSY.out
        rw [← hYZ] at hs
        have s1 : Srt (Y.take t) := (List.pairwise_append.1 hs).1
        have s2 : Srt (Y.drop t) := (List.pairwise_append.1 hs).2.1
        have sx : Srt [x] := List.pairwise_singleton _ _
        have hlt : ∀ y ∈ Y.take t, ∀ z ∈ [x], lt y z := ends_lt s1 sx (fun u v hu hv => by
          simp at hv
          subst hv
          have h0 : 0 < t := by
            cases t with
            | zero => simp at hu
            | succ t => omega
          refine HLO.out u (by omega) ?_
          rw [List.getLast?_eq_getElem?, List.length_take, Nat.min_eq_left (by omega), List.getElem?_take, if_pos (by omega)] at hu
          rw [show p - 1 - m = t - 1 by omega]; exact hu)
        have hle : ∀ y ∈ [x], ∀ z ∈ Y.drop t, le y z := ends_le sx s2 (fun u v hu hv => by
          simp at hu
          subst hu
          rw [List.head?_drop] at hv
          exact HHI.out v (by rw [ht]; exact hv))
        have m' := merge (P1 := []) (Q1 := [x]) (P2 := Y.take t) (Q2 := Y.drop t) (M1 := Y.take t) (M2 := x :: Y.drop t) (by simpa using sx) hs (fun _ h => by simp at h) (fun y hy z hz => hlt y hy z hz) (by simpa using Stab.refl s1) (Stab.refl (List.pairwise_cons.2 ⟨fun z hz => hle x (by simp) z hz, s2⟩))
        have e : ([] ++ [x]) ++ (Y.take t ++ Y.drop t) = x :: Y := by rw [hYZ]; rfl
        rw [e] at m'
        exact m'
      obtain ⟨p1, hp1⟩ : ∃ p1, p - 1 = p1 := ⟨_, rfl⟩
      have wp : IntKind.i64.wrap ((p : Int) - 1) = (p1 : Int) := by rw [show (p : Int) - 1 = (p1 : Int) by omega]; exact IntWalk.i64_in _ (by have := HL.out; omega)
      have HPZ : Hid (a + (Y.take t).length = p1 ∧ P.length = a ∧ P.length + (Y.take t).length + 1 + R.length = n) := by
        refine ⟨?_, hla, ?_⟩
        · rw [List.length_take, Nat.min_eq_left (by omega)]; omega
        · rw [← hR, List.length_append, List.length_take, List.length_drop, Nat.min_eq_left (by omega)]; omega
      have hpl : (p : Int) ≤ 1000000 := by have := HL.out; omega
      have hp0 : (1 : Int) ≤ p := by omega
      clear hlt hpq hqb hmp ht hR hYZ hnl hll hla hlm hln hp1 HROW HTW HLO HHI
      go_wp2_with fail
      go_loopw [13] (fun i W => LsRel P (Y.take t) R x g tl w i W) (fun i _ => (n + 2) - (intOf i).toNat)
      case atStart => exact HI0.out
      case round =>
        rename World => V
        clear HI0
        obtain ⟨k, Z1, Z2, hZ, hk, rfl, hrow, htw⟩ := hrel
        have HROW := Lib.hid hrow
        have HTW := Lib.hid htw
        clear hrow htw
        cases Z2 with
        | nil =>
          have hZ' : Z1 = Y.take t := by simpa using hZ
          subst hZ'
          have tk : decide ((k : Int) < (p1 : Int)) = false := decide_eq_false (by have := HPZ.out; omega)
          have tkn : decide (k < p1) = false := decide_eq_false (by have := HPZ.out; omega)
          have HF := Lib.hid (HEND.out V HROW.out HTW.out)
          clear hZ hk HROW HTW
          go_wp2
          simp [bodyPost, results, Try.results91, go_sem]
          exact HF.out
        | cons z Z3 =>
          have hZl : Z1.length + (Z3.length + 1) = (Y.take t).length := by rw [← hZ]; simp
          have hpz := HPZ.out
          obtain ⟨k1, hk1⟩ : ∃ k1, k + 1 = k1 := ⟨_, rfl⟩
          have tk : decide ((k : Int) < (p1 : Int)) = true := decide_eq_true (by omega)
          have tkn : decide (k < p1) = true := decide_eq_true (by omega)
          obtain ⟨K, hK⟩ : ∃ K, P ++ Z1 ++ x :: z :: Z3 ++ R = K := ⟨_, rfl⟩
          have e1 : K = (P ++ Z1) ++ x :: ([] ++ z :: (Z3 ++ R)) := by rw [← hK]; simp
          have hKl : K.length = n := by rw [← hK]; simp; omega
          have hgk : K[k]? = some x := by rw [e1]; exact get_mid (by simp; omega)
          have hgk1 : K[k1]? = some z := by
            have e2 : K = ((P ++ Z1) ++ [x]) ++ z :: (Z3 ++ R) := by rw [← hK]; simp
            rw [e2]; exact get_mid (by simp; omega)
          have hrd : Row g tl K V.drew := by rw [← hK]; exact HROW.out
          have l0 := hrd.load hgk
          have l1 := hrd.load hgk1
          have s0 := hrd.store (i := k) (by omega) z
          have hr1 : Row g tl (K.set k z) (V.drew.setRow g (flatA (K.set k z) ++ tl).toArray) := hrd.set _
          have s1 := hr1.store (i := k1) (by rw [List.length_set]; omega) x
          have hr3 : Row g tl ((K.set k z).set k1 x) ((V.drew.setRow g (flatA (K.set k z) ++ tl).toArray).setRow g (flatA ((K.set k z).set k1 x) ++ tl).toArray) := hr1.set _
          have hsw : (K.set k z).set k1 x = P ++ (Z1 ++ [z]) ++ x :: Z3 ++ R := by
            rw [e1, swap_at (by simp; omega) (by simp; omega)]; simp
          rw [hsw] at hr3 s1
          obtain ⟨V3, hV3⟩ : ∃ V3, V.drew.setRow g (flatA (K.set k z) ++ tl).toArray = V3 := ⟨_, rfl⟩
          have ht3 : Two g none w V3 := by rw [← hV3]; exact (HTW.out.trans (two_drew g V)).trans (two_row g _ _)
          rw [hV3] at s0 s1 hr3
          obtain ⟨V4, hV4⟩ : ∃ V4, V3.setRow g (flatA (P ++ (Z1 ++ [z]) ++ x :: Z3 ++ R) ++ tl).toArray = V4 := ⟨_, rfl⟩
          have ht4 : Two g none w V4 := by rw [← hV4]; exact ht3.trans (two_row g _ _)
          rw [hV4] at s1 hr3
          have HNX : Hid (LsRel P (Y.take t) R x g tl w (.int .i64 (k1 : Int)) V4) := ⟨k1, Z1 ++ [z], Z3, by rw [← hZ]; simp, by simp; omega, rfl, hr3, ht4⟩
          have wk : IntKind.i64.wrap ((k : Int) + 1) = (k1 : Int) := by rw [show (k : Int) + 1 = (k1 : Int) by omega]; exact IntWalk.i64_in _ (by have := HL.out; omega)
          have bk0 : (0 : Int) ≤ k := by omega
          have bk1 : (k : Int) < n := by omega
          have bl0 : (0 : Int) ≤ k1 := by omega
          have bl1 : (k1 : Int) < n := by omega
          have HKK : Hid (k < k1 ∧ k1 < n) := by show _ ∧ _; omega
          clear hZl hpz hk1 hK e1 hKl hgk hgk1 hrd hr1 hr3 hsw hV3 ht3 hV4 ht4 hZ hk HROW HTW
          go_wp2_with fail
          go_region
          go_wp2
          go_roundw
          case rel => exact HNX.out
          case measure => have := HKK.out; simp [intOf]; omega
end

end Go.Proofs.Ytjdgpbjjhgfikaa.Srt

namespace Go.Proofs.Ytjdgpbjjhgfikaa.Srt

open Go.RowKit Go.PlainAid

open Go.Proofs.Ytjdgpbjjhgfikaa.Cel (Two two_below)

set_option linter.unusedVariables false

set_option linter.unusedSimpArgs false

def RgRel (L X : List A3) (y : A3) (g a : Nat) (tl : List Value) (w : World) (i j : Value) (W : World) : Prop :=
  ∃ (p q : Nat), p ≤ q ∧ q ≤ a + X.length ∧ a ≤ p ∧ i = .int .i64 (p : Int) ∧ j = .int .i64 (q : Int) ∧ (∀ z, a < p → X[p - 1 - a]? = some z → ¬ lt y z) ∧ (∀ z, X[q - a]? = some z → lt y z) ∧ Row g tl L W ∧ Two g none w W
def RsRel (P Z R : List A3) (y : A3) (g : Nat) (tl : List Value) (w : World) (i : Value) (W : World) : Prop :=
  ∃ (k : Nat) (Z1 Z2 : List A3), Z1 ++ Z2 = Z ∧ k = P.length + Z1.length ∧ i = .int .i64 (k : Int) ∧ Row g tl (P ++ Z1 ++ y :: Z2 ++ R) W ∧ Two g none w W
section
attribute [-go_sem] storeVar loadVar
set_option maxRecDepth 8000 in
set_option maxHeartbeats 6400000 in
theorem sym_right (P X C : List A3) (y : A3) (g n cap a m b : Nat) (tl : List Value) (w : World) (hr : Row g tl (P ++ X ++ [y] ++ C) w) (hX : Srt X) (hX0 : 1 < X.length) (ha : P.length = a) (hm : a + X.length = m) (hb : m + 1 = b) (hn : (P ++ X ++ [y] ++ C).length = n) (hc : n ≤ cap) (hl : n ≤ 1000000) :
    Calls Try.prog 91 #[.slice (some ⟨g, 0, none⟩) n cap, .int .i64 (a : Int), .int .i64 (m : Int), .int .i64 (b : Int), .func (.func 68) #[] #[]] w fun e w' => e = .returned (.tuple #[]) ∧ SortPost P (X ++ [y]) C g tl w w' := by
  obtain ⟨L, hL⟩ : ∃ L, P ++ X ++ [y] ++ C = L := ⟨_, rfl⟩
  rw [hL] at hr hn
  have hlen : m + 1 + C.length = n := by rw [← hn, ← hL]; simp; omega
  obtain ⟨xl, hxl⟩ : ∃ xl, X.length = xl := ⟨_, rfl⟩
  have wa : IntKind.i64.wrap ((m : Int) - (a : Int)) = (xl : Int) := by rw [show (m : Int) - a = (xl : Int) by omega]; exact IntWalk.i64_in _ (by omega)
  have ta : ((xl : Int) == 1) = false := by simp; omega
  have tan : (xl == 1) = false := by simp; omega
  have wb : IntKind.i64.wrap ((b : Int) - (m : Int)) = 1 := by rw [show (b : Int) - m = 1 by omega]; exact IntWalk.i64_in _ (by omega)
  have hgm : L[m]? = some y := by
    rw [← hL]
    have e : P ++ X ++ [y] ++ C = (P ++ X) ++ y :: C := by simp
    rw [e]; exact get_mid (by simp; omega)
  have hgx : ∀ k z, X[k]? = some z → L[a + k]? = some z := fun k z hz => by
    have hk := (List.getElem?_eq_some_iff.1 hz).1
    rw [← hL, List.append_assoc, List.append_assoc, List.getElem?_append_right (by omega), List.getElem?_append_left (by omega), ← hz]
    congr 1; omega
  have HST : Hid (RgRel L X y g a tl w (.int .i64 (a : Int)) (.int .i64 (m : Int)) w) := ⟨a, m, by omega, by omega, Nat.le_refl _, rfl, rfl, fun z h _ => by omega, fun z h => (by rw [List.getElem?_eq_none (by omega)] at h; cases h), hr, Two.refl _ _ _⟩
  have HLN := Lib.hid hlen
  have HLL : Hid (P ++ X ++ [y] ++ C = L) := hL
  have HA := Lib.hid ha
  have HM : Hid (a + X.length = m) := hm
  have HL : Hid (n ≤ 1000000) := hl
  have HGM := Lib.hid hgm
  have HGX := Lib.hid hgx
  have HNN : Hid (L.length = n) := hn
  have HSX := Lib.hid hX
  have HMN : Hid (m < n) := by show m < n; omega
  obtain ⟨XY, hXY⟩ : ∃ XY, X ++ [y] = XY := ⟨_, rfl⟩
  rw [hXY]
  have HXY := Lib.hid hXY
  clear hr hL ha hm hb hn hl hlen hgm hgx hX hX0 hxl hXY
  go_enter Try.func91, Try.ntmps91
  go_wp2_with fail
  go_loopw [14, 15] (fun i j W => RgRel L X y g a tl w i j W) (fun i j _ => (intOf j).toNat - (intOf i).toNat)
  case atStart => exact HST.out
  case round =>
    rename World => W
    clear HST wa wb ta tan
    obtain ⟨p, q, hpq, hqb, hmp, rfl, rfl, hlo, hhi, hrow, htw⟩ := hrel
    have HROW := Lib.hid hrow
    have HTW := Lib.hid htw
    have HLO := Lib.hid hlo
    have HHI := Lib.hid hhi
    clear hrow htw hlo hhi
    by_cases hlt : p < q
    · have tpq : decide ((p : Int) < (q : Int)) = true := decide_eq_true (by omega)
      have tpqn : decide (p < q) = true := decide_eq_true hlt
      have hql := HLN.out
      have hnl := HL.out
      have hml := HM.out
      obtain ⟨hw1, hw2⟩ := half_facts (u := p) (v := q) (by omega)
      obtain ⟨pq, hpqs⟩ : ∃ pq, p + q = pq := ⟨_, rfl⟩
      rw [hpqs] at hw1 hw2
      obtain ⟨h, hh⟩ : ∃ h, pq / 2 = h := ⟨_, rfl⟩
      have hhI : ((pq : Int) / 2) = (h : Int) := by omega
      go_upto_region 17 with fail
      try rw [hhI]
      obtain ⟨z, hz⟩ : ∃ z, X[h - a]? = some z := ⟨_, List.getElem?_eq_getElem (by omega)⟩
      have hgh : L[h]? = some z := by have := HGX.out (h - a) z hz; rw [show a + (h - a) = h by omega] at this; exact this
      have hrd : Row g tl L W.drew := HROW.out
      have l0 := hrd.load hgh
      have l1 := hrd.load HGM.out
      have bh0 : (0 : Int) ≤ h := by omega
      have bh1 : (h : Int) < n := by omega
      have ba0 : (0 : Int) ≤ m := by omega
      have ba1 : (m : Int) < n := by have := HMN.out; omega
      have HCM : Hid (∀ W, Calls Try.prog 68 #[.agg #[.int .i64 y.s, .int .i64 y.p, .int .i64 y.a], .agg #[.int .i64 z.s, .int .i64 z.p, .int .i64 z.a]] W fun e w' => e = .returned (.int .i64 (cmpA y z)) ∧ Below W.heap.size W w') := fun W => compare_any y z W
      have HCL : Hid (cmpA y z < 0 ↔ lt y z) := cmp_less y z
      obtain ⟨c, hcc⟩ : ∃ c, cmpA y z = c := ⟨_, rfl⟩
      rw [hcc] at HCM HCL
      have HGH := Lib.hid hgh
      have HZZ := Lib.hid hz
      have HRD := Lib.hid hrd
      have HPH : Hid (p ≤ h ∧ h < q ∧ a ≤ p ∧ q ≤ a + X.length ∧ h < n) := by show _ ∧ _; omega
      have wh : IntKind.i64.wrap ((h : Int) + 1) = ((h + 1 : Nat) : Int) := by rw [Int.natCast_add]; exact IntWalk.i64_in _ (by omega)
      clear hcc hgh hz hrd hh hhI hpqs hw1 hw2 hql hnl hml hlt hpq hqb hmp
      go_region_held3 (fun wx => Sem.run Try.prog (loadVar 84 ⟨g, h * 3, none⟩) wx = .ok (.agg #[.int .i64 z.s, .int .i64 z.p, .int .i64 z.a]) wx ∧ Sem.run Try.prog (loadVar 84 ⟨g, m * 3, none⟩) wx = .ok (.agg #[.int .i64 y.s, .int .i64 y.p, .int .i64 y.a]) wx)
        (first | exact HKP.out | (refine ⟨?_, ?_⟩ <;> assumption) | (go_keep; done))
        (first
          | (go_at_call 68; refine (HCM.out _).mono ?_; rintro e V2 ⟨rfl, hb⟩; have hr2 : Row g tl L V2 := HRD.out.keep hb; have HR2 := Lib.hid hr2; have HT2 : Hid (Two g none w V2) := (HTW.out.trans (two_drew g W)).trans (two_below hb); have HKP : Hid (Sem.run Try.prog (loadVar 84 ⟨g, h * 3, none⟩) V2 = .ok (.agg #[.int .i64 z.s, .int .i64 z.p, .int .i64 z.a]) V2 ∧ Sem.run Try.prog (loadVar 84 ⟨g, m * 3, none⟩) V2 = .ok (.agg #[.int .i64 y.s, .int .i64 y.p, .int .i64 y.a]) V2) := ⟨hr2.load HGH.out, hr2.load HGM.out⟩; clear hb hr2))
      obtain ⟨bc, hbc⟩ : ∃ bc, decide (c < 0) = bc := ⟨_, rfl⟩
      rw [hbc]
      cases bc with
      | true =>
        have hc0 : c < 0 := of_decide_eq_true hbc
        clear hbc
        have HNX : Hid (RgRel L X y g a tl w (.int .i64 (p : Int)) (.int .i64 (h : Int)) V2) := ⟨p, h, HPH.out.1, by have := HPH.out; omega, HPH.out.2.2.1, rfl, rfl, HLO.out, fun u hu => by
          rw [HZZ.out] at hu
          obtain rfl := Option.some.inj hu
          exact HCL.out.1 hc0, HR2.out, HT2.out⟩
        clear HKP HR2 HCM HCL HRD HT2 HTW hc0
        go_wp2
        go_roundw
        case rel => exact HNX.out
        case measure => have := HPH.out; simp [intOf]; omega
      | false =>
        have hc0 : ¬ c < 0 := of_decide_eq_false hbc
        clear hbc
        have HNX : Hid (RgRel L X y g a tl w (.int .i64 ((h + 1 : Nat) : Int)) (.int .i64 (q : Int)) V2) := ⟨h + 1, q, HPH.out.2.1, HPH.out.2.2.2.1, by have := HPH.out; omega, rfl, rfl, fun u _ hu => by
          rw [show h + 1 - 1 - a = h - a by omega, HZZ.out] at hu
          obtain rfl := Option.some.inj hu
          exact fun hl => hc0 (HCL.out.2 hl), HHI.out, HR2.out, HT2.out⟩
        clear HKP HR2 HCM HCL HRD HT2 HTW hc0
        go_wp2
        go_roundw
        case rel => exact HNX.out
        case measure => have := HPH.out; simp [intOf]; omega
    · obtain rfl : p = q := by omega
      have tpq : decide ((p : Int) < (p : Int)) = false := decide_eq_false (by omega)
      obtain ⟨t, ht⟩ : ∃ t, p - a = t := ⟨_, rfl⟩
      have hXZ : X.take t ++ X.drop t = X := List.take_append_drop _ _
      have hnl := HNN.out
      have hll := HLL.out
      have hla := HA.out
      have hlm := HM.out
      have hln := HLN.out
      obtain ⟨P2, hP2⟩ : ∃ P2, P ++ X.take t = P2 := ⟨_, rfl⟩
      have hPl : P2.length = p := by rw [← hP2, List.length_append, List.length_take, Nat.min_eq_left (by omega)]; omega
      have HI0 : Hid (RsRel P2 (X.drop t) C y g tl w (.int .i64 (m : Int)) W) := ⟨m, X.drop t, [], List.append_nil _, by rw [hPl, List.length_drop]; omega, rfl, by
        have h1 : P2 ++ X.drop t ++ y :: [] ++ C = L := by rw [← hll, ← hP2, List.append_assoc P, hXZ]
        rw [h1]; exact HROW.out, HTW.out⟩
      have HEND : Hid (∀ V, Row g tl (P2 ++ [] ++ y :: (X.drop t) ++ C) V → Two g none w V → SortPost P XY C g tl w V) := fun V h1 h2 => by
        refine ⟨⟨X.take t ++ y :: X.drop t, ?_, by rw [← hP2] at h1; simpa using h1⟩, h2⟩
        rw [← HXY.out]
        have hs := HSX.out
        rw [← hXZ] at hs
        have s1 : Srt (X.take t) := (List.pairwise_append.1 hs).1
        have s2 : Srt (X.drop t) := (List.pairwise_append.1 hs).2.1
        have sy : Srt [y] := List.pairwise_singleton _ _
        refine ins_stab (Stab.refl HSX.out) hXZ ?_ ?_
        · have h := ends_le s1 sy (fun u v hu hv => by
            simp at hv
            subst hv
            have h0 : 0 < t := by
              cases t with
              | zero => simp at hu
              | succ t => omega
            refine HLO.out u (by omega) ?_
            rw [List.getLast?_eq_getElem?, List.length_take, Nat.min_eq_left (by omega), List.getElem?_take, if_pos (by omega)] at hu
            rw [show p - 1 - a = t - 1 by omega]; exact hu)
          exact fun z hz => h z hz y (by simp)
        · have h := ends_lt sy s2 (fun u v hu hv => by
            simp at hu
            subst hu
            rw [List.head?_drop] at hv
            exact HHI.out v (by rw [ht]; exact hv))
          exact fun z hz => h y (by simp) z hz
      have HPZ : Hid (P2.length = p ∧ p + (X.drop t).length + 1 + C.length = n ∧ p ≤ m) := by
        refine ⟨hPl, ?_, by omega⟩
        rw [List.length_drop]; omega
      have HFU := Lib.hid hlm
      clear hlt hpq hqb hmp ht hXZ hnl hll hla hlm hln hP2 hPl HROW HTW HLO HHI
      go_wp2_with fail
      go_loopw [17] (fun i W => RsRel P2 (X.drop t) C y g tl w i W) (fun i _ => (intOf i).toNat)
      case atStart => exact HI0.out
      case round =>
        rename World => V
        clear HI0
        obtain ⟨k, Z1, Z2, hZ, hk, rfl, hrow, htw⟩ := hrel
        have HROW := Lib.hid hrow
        have HTW := Lib.hid htw
        clear hrow htw
        rcases List.eq_nil_or_concat Z1 with rfl | ⟨E, z, rfl⟩
        · have hZ' : Z2 = X.drop t := by simpa using hZ
          subst hZ'
          have tk : decide ((p : Int) < (k : Int)) = false := decide_eq_false (by have := HPZ.out; simp at hk; omega)
          have tkn : decide (p < k) = false := decide_eq_false (by have := HPZ.out; simp at hk; omega)
          have HF := Lib.hid (HEND.out V HROW.out HTW.out)
          clear hZ hk HROW HTW
          go_wp2
          simp [bodyPost, results, Try.results91, go_sem]
          exact HF.out
        · rw [List.concat_eq_append] at hZ hk HROW
          have hZl : E.length + 1 + Z2.length = (X.drop t).length := by rw [← hZ]; simp; omega
          have hpz := HPZ.out
          have hkl : k = P2.length + E.length + 1 := by simp at hk; omega
          obtain ⟨k1, hk1⟩ : ∃ k1, P2.length + E.length = k1 := ⟨_, rfl⟩
          have tk : decide ((p : Int) < (k : Int)) = true := decide_eq_true (by omega)
          have tkn : decide (p < k) = true := decide_eq_true (by omega)
          obtain ⟨K, hK⟩ : ∃ K, P2 ++ (E ++ [z]) ++ y :: Z2 ++ C = K := ⟨_, rfl⟩
          have e1 : K = (P2 ++ E) ++ z :: ([] ++ y :: (Z2 ++ C)) := by rw [← hK]; simp
          have hKl : K.length = n := by rw [← hK]; simp; omega
          have hgk1 : K[k1]? = some z := by rw [e1]; exact get_mid (by simp; omega)
          have hgk : K[k]? = some y := by
            have e2 : K = ((P2 ++ E) ++ [z]) ++ y :: (Z2 ++ C) := by rw [← hK]; simp
            rw [e2]; exact get_mid (by simp; omega)
          have hrd : Row g tl K V.drew := by rw [← hK]; exact HROW.out
          have l0 := hrd.load hgk
          have l1 := hrd.load hgk1
          have s0 := hrd.store (i := k) (by omega) z
          have hr1 : Row g tl (K.set k z) (V.drew.setRow g (flatA (K.set k z) ++ tl).toArray) := hrd.set _
          have s1 := hr1.store (i := k1) (by rw [List.length_set]; omega) y
          have hr3 : Row g tl ((K.set k z).set k1 y) ((V.drew.setRow g (flatA (K.set k z) ++ tl).toArray).setRow g (flatA ((K.set k z).set k1 y) ++ tl).toArray) := hr1.set _
          have hsw : (K.set k z).set k1 y = P2 ++ E ++ y :: (z :: Z2) ++ C := by
            rw [List.set_comm _ _ (by omega), e1, swap_at (by simp; omega) (by simp; omega)]; simp
          rw [hsw] at hr3 s1
          obtain ⟨V3, hV3⟩ : ∃ V3, V.drew.setRow g (flatA (K.set k z) ++ tl).toArray = V3 := ⟨_, rfl⟩
          have ht3 : Two g none w V3 := by rw [← hV3]; exact (HTW.out.trans (two_drew g V)).trans (two_row g _ _)
          rw [hV3] at s0 s1 hr3
          obtain ⟨V4, hV4⟩ : ∃ V4, V3.setRow g (flatA (P2 ++ E ++ y :: (z :: Z2) ++ C) ++ tl).toArray = V4 := ⟨_, rfl⟩
          have ht4 : Two g none w V4 := by rw [← hV4]; exact ht3.trans (two_row g _ _)
          rw [hV4] at s1 hr3
          have HNX : Hid (RsRel P2 (X.drop t) C y g tl w (.int .i64 (k1 : Int)) V4) := ⟨k1, E, z :: Z2, by rw [← hZ]; simp, hk1.symm, rfl, hr3, ht4⟩
          have wk : IntKind.i64.wrap ((k : Int) - 1) = (k1 : Int) := by rw [show (k : Int) - 1 = (k1 : Int) by omega]; exact IntWalk.i64_in _ (by have := HL.out; omega)
          have bk0 : (0 : Int) ≤ k := by omega
          have bk1 : (k : Int) < n := by omega
          have bl0 : (0 : Int) ≤ k1 := by omega
          have bl1 : (k1 : Int) < n := by omega
          have HKK : Hid (k1 < k) := by show k1 < k; omega
          clear hZl hpz hk1 hkl hK e1 hKl hgk hgk1 hrd hr1 hr3 hsw hV3 ht3 hV4 ht4 hZ hk HROW HTW
          go_wp2_with fail
          go_region
          go_wp2
          go_roundw
          case rel => exact HNX.out
          case measure => have := HKK.out; simp [intOf]; omega
end

end Go.Proofs.Ytjdgpbjjhgfikaa.Srt
