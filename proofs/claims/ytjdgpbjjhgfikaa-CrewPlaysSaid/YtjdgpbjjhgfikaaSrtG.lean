
/- A row of acts of the call's own: two sorted parts, side by side, are merged (slices.symMergeCmpFunc). Condition: at most a million acts. -/

import Derived.Test.YtjdgpbjjhgfikaaSrtE

import Derived.Deep.CutBlock

namespace Go.Proofs.Ytjdgpbjjhgfikaa.Srt

open Go.RowKit Go.PlainAid

open Go.Proofs.Ytjdgpbjjhgfikaa.Cel (Two two_below)

set_option linter.unusedVariables false

set_option linter.unusedSimpArgs false

/-- Where both parts are cut: c below the place c' in the first one, its mirror in the second one. -/
def SyRel (L : List A3) (lo0 hi0 nn g : Nat) (tl : List Value) (w : World) (i j : Value) (W : World) : Prop :=
  ∃ (s r : Nat), s ≤ r ∧ r ≤ hi0 ∧ lo0 ≤ s ∧ i = .int .i64 (s : Int) ∧ j = .int .i64 (r : Int) ∧ (∀ u v, lo0 < s → L[s - 1]? = some u → L[nn - s]? = some v → ¬ lt v u) ∧ (∀ u v, r < hi0 → L[r]? = some u → L[nn - 1 - r]? = some v → lt v u) ∧ Row g tl L W ∧ Two g none w W
/-- Where the search stopped both parts are cut: what of the second one goes ahead is below what of the first one goes behind. -/
theorem sym_cut {P X Y C L : List A3} {a m b mid nn lo0 hi0 s e : Nat} (hL : P ++ X ++ Y ++ C = L) (hX : Srt X) (hY : Srt Y) (ha : P.length = a) (hm : a + X.length = m) (hb : m + Y.length = b) (hnn : mid + m = nn) (he : nn - s = e) (h1 : a ≤ lo0) (h2 : hi0 ≤ m) (h3 : hi0 + m ≤ nn) (h4 : nn ≤ lo0 + b) (h5 : lo0 = a ∨ nn - lo0 = b) (h6 : hi0 = m ∨ nn - hi0 = m) (hs1 : lo0 ≤ s) (hs2 : s ≤ hi0)
    (hlo : ∀ u v, lo0 < s → L[s - 1]? = some u → L[nn - s]? = some v → ¬ lt v u) (hhi : ∀ u v, s < hi0 → L[s]? = some u → L[nn - 1 - s]? = some v → lt v u) :
    ∃ P1 Q1 P2 Q2 : List A3, X = P1 ++ Q1 ∧ Y = P2 ++ Q2 ∧ a + P1.length = s ∧ s + Q1.length = m ∧ m + P2.length = e ∧ e + Q2.length = b ∧ s + P2.length = mid ∧ (∀ x ∈ P1, ∀ y ∈ Q2, le x y) ∧ (∀ x ∈ P2, ∀ y ∈ Q1, lt x y) := by
  have eX : X = X.take (s - a) ++ X.drop (s - a) := (List.take_append_drop _ _).symm
  have eY : Y = Y.take (e - m) ++ Y.drop (e - m) := (List.take_append_drop _ _).symm
  have sX := hX
  have sY := hY
  rw [eX] at sX
  rw [eY] at sY
  obtain ⟨p1, q1, -⟩ := List.pairwise_append.1 sX
  obtain ⟨p2, q2, -⟩ := List.pairwise_append.1 sY
  have hLx : ∀ k, k < X.length → L[a + k]? = X[k]? := fun k hk => by
    rw [← hL, List.append_assoc, List.append_assoc, List.getElem?_append_right (by omega), List.getElem?_append_left (by omega)]; congr 1; omega
  have hLy : ∀ k, k < Y.length → L[m + k]? = Y[k]? := fun k hk => by
    rw [← hL, List.append_assoc, List.getElem?_append_right (by simp; omega), List.getElem?_append_left (by simp; omega)]; congr 1; simp; omega
  refine ⟨X.take (s - a), X.drop (s - a), Y.take (e - m), Y.drop (e - m), eX, eY, ?_, ?_, ?_, ?_, ?_, ?_, ?_⟩
  · rw [List.length_take, Nat.min_eq_left (by omega)]; omega
  · rw [List.length_drop]; omega
  · rw [List.length_take, Nat.min_eq_left (by omega)]; omega
  · rw [List.length_drop]; omega
  · rw [List.length_take, Nat.min_eq_left (by omega)]; omega
  · refine ends_le p1 q2 (fun u v hu hv => ?_)
    have hs0 : 0 < s - a := by
      rcases Nat.eq_zero_or_pos (s - a) with h | h
      · rw [h] at hu; simp at hu
      · exact h
    rw [List.head?_drop] at hv
    have hvl := (List.getElem?_eq_some_iff.1 hv).1
    rw [List.getLast?_eq_getElem?, List.length_take, Nat.min_eq_left (by omega), List.getElem?_take, if_pos (by omega)] at hu
    have hul := (List.getElem?_eq_some_iff.1 hu).1
    refine hlo u v (by omega) ?_ ?_
    · rw [show s - 1 = a + (s - a - 1) by omega, hLx _ hul]; exact hu
    · rw [show nn - s = m + (e - m) by omega, hLy _ hvl]; exact hv
  · refine ends_lt p2 q1 (fun u v hu hv => ?_)
    have hs0 : 0 < e - m := by
      rcases Nat.eq_zero_or_pos (e - m) with h | h
      · rw [h] at hu; simp at hu
      · exact h
    rw [List.head?_drop] at hv
    have hvl := (List.getElem?_eq_some_iff.1 hv).1
    rw [List.getLast?_eq_getElem?, List.length_take, Nat.min_eq_left (by omega), List.getElem?_take, if_pos (by omega)] at hu
    have hul := (List.getElem?_eq_some_iff.1 hu).1
    refine hhi v u (by omega) ?_ ?_
    · rw [show s = a + (s - a) by omega, hLx _ hvl]; exact hv
    · rw [show nn - 1 - s = m + (e - m - 1) by omega, hLy _ hul]; exact hu
section
attribute [-go_sem] storeVar loadVar
set_option maxRecDepth 8000 in
set_option maxHeartbeats 12800000 in
theorem sym_any : ∀ (N : Nat) (P X Y C : List A3) (g n cap a m b : Nat) (tl : List Value) (w : World) (hN : X.length + Y.length ≤ N) (hr : Row g tl (P ++ X ++ Y ++ C) w) (hX : Srt X) (hY : Srt Y) (hX0 : 0 < X.length) (hY0 : 0 < Y.length) (ha : P.length = a) (hm : a + X.length = m) (hb : m + Y.length = b) (hn : (P ++ X ++ Y ++ C).length = n) (hc : n ≤ cap) (hl : n ≤ 1000000),
    Calls Try.prog 91 #[.slice (some ⟨g, 0, none⟩) n cap, .int .i64 (a : Int), .int .i64 (m : Int), .int .i64 (b : Int), .func (.func 68) #[] #[]] w fun e w' => e = .returned (.tuple #[]) ∧ SortPost P (X ++ Y) C g tl w w' := by
  intro N
  induction N with
  | zero => intro P X Y C g n cap a m b tl w hN _ _ _ hX0; omega
  | succ N ih =>
    intro P X Y C g n cap a m b tl w hN hr hX hY hX0 hY0 ha hm hb hn hc hl
    by_cases hx1 : X.length = 1
    · obtain ⟨x, rfl⟩ := List.length_eq_one_iff.1 hx1
      exact sym_left P Y C x g n cap a m b tl w hr hY hY0 ha hm hb hn hc hl
    by_cases hy1 : Y.length = 1
    · obtain ⟨y, rfl⟩ := List.length_eq_one_iff.1 hy1
      exact sym_right P X C y g n cap a m b tl w hr hX (by omega) ha hm hb hn hc hl
    have IH := Lib.hid ih
    clear ih
    obtain ⟨XY, hXY⟩ : ∃ XY, X ++ Y = XY := ⟨_, rfl⟩
    rw [hXY]
    obtain ⟨L, hL⟩ : ∃ L, P ++ X ++ Y ++ C = L := ⟨_, rfl⟩
    rw [hL] at hr hn
    have hlen : b + C.length = n := by rw [← hn, ← hL]; simp; omega
    obtain ⟨xl, hxl⟩ : ∃ xl, X.length = xl := ⟨_, rfl⟩
    obtain ⟨yl, hyl⟩ : ∃ yl, Y.length = yl := ⟨_, rfl⟩
    have wa : IntKind.i64.wrap ((m : Int) - (a : Int)) = (xl : Int) := by rw [show (m : Int) - a = (xl : Int) by omega]; exact IntWalk.i64_in _ (by omega)
    have ta : ((xl : Int) == 1) = false := by simp; omega
    have tan : (xl == 1) = false := by simp; omega
    have wb : IntKind.i64.wrap ((b : Int) - (m : Int)) = (yl : Int) := by rw [show (b : Int) - m = (yl : Int) by omega]; exact IntWalk.i64_in _ (by omega)
    have tb : ((yl : Int) == 1) = false := by simp; omega
    have tbn : (yl == 1) = false := by simp; omega
    obtain ⟨hw1, hw2⟩ := half_facts (u := a) (v := b) (by omega)
    obtain ⟨ab, hab⟩ : ∃ ab, a + b = ab := ⟨_, rfl⟩
    rw [hab] at hw1 hw2
    obtain ⟨mid, hmid⟩ : ∃ mid, ab / 2 = mid := ⟨_, rfl⟩
    have hmI : ((ab : Int) / 2) = (mid : Int) := by omega
    have hmw : IntKind.i64.wrap (mid : Int) = (mid : Int) := IntWalk.i64_in _ (by omega)
    obtain ⟨nn, hnn⟩ : ∃ nn, mid + m = nn := ⟨_, rfl⟩
    have wn : IntKind.i64.wrap ((mid : Int) + (m : Int)) = (nn : Int) := by rw [show (mid : Int) + m = (nn : Int) by omega]; exact IntWalk.i64_in _ (by omega)
    obtain ⟨pp, hpp⟩ : ∃ pp, nn - 1 = pp := ⟨_, rfl⟩
    have g1 : m ≤ b := by rw [← hb]; exact Nat.le_add_right _ _
    have g2 : b ≤ n := by rw [← hlen]; exact Nat.le_add_right _ _
    have g3 : nn = pp + 1 := by rw [← hpp]; have : 0 < nn := by rw [← hnn, ← hm]; exact Nat.lt_of_lt_of_le hX0 (Nat.le_trans (Nat.le_add_left _ _) (Nat.le_add_left _ _))
                                omega
    have wpp : IntKind.i64.wrap ((nn : Int) - 1) = (pp : Int) := by rw [show (nn : Int) - 1 = (pp : Int) by omega]; exact IntWalk.i64_in _ (by omega)
    obtain ⟨lo0, hi0, hlh, hfac, hcase⟩ : ∃ lo0 hi0 : Nat, lo0 ≤ hi0 ∧ (a ≤ lo0 ∧ hi0 ≤ m ∧ hi0 + m ≤ nn ∧ nn ≤ lo0 + b ∧ (lo0 = a ∨ nn - lo0 = b) ∧ (hi0 = m ∨ nn - hi0 = m)) ∧ ((mid < m ∧ IntKind.i64.wrap ((nn : Int) - (b : Int)) = (lo0 : Int) ∧ hi0 = mid) ∨ (¬ mid < m ∧ lo0 = a ∧ hi0 = m)) := by
      by_cases h : mid < m
      · exact ⟨nn - b, mid, by omega, by omega, .inl ⟨h, by rw [show (nn : Int) - b = ((nn - b : Nat) : Int) by omega]; exact IntWalk.i64_in _ (by omega), rfl⟩⟩
      · exact ⟨a, m, by omega, by omega, .inr ⟨h, rfl, rfl⟩⟩
    have HFC : Hid (lo0 ≤ hi0 ∧ a ≤ lo0 ∧ hi0 ≤ m ∧ hi0 + m ≤ nn ∧ nn ≤ lo0 + b ∧ (lo0 = a ∨ nn - lo0 = b) ∧ (hi0 = m ∨ nn - hi0 = m)) := ⟨hlh, hfac⟩
    have HST : Hid (∀ x z : Nat, x = lo0 → z = hi0 → SyRel L lo0 hi0 nn g tl w (.int .i64 (x : Int)) (.int .i64 (z : Int)) w) := fun x z hx hz => ⟨x, z, by rw [hx, hz]; exact hlh, by rw [hz]; exact Nat.le_refl _, by rw [hx]; exact Nat.le_refl _, rfl, rfl, fun u v h => absurd h (by rw [hx]; exact Nat.lt_irrefl _), fun u v h => absurd h (by rw [hz]; exact Nat.lt_irrefl _), hr, Two.refl _ _ _⟩
    have HNUM : Hid (P.length = a ∧ a + X.length = m ∧ m + Y.length = b ∧ b + C.length = n ∧ mid + m = nn ∧ nn - 1 = pp ∧ a + b = ab ∧ ab / 2 = mid ∧ 2 ≤ X.length ∧ 2 ≤ Y.length ∧ X.length + Y.length ≤ N + 1 ∧ n ≤ cap ∧ n ≤ 1000000 ∧ L.length = n) := by
      refine ⟨ha, hm, hb, hlen, hnn, hpp, hab, hmid, by omega, by omega, hN, hc, hl, hn⟩
    have HQ : Hid (hi0 + m ≤ nn ∧ nn ≤ lo0 + b ∧ hi0 ≤ m ∧ m ≤ b ∧ b ≤ n ∧ n ≤ 1000000 ∧ L.length = n ∧ nn = pp + 1) := by
      obtain ⟨q1, q2, q3, q4, q5, q6⟩ := hfac
      exact ⟨q3, q4, q2, g1, g2, hl, hn, g3⟩
    have HLL : Hid (P ++ X ++ Y ++ C = L) := hL
    have HSX := Lib.hid hX
    have HSY := Lib.hid hY
    have HXY := Lib.hid hXY
    clear g1 g2 g3 hXY hr hX hY hX0 hY0 hx1 hy1 hL hlen hxl hyl hab hmid hnn hpp hlh hfac hN ha hm hb hn hc hl
    rcases hcase with ⟨hq, wlo, hhi⟩ | ⟨hq, hlo0, hhi0⟩
    · have tq : decide ((mid : Int) < (m : Int)) = true := decide_eq_true (by omega)
      have tqn : decide (mid < m) = true := decide_eq_true hq
      have HH0 := Lib.hid hhi
      clear hq hhi
      go_enter Try.func91, Try.ntmps91
      go_wp2_with fail
      go_loopw [20, 21] (fun i j W => SyRel L lo0 hi0 nn g tl w i j W) (fun i j _ => (intOf j).toNat - (intOf i).toNat)
      case atStart => exact HST.out lo0 mid rfl HH0.out.symm
      case round =>
        rename World => W
        clear HST
        obtain ⟨s, r, hsr, hrh, hls, rfl, rfl, hlo, hhi, hrow, htw⟩ := hrel
        have HROW := Lib.hid hrow
        have HTW := Lib.hid htw
        have HLO := Lib.hid hlo
        have HHI := Lib.hid hhi
        clear hrow htw hlo hhi
        by_cases hlt : s < r
        · have tpq : decide ((s : Int) < (r : Int)) = true := decide_eq_true (by omega)
          have tpqn : decide (s < r) = true := decide_eq_true hlt
          obtain ⟨q1, q2, q3, q4, q5, q6, q7, q8⟩ := HQ.out
          obtain ⟨hw1, hw2⟩ := half_facts (u := s) (v := r) (by omega)
          obtain ⟨pq, hpqs⟩ : ∃ pq, s + r = pq := ⟨_, rfl⟩
          rw [hpqs] at hw1 hw2
          obtain ⟨h, hh⟩ : ∃ h, pq / 2 = h := ⟨_, rfl⟩
          have hhI : ((pq : Int) / 2) = (h : Int) := by omega
          have hhw : IntKind.i64.wrap (h : Int) = (h : Int) := IntWalk.i64_in _ (by omega)
          obtain ⟨k, hk⟩ : ∃ k, pp - h = k := ⟨_, rfl⟩
          have wk : IntKind.i64.wrap ((pp : Int) - (h : Int)) = (k : Int) := by rw [show (pp : Int) - h = (k : Int) by omega]; exact IntWalk.i64_in _ (by omega)
          obtain ⟨u, hu⟩ : ∃ u, L[h]? = some u := ⟨_, List.getElem?_eq_getElem (by omega)⟩
          obtain ⟨v, hv⟩ : ∃ v, L[k]? = some v := ⟨_, List.getElem?_eq_getElem (by omega)⟩
          have hrd : Row g tl L W.drew := HROW.out
          have l0 := hrd.load hu
          have l1 := hrd.load hv
          have bh0 : (0 : Int) ≤ h := by omega
          have bh1 : (h : Int) < n := by omega
          have ba0 : (0 : Int) ≤ k := by omega
          have ba1 : (k : Int) < n := by omega
          have HCM : Hid (∀ W, Calls Try.prog 68 #[.agg #[.int .i64 v.s, .int .i64 v.p, .int .i64 v.a], .agg #[.int .i64 u.s, .int .i64 u.p, .int .i64 u.a]] W fun e w' => e = .returned (.int .i64 (cmpA v u)) ∧ Below W.heap.size W w') := fun W => compare_any v u W
          have HCL : Hid (cmpA v u < 0 ↔ lt v u) := cmp_less v u
          obtain ⟨c, hcc⟩ : ∃ c, cmpA v u = c := ⟨_, rfl⟩
          rw [hcc] at HCM HCL
          have HGU := Lib.hid hu
          have HGV := Lib.hid hv
          have HRD := Lib.hid hrd
          have HPH : Hid (s ≤ h ∧ h < r ∧ lo0 ≤ s ∧ r ≤ hi0 ∧ nn - (h + 1) = k ∧ nn - 1 - h = k) := by show _ ∧ _; omega
          have wh : IntKind.i64.wrap ((h : Int) + 1) = ((h + 1 : Nat) : Int) := by rw [Int.natCast_add]; exact IntWalk.i64_in _ (by omega)
          clear q1 q2 q3 q4 q5 q6 q7 q8 hcc hu hv hrd hh hpqs hlt hsr hrh hls hk
          go_upto_region 35 with fail
          try rw [hhI]
          clear hw1 hw2 hhI hhw
          go_region_held3 (fun wx => Sem.run Try.prog (loadVar 84 ⟨g, h * 3, none⟩) wx = .ok (.agg #[.int .i64 u.s, .int .i64 u.p, .int .i64 u.a]) wx ∧ Sem.run Try.prog (loadVar 84 ⟨g, k * 3, none⟩) wx = .ok (.agg #[.int .i64 v.s, .int .i64 v.p, .int .i64 v.a]) wx)
            (first | exact HKP.out | (refine ⟨?_, ?_⟩ <;> assumption) | (go_keep; done))
            (first
              | (go_at_call 68; refine (HCM.out _).mono ?_; rintro e V2 ⟨rfl, hb⟩; have hr2 : Row g tl L V2 := HRD.out.keep hb; have HR2 := Lib.hid hr2; have HT2 : Hid (Two g none w V2) := (HTW.out.trans (two_drew g W)).trans (two_below hb); have HKP : Hid (Sem.run Try.prog (loadVar 84 ⟨g, h * 3, none⟩) V2 = .ok (.agg #[.int .i64 u.s, .int .i64 u.p, .int .i64 u.a]) V2 ∧ Sem.run Try.prog (loadVar 84 ⟨g, k * 3, none⟩) V2 = .ok (.agg #[.int .i64 v.s, .int .i64 v.p, .int .i64 v.a]) V2) := ⟨hr2.load HGU.out, hr2.load HGV.out⟩; clear hb hr2))
          obtain ⟨bc, hbc⟩ : ∃ bc, decide (c < 0) = bc := ⟨_, rfl⟩
          rw [hbc]
          cases bc with
          | true =>
            have hc0 : c < 0 := of_decide_eq_true hbc
            clear hbc
            have HNX : Hid (SyRel L lo0 hi0 nn g tl w (.int .i64 (s : Int)) (.int .i64 (h : Int)) V2) := ⟨s, h, HPH.out.1, by have := HPH.out; omega, HPH.out.2.2.1, rfl, rfl, HLO.out, fun u' v' _ hu hv => by
              rw [HGU.out] at hu
              rw [HPH.out.2.2.2.2.2, HGV.out] at hv
              obtain rfl := Option.some.inj hu
              obtain rfl := Option.some.inj hv
              exact HCL.out.1 hc0, HR2.out, HT2.out⟩
            clear HKP HR2 HCM HCL HRD HT2 HTW hc0
            go_wp2
            go_roundw
            case rel => exact HNX.out
            case measure => have := HPH.out; simp [intOf]; omega
          | false =>
            have hc0 : ¬ c < 0 := of_decide_eq_false hbc
            clear hbc
            have HNX : Hid (SyRel L lo0 hi0 nn g tl w (.int .i64 ((h + 1 : Nat) : Int)) (.int .i64 (r : Int)) V2) := ⟨h + 1, r, HPH.out.2.1, HPH.out.2.2.2.1, by have := HPH.out; omega, rfl, rfl, fun u' v' _ hu hv => by
              rw [Nat.add_sub_cancel, HGU.out] at hu
              rw [HPH.out.2.2.2.2.1, HGV.out] at hv
              obtain rfl := Option.some.inj hu
              obtain rfl := Option.some.inj hv
              exact fun hl => hc0 (HCL.out.2 hl), HHI.out, HR2.out, HT2.out⟩
            clear HKP HR2 HCM HCL HRD HT2 HTW hc0
            go_wp2
            go_roundw
            case rel => exact HNX.out
            case measure => have := HPH.out; simp [intOf]; omega
        · obtain rfl : s = r := by omega
          have tpq : decide ((s : Int) < (s : Int)) = false := decide_eq_false (by omega)
          have hfc := HFC.out
          have hnum := HNUM.out
          obtain ⟨e, he⟩ : ∃ e, nn - s = e := ⟨_, rfl⟩
          have we : IntKind.i64.wrap ((nn : Int) - (s : Int)) = (e : Int) := by
            have hq := HQ.out
            clear hfc hnum
            rw [show (nn : Int) - s = (e : Int) by omega]; exact IntWalk.i64_in _ (by omega)
          obtain ⟨P1, Q1, P2, Q2, eX, eY, z1, z2, z3, z4, z5, hle, hlt2⟩ := sym_cut HLL.out HSX.out HSY.out hnum.1 hnum.2.1 hnum.2.2.1 hnum.2.2.2.2.1 he hfc.2.1 hfc.2.2.1 hfc.2.2.2.1 hfc.2.2.2.2.1 hfc.2.2.2.2.2.1 hfc.2.2.2.2.2.2 hls hrh HLO.out HHI.out
          have n1 := hnum.1
          have n4 := hnum.2.2.2.1
          have n5 := hnum.2.2.2.2.2.2.2.2.2.2.1
          have n6 := hnum.2.2.2.2.2.2.2.2.2.2.2.1
          have n7 := hnum.2.2.2.2.2.2.2.2.2.2.2.2.1
          have n8 := hnum.2.2.2.2.2.2.2.2.2.2.2.2.2
          have n9 : 2 ≤ X.length ∧ 2 ≤ Y.length := ⟨hnum.2.2.2.2.2.2.2.2.1, hnum.2.2.2.2.2.2.2.2.2.1⟩
          have n10 := hnum.2.2.2.2.2.2.1
          have n11 := hnum.2.2.2.2.2.2.2.1
          have n2 := hnum.2.1
          have n3 := hnum.2.2.1
          clear hfc hnum
          have hXl : X.length = P1.length + Q1.length := by rw [eX]; simp
          have hYl : Y.length = P2.length + Q2.length := by rw [eY]; simp
          have HNS : Hid (P.length = a ∧ a + P1.length = s ∧ s + Q1.length = m ∧ m + P2.length = e ∧ e + Q2.length = b ∧ s + P2.length = mid ∧ b + C.length = n ∧ n ≤ cap ∧ n ≤ 1000000 ∧ P1.length + P2.length ≤ N ∧ Q1.length + Q2.length ≤ N) := by
            refine ⟨n1, z1, z2, z3, z4, z5, n4, n6, n7, ?_, ?_⟩
            · omega
            · omega
          have hsx := HSX.out
          have hsy := HSY.out
          rw [eX] at hsx
          rw [eY] at hsy
          have HS4 : Hid (Srt P1 ∧ Srt Q1 ∧ Srt P2 ∧ Srt Q2) := ⟨(List.pairwise_append.1 hsx).1, (List.pairwise_append.1 hsx).2.1, (List.pairwise_append.1 hsy).1, (List.pairwise_append.1 hsy).2.1⟩
          have HEND : Hid (∀ M1 M2 V, Stab (P1 ++ P2) M1 → Stab (Q1 ++ Q2) M2 → Row g tl (P ++ M1 ++ M2 ++ C) V → Two g none w V → SortPost P XY C g tl w V) := fun M1 M2 V h1 h2 h3 h4 => ⟨⟨M1 ++ M2, by rw [← HXY.out, eX, eY]; exact merge hsx hsy hle hlt2 h1 h2, by simpa using h3⟩, h4⟩
          have HR0 : Hid (Row g tl (P ++ P1 ++ Q1 ++ P2 ++ (Q2 ++ C)) W) := by
            have h := HROW.out
            rw [← HLL.out, eX, eY] at h
            show Row _ _ _ _
            simpa using h
          clear HROW HLO HHI HFC HNUM HQ HSX HSY HXY HLL eX eY z1 z2 z3 z4 z5 hle hlt2 n1 n2 n3 n4 n5 n6 n7 n8 n9 n10 n11 hXl hYl hsx hsy he hls hrh hlt hsr
          obtain ⟨B, hB⟩ : ∃ B, decide (s < m ∧ m < e) = B := ⟨_, rfl⟩
          have HBB := Lib.hid hB
          go_upto_region 39 with fail
          go_cut [185] from 178 to 185 (fun t wx => t = .bool B ∧ Row g tl (P ++ P1 ++ Q1 ++ P2 ++ (Q2 ++ C)) wx ∧ Two g none w wx)
          case first =>
            by_cases c1 : s < m
            · have t1 : decide ((s : Int) < (m : Int)) = true := decide_eq_true (by omega)
              have t1n : decide (s < m) = true := decide_eq_true c1
              by_cases c2 : m < e
              · have t2 : decide ((m : Int) < (e : Int)) = true := decide_eq_true (by omega)
                have t2n : decide (m < e) = true := decide_eq_true c2
                obtain rfl : true = B := by rw [← hB]; exact (decide_eq_true ⟨c1, c2⟩).symm
                clear hB c1 c2
                go_wp2
                go_meet
                case rel => exact ⟨rfl, HR0.out, HTW.out⟩
              · have t2 : decide ((m : Int) < (e : Int)) = false := decide_eq_false (by omega)
                have t2n : decide (m < e) = false := decide_eq_false c2
                obtain rfl : false = B := by rw [← hB]; exact (decide_eq_false (fun h => c2 h.2)).symm
                clear hB c1 c2
                go_wp2
                go_meet
                case rel => exact ⟨rfl, HR0.out, HTW.out⟩
            · have t1 : decide ((s : Int) < (m : Int)) = false := decide_eq_false (by omega)
              have t1n : decide (s < m) = false := decide_eq_false c1
              obtain rfl : false = B := by rw [← hB]; exact (decide_eq_false (fun h => c1 h.1)).symm
              clear hB c1
              go_wp2
              go_meet
              case rel => exact ⟨rfl, HR0.out, HTW.out⟩
          case rest =>
          rename World => W1
          obtain ⟨rfl, hr1, ht1⟩ := hcut
          clear HR0 HTW hB
          have HR0 := Lib.hid hr1
          have HTW := Lib.hid ht1
          clear hr1 ht1
          go_upto_if 185 with fail
          go_cut [] from 186 to 191 (fun wx => Row g tl (P ++ (P1 ++ P2) ++ (Q1 ++ Q2) ++ C) wx ∧ Two g none w wx)
          case first =>
            have hns := HNS.out
            cases B with
            | true =>
                obtain ⟨c1, c2⟩ := of_decide_eq_true HBB.out
                have HRO := Lib.hid (rotate_any (P ++ P1) Q1 P2 (Q2 ++ C) g n cap s m e tl (.func (.func 68) #[] #[]) W1 HR0.out (by omega) (by omega) (by simp; omega) (by simp; omega) (by simp; omega) (by simp; omega) hns.2.2.2.2.2.2.2.1 hns.2.2.2.2.2.2.2.2.1)
                clear hns c1 c2
                go_wp2_with fail
                refine HRO.out.mono ?_
                rintro e' w6 ⟨rfl, hr6, ht6⟩
                have HR6 : Hid (Row g tl (P ++ (P1 ++ P2) ++ (Q1 ++ Q2) ++ C) w6) := by show Row _ _ _ _; simpa using hr6
                have HT6 := Lib.hid (HTW.out.trans ht6)
                clear hr6 ht6
                go_wp2
                go_meet
                case rel => exact ⟨HR6.out, HT6.out⟩
            | false =>
                have hcc := of_decide_eq_false HBB.out
                have hz : P2 = [] ∨ Q1 = [] := by
                  rcases Nat.lt_or_ge s m with h | h
                  · exact .inl (List.eq_nil_of_length_eq_zero (by omega))
                  · exact .inr (List.eq_nil_of_length_eq_zero (by omega))
                have HR6 : Hid (Row g tl (P ++ (P1 ++ P2) ++ (Q1 ++ Q2) ++ C) W1) := by
                  have h := HR0.out
                  show Row _ _ _ _
                  rcases hz with hz | hz <;> (rw [hz] at h ⊢; simpa using h)
                clear hns hcc hz
                go_wp2
                go_meet
                case rel => exact ⟨HR6.out, HTW.out⟩
          case rest =>
          rename World => W2
          have HR2 := Lib.hid hcut.1
          have HT2 := Lib.hid hcut.2
          clear hcut HR0 HTW
          obtain ⟨D, hD⟩ : ∃ D, decide (a < s ∧ s < mid) = D := ⟨_, rfl⟩
          have HDD := Lib.hid hD
          go_upto_region 41 with fail
          go_cut [199] from 192 to 199 (fun t wx => t = .bool D ∧ Row g tl (P ++ (P1 ++ P2) ++ (Q1 ++ Q2) ++ C) wx ∧ Two g none w wx)
          case first =>
            by_cases c1 : a < s
            · have t1 : decide ((a : Int) < (s : Int)) = true := decide_eq_true (by omega)
              have t1n : decide (a < s) = true := decide_eq_true c1
              by_cases c2 : s < mid
              · have t2 : decide ((s : Int) < (mid : Int)) = true := decide_eq_true (by omega)
                have t2n : decide (s < mid) = true := decide_eq_true c2
                obtain rfl : true = D := by rw [← hD]; exact (decide_eq_true ⟨c1, c2⟩).symm
                clear hD c1 c2
                go_wp2
                go_meet
                case rel => exact ⟨rfl, HR2.out, HT2.out⟩
              · have t2 : decide ((s : Int) < (mid : Int)) = false := decide_eq_false (by omega)
                have t2n : decide (s < mid) = false := decide_eq_false c2
                obtain rfl : false = D := by rw [← hD]; exact (decide_eq_false (fun h => c2 h.2)).symm
                clear hD c1 c2
                go_wp2
                go_meet
                case rel => exact ⟨rfl, HR2.out, HT2.out⟩
            · have t1 : decide ((a : Int) < (s : Int)) = false := decide_eq_false (by omega)
              have t1n : decide (a < s) = false := decide_eq_false c1
              obtain rfl : false = D := by rw [← hD]; exact (decide_eq_false (fun h => c1 h.1)).symm
              clear hD c1
              go_wp2
              go_meet
              case rel => exact ⟨rfl, HR2.out, HT2.out⟩
          case rest =>
          rename World => W4
          obtain ⟨rfl, hr1, ht1⟩ := hcut
          clear HR2 HT2 hD
          have HR2 := Lib.hid hr1
          have HT2 := Lib.hid ht1
          clear hr1 ht1
          go_upto_if 199 with fail
          go_cut [] from 200 to 205 (fun wx => ∃ M1, Stab (P1 ++ P2) M1 ∧ Row g tl (P ++ M1 ++ (Q1 ++ Q2) ++ C) wx ∧ Two g none w wx)
          case first =>
            have hns := HNS.out
            cases D with
            | true =>
                obtain ⟨c1, c2⟩ := of_decide_eq_true HDD.out
                have HRO := Lib.hid (IH.out P P1 P2 ((Q1 ++ Q2) ++ C) g n cap a s mid tl W4 hns.2.2.2.2.2.2.2.2.2.1 (by have h := HR2.out; simpa using h) HS4.out.1 HS4.out.2.2.1 (by omega) (by omega) hns.1 hns.2.1 hns.2.2.2.2.2.1 (by simp; omega) hns.2.2.2.2.2.2.2.1 hns.2.2.2.2.2.2.2.2.1)
                clear hns c1 c2
                go_wp2_with fail
                refine HRO.out.mono ?_
                rintro e' w6 ⟨rfl, ⟨M1, hm1, hr6⟩, ht6⟩
                have HR6 : Hid (∃ M1, Stab (P1 ++ P2) M1 ∧ Row g tl (P ++ M1 ++ (Q1 ++ Q2) ++ C) w6 ∧ Two g none w w6) := ⟨M1, hm1, by simpa using hr6, HT2.out.trans ht6⟩
                clear hr6 ht6 hm1
                go_wp2
                go_meet
                case rel => exact HR6.out
            | false =>
                have hcc := of_decide_eq_false HDD.out
                have hz : P1 = [] ∨ P2 = [] := by
                  rcases Nat.lt_or_ge a s with h | h
                  · exact .inr (List.eq_nil_of_length_eq_zero (by omega))
                  · exact .inl (List.eq_nil_of_length_eq_zero (by omega))
                have hss : Srt (P1 ++ P2) := by
                  rcases hz with hz | hz
                  · rw [hz]; simpa using HS4.out.2.2.1
                  · rw [hz]; simpa using HS4.out.1
                have HR6 : Hid (∃ M1, Stab (P1 ++ P2) M1 ∧ Row g tl (P ++ M1 ++ (Q1 ++ Q2) ++ C) W4 ∧ Two g none w W4) := ⟨P1 ++ P2, Stab.refl hss, HR2.out, HT2.out⟩
                clear hns hcc hz hss
                go_wp2
                go_meet
                case rel => exact HR6.out
          case rest =>
          rename World => W3
          obtain ⟨M1, hm1, hr3, ht3⟩ := hcut
          have hM1l : M1.length = P1.length + P2.length := by rw [hm1.length]; simp
          have HM1 := Lib.hid hm1
          have HML := Lib.hid hM1l
          have HR3 := Lib.hid hr3
          have HT3 := Lib.hid ht3
          clear hm1 hr3 ht3 HR2 HT2 hM1l
          have hns := HNS.out
          by_cases c1 : mid < e
          · have t1 : decide ((mid : Int) < (e : Int)) = true := decide_eq_true (by omega)
            have t1n : decide (mid < e) = true := decide_eq_true c1
            by_cases c2 : e < b
            · have t2 : decide ((e : Int) < (b : Int)) = true := decide_eq_true (by omega)
              have t2n : decide (e < b) = true := decide_eq_true c2
              have hml := HML.out
              have HRO := Lib.hid (IH.out (P ++ M1) Q1 Q2 C g n cap mid e b tl W3 hns.2.2.2.2.2.2.2.2.2.2 (by have h := HR3.out; simpa using h) HS4.out.2.1 HS4.out.2.2.2 (by omega) (by omega) (by simp; omega) (by omega) hns.2.2.2.2.1 (by simp; omega) hns.2.2.2.2.2.2.2.1 hns.2.2.2.2.2.2.2.2.1)
              clear hns c1 c2 hml
              go_wp2_with fail
              refine HRO.out.mono ?_
              rintro e' w6 ⟨rfl, ⟨M2, hm2, hr6⟩, ht6⟩
              have HF := Lib.hid (HEND.out M1 M2 w6 HM1.out hm2 (by simpa using hr6) (HT3.out.trans ht6))
              clear hr6 ht6 hm2
              go_wp2
              simp [bodyPost, results, Try.results91, go_sem]
              exact HF.out
            · have t2 : decide ((e : Int) < (b : Int)) = false := decide_eq_false (by omega)
              have t2n : decide (e < b) = false := decide_eq_false c2
              have hz : Q2 = [] := List.eq_nil_of_length_eq_zero (by omega)
              have HF := Lib.hid (HEND.out M1 (Q1 ++ Q2) W3 HM1.out (Stab.refl (by rw [hz]; simpa using HS4.out.2.1)) HR3.out HT3.out)
              clear hns c1 c2 hz
              go_wp2
              simp [bodyPost, results, Try.results91, go_sem]
              exact HF.out
          · have t1 : decide ((mid : Int) < (e : Int)) = false := decide_eq_false (by omega)
            have t1n : decide (mid < e) = false := decide_eq_false c1
            have hz : Q1 = [] := List.eq_nil_of_length_eq_zero (by omega)
            have HF := Lib.hid (HEND.out M1 (Q1 ++ Q2) W3 HM1.out (Stab.refl (by rw [hz]; simpa using HS4.out.2.2.2)) HR3.out HT3.out)
            clear hns c1 hz
            go_wp2
            simp [bodyPost, results, Try.results91, go_sem]
            exact HF.out
    · have tq : decide ((mid : Int) < (m : Int)) = false := decide_eq_false (by omega)
      have tqn : decide (mid < m) = false := decide_eq_false hq
      have HL0 := Lib.hid hlo0
      have HH0 := Lib.hid hhi0
      clear hq hlo0 hhi0
      go_enter Try.func91, Try.ntmps91
      go_wp2_with fail
      go_loopw [20, 21] (fun i j W => SyRel L lo0 hi0 nn g tl w i j W) (fun i j _ => (intOf j).toNat - (intOf i).toNat)
      case atStart => exact HST.out a m HL0.out.symm HH0.out.symm
      case round =>
        rename World => W
        clear HST
        obtain ⟨s, r, hsr, hrh, hls, rfl, rfl, hlo, hhi, hrow, htw⟩ := hrel
        have HROW := Lib.hid hrow
        have HTW := Lib.hid htw
        have HLO := Lib.hid hlo
        have HHI := Lib.hid hhi
        clear hrow htw hlo hhi
        by_cases hlt : s < r
        · have tpq : decide ((s : Int) < (r : Int)) = true := decide_eq_true (by omega)
          have tpqn : decide (s < r) = true := decide_eq_true hlt
          obtain ⟨q1, q2, q3, q4, q5, q6, q7, q8⟩ := HQ.out
          obtain ⟨hw1, hw2⟩ := half_facts (u := s) (v := r) (by omega)
          obtain ⟨pq, hpqs⟩ : ∃ pq, s + r = pq := ⟨_, rfl⟩
          rw [hpqs] at hw1 hw2
          obtain ⟨h, hh⟩ : ∃ h, pq / 2 = h := ⟨_, rfl⟩
          have hhI : ((pq : Int) / 2) = (h : Int) := by omega
          have hhw : IntKind.i64.wrap (h : Int) = (h : Int) := IntWalk.i64_in _ (by omega)
          obtain ⟨k, hk⟩ : ∃ k, pp - h = k := ⟨_, rfl⟩
          have wk : IntKind.i64.wrap ((pp : Int) - (h : Int)) = (k : Int) := by rw [show (pp : Int) - h = (k : Int) by omega]; exact IntWalk.i64_in _ (by omega)
          obtain ⟨u, hu⟩ : ∃ u, L[h]? = some u := ⟨_, List.getElem?_eq_getElem (by omega)⟩
          obtain ⟨v, hv⟩ : ∃ v, L[k]? = some v := ⟨_, List.getElem?_eq_getElem (by omega)⟩
          have hrd : Row g tl L W.drew := HROW.out
          have l0 := hrd.load hu
          have l1 := hrd.load hv
          have bh0 : (0 : Int) ≤ h := by omega
          have bh1 : (h : Int) < n := by omega
          have ba0 : (0 : Int) ≤ k := by omega
          have ba1 : (k : Int) < n := by omega
          have HCM : Hid (∀ W, Calls Try.prog 68 #[.agg #[.int .i64 v.s, .int .i64 v.p, .int .i64 v.a], .agg #[.int .i64 u.s, .int .i64 u.p, .int .i64 u.a]] W fun e w' => e = .returned (.int .i64 (cmpA v u)) ∧ Below W.heap.size W w') := fun W => compare_any v u W
          have HCL : Hid (cmpA v u < 0 ↔ lt v u) := cmp_less v u
          obtain ⟨c, hcc⟩ : ∃ c, cmpA v u = c := ⟨_, rfl⟩
          rw [hcc] at HCM HCL
          have HGU := Lib.hid hu
          have HGV := Lib.hid hv
          have HRD := Lib.hid hrd
          have HPH : Hid (s ≤ h ∧ h < r ∧ lo0 ≤ s ∧ r ≤ hi0 ∧ nn - (h + 1) = k ∧ nn - 1 - h = k) := by show _ ∧ _; omega
          have wh : IntKind.i64.wrap ((h : Int) + 1) = ((h + 1 : Nat) : Int) := by rw [Int.natCast_add]; exact IntWalk.i64_in _ (by omega)
          clear q1 q2 q3 q4 q5 q6 q7 q8 hcc hu hv hrd hh hpqs hlt hsr hrh hls hk
          go_upto_region 35 with fail
          try rw [hhI]
          clear hw1 hw2 hhI hhw
          go_region_held3 (fun wx => Sem.run Try.prog (loadVar 84 ⟨g, h * 3, none⟩) wx = .ok (.agg #[.int .i64 u.s, .int .i64 u.p, .int .i64 u.a]) wx ∧ Sem.run Try.prog (loadVar 84 ⟨g, k * 3, none⟩) wx = .ok (.agg #[.int .i64 v.s, .int .i64 v.p, .int .i64 v.a]) wx)
            (first | exact HKP.out | (refine ⟨?_, ?_⟩ <;> assumption) | (go_keep; done))
            (first
              | (go_at_call 68; refine (HCM.out _).mono ?_; rintro e V2 ⟨rfl, hb⟩; have hr2 : Row g tl L V2 := HRD.out.keep hb; have HR2 := Lib.hid hr2; have HT2 : Hid (Two g none w V2) := (HTW.out.trans (two_drew g W)).trans (two_below hb); have HKP : Hid (Sem.run Try.prog (loadVar 84 ⟨g, h * 3, none⟩) V2 = .ok (.agg #[.int .i64 u.s, .int .i64 u.p, .int .i64 u.a]) V2 ∧ Sem.run Try.prog (loadVar 84 ⟨g, k * 3, none⟩) V2 = .ok (.agg #[.int .i64 v.s, .int .i64 v.p, .int .i64 v.a]) V2) := ⟨hr2.load HGU.out, hr2.load HGV.out⟩; clear hb hr2))
          obtain ⟨bc, hbc⟩ : ∃ bc, decide (c < 0) = bc := ⟨_, rfl⟩
          rw [hbc]
          cases bc with
          | true =>
            have hc0 : c < 0 := of_decide_eq_true hbc
            clear hbc
            have HNX : Hid (SyRel L lo0 hi0 nn g tl w (.int .i64 (s : Int)) (.int .i64 (h : Int)) V2) := ⟨s, h, HPH.out.1, by have := HPH.out; omega, HPH.out.2.2.1, rfl, rfl, HLO.out, fun u' v' _ hu hv => by
              rw [HGU.out] at hu
              rw [HPH.out.2.2.2.2.2, HGV.out] at hv
              obtain rfl := Option.some.inj hu
              obtain rfl := Option.some.inj hv
              exact HCL.out.1 hc0, HR2.out, HT2.out⟩
            clear HKP HR2 HCM HCL HRD HT2 HTW hc0
            go_wp2
            go_roundw
            case rel => exact HNX.out
            case measure => have := HPH.out; simp [intOf]; omega
          | false =>
            have hc0 : ¬ c < 0 := of_decide_eq_false hbc
            clear hbc
            have HNX : Hid (SyRel L lo0 hi0 nn g tl w (.int .i64 ((h + 1 : Nat) : Int)) (.int .i64 (r : Int)) V2) := ⟨h + 1, r, HPH.out.2.1, HPH.out.2.2.2.1, by have := HPH.out; omega, rfl, rfl, fun u' v' _ hu hv => by
              rw [Nat.add_sub_cancel, HGU.out] at hu
              rw [HPH.out.2.2.2.2.1, HGV.out] at hv
              obtain rfl := Option.some.inj hu
              obtain rfl := Option.some.inj hv
              exact fun hl => hc0 (HCL.out.2 hl), HHI.out, HR2.out, HT2.out⟩
            clear HKP HR2 HCM HCL HRD HT2 HTW hc0
            go_wp2
            go_roundw
            case rel => exact HNX.out
            case measure => have := HPH.out; simp [intOf]; omega
        · obtain rfl : s = r := by omega
          have tpq : decide ((s : Int) < (s : Int)) = false := decide_eq_false (by omega)
          have hfc := HFC.out
          have hnum := HNUM.out
          obtain ⟨e, he⟩ : ∃ e, nn - s = e := ⟨_, rfl⟩
          have we : IntKind.i64.wrap ((nn : Int) - (s : Int)) = (e : Int) := by
            have hq := HQ.out
            clear hfc hnum
            rw [show (nn : Int) - s = (e : Int) by omega]; exact IntWalk.i64_in _ (by omega)
          obtain ⟨P1, Q1, P2, Q2, eX, eY, z1, z2, z3, z4, z5, hle, hlt2⟩ := sym_cut HLL.out HSX.out HSY.out hnum.1 hnum.2.1 hnum.2.2.1 hnum.2.2.2.2.1 he hfc.2.1 hfc.2.2.1 hfc.2.2.2.1 hfc.2.2.2.2.1 hfc.2.2.2.2.2.1 hfc.2.2.2.2.2.2 hls hrh HLO.out HHI.out
          have n1 := hnum.1
          have n4 := hnum.2.2.2.1
          have n5 := hnum.2.2.2.2.2.2.2.2.2.2.1
          have n6 := hnum.2.2.2.2.2.2.2.2.2.2.2.1
          have n7 := hnum.2.2.2.2.2.2.2.2.2.2.2.2.1
          have n8 := hnum.2.2.2.2.2.2.2.2.2.2.2.2.2
          have n9 : 2 ≤ X.length ∧ 2 ≤ Y.length := ⟨hnum.2.2.2.2.2.2.2.2.1, hnum.2.2.2.2.2.2.2.2.2.1⟩
          have n10 := hnum.2.2.2.2.2.2.1
          have n11 := hnum.2.2.2.2.2.2.2.1
          have n2 := hnum.2.1
          have n3 := hnum.2.2.1
          clear hfc hnum
          have hXl : X.length = P1.length + Q1.length := by rw [eX]; simp
          have hYl : Y.length = P2.length + Q2.length := by rw [eY]; simp
          have HNS : Hid (P.length = a ∧ a + P1.length = s ∧ s + Q1.length = m ∧ m + P2.length = e ∧ e + Q2.length = b ∧ s + P2.length = mid ∧ b + C.length = n ∧ n ≤ cap ∧ n ≤ 1000000 ∧ P1.length + P2.length ≤ N ∧ Q1.length + Q2.length ≤ N) := by
            refine ⟨n1, z1, z2, z3, z4, z5, n4, n6, n7, ?_, ?_⟩
            · omega
            · omega
          have hsx := HSX.out
          have hsy := HSY.out
          rw [eX] at hsx
          rw [eY] at hsy
          have HS4 : Hid (Srt P1 ∧ Srt Q1 ∧ Srt P2 ∧ Srt Q2) := ⟨(List.pairwise_append.1 hsx).1, (List.pairwise_append.1 hsx).2.1, (List.pairwise_append.1 hsy).1, (List.pairwise_append.1 hsy).2.1⟩
          have HEND : Hid (∀ M1 M2 V, Stab (P1 ++ P2) M1 → Stab (Q1 ++ Q2) M2 → Row g tl (P ++ M1 ++ M2 ++ C) V → Two g none w V → SortPost P XY C g tl w V) := fun M1 M2 V h1 h2 h3 h4 => ⟨⟨M1 ++ M2, by rw [← HXY.out, eX, eY]; exact merge hsx hsy hle hlt2 h1 h2, by simpa using h3⟩, h4⟩
          have HR0 : Hid (Row g tl (P ++ P1 ++ Q1 ++ P2 ++ (Q2 ++ C)) W) := by
            have h := HROW.out
            rw [← HLL.out, eX, eY] at h
            show Row _ _ _ _
            simpa using h
          clear HROW HLO HHI HFC HNUM HQ HSX HSY HXY HLL eX eY z1 z2 z3 z4 z5 hle hlt2 n1 n2 n3 n4 n5 n6 n7 n8 n9 n10 n11 hXl hYl hsx hsy he hls hrh hlt hsr
          obtain ⟨B, hB⟩ : ∃ B, decide (s < m ∧ m < e) = B := ⟨_, rfl⟩
          have HBB := Lib.hid hB
          go_upto_region 39 with fail
          go_cut [185] from 178 to 185 (fun t wx => t = .bool B ∧ Row g tl (P ++ P1 ++ Q1 ++ P2 ++ (Q2 ++ C)) wx ∧ Two g none w wx)
          case first =>
            by_cases c1 : s < m
            · have t1 : decide ((s : Int) < (m : Int)) = true := decide_eq_true (by omega)
              have t1n : decide (s < m) = true := decide_eq_true c1
              by_cases c2 : m < e
              · have t2 : decide ((m : Int) < (e : Int)) = true := decide_eq_true (by omega)
                have t2n : decide (m < e) = true := decide_eq_true c2
                obtain rfl : true = B := by rw [← hB]; exact (decide_eq_true ⟨c1, c2⟩).symm
                clear hB c1 c2
                go_wp2
                go_meet
                case rel => exact ⟨rfl, HR0.out, HTW.out⟩
              · have t2 : decide ((m : Int) < (e : Int)) = false := decide_eq_false (by omega)
                have t2n : decide (m < e) = false := decide_eq_false c2
                obtain rfl : false = B := by rw [← hB]; exact (decide_eq_false (fun h => c2 h.2)).symm
                clear hB c1 c2
                go_wp2
                go_meet
                case rel => exact ⟨rfl, HR0.out, HTW.out⟩
            · have t1 : decide ((s : Int) < (m : Int)) = false := decide_eq_false (by omega)
              have t1n : decide (s < m) = false := decide_eq_false c1
              obtain rfl : false = B := by rw [← hB]; exact (decide_eq_false (fun h => c1 h.1)).symm
              clear hB c1
              go_wp2
              go_meet
              case rel => exact ⟨rfl, HR0.out, HTW.out⟩
          case rest =>
          rename World => W1
          obtain ⟨rfl, hr1, ht1⟩ := hcut
          clear HR0 HTW hB
          have HR0 := Lib.hid hr1
          have HTW := Lib.hid ht1
          clear hr1 ht1
          go_upto_if 185 with fail
          go_cut [] from 186 to 191 (fun wx => Row g tl (P ++ (P1 ++ P2) ++ (Q1 ++ Q2) ++ C) wx ∧ Two g none w wx)
          case first =>
            have hns := HNS.out
            cases B with
            | true =>
                obtain ⟨c1, c2⟩ := of_decide_eq_true HBB.out
                have HRO := Lib.hid (rotate_any (P ++ P1) Q1 P2 (Q2 ++ C) g n cap s m e tl (.func (.func 68) #[] #[]) W1 HR0.out (by omega) (by omega) (by simp; omega) (by simp; omega) (by simp; omega) (by simp; omega) hns.2.2.2.2.2.2.2.1 hns.2.2.2.2.2.2.2.2.1)
                clear hns c1 c2
                go_wp2_with fail
                refine HRO.out.mono ?_
                rintro e' w6 ⟨rfl, hr6, ht6⟩
                have HR6 : Hid (Row g tl (P ++ (P1 ++ P2) ++ (Q1 ++ Q2) ++ C) w6) := by show Row _ _ _ _; simpa using hr6
                have HT6 := Lib.hid (HTW.out.trans ht6)
                clear hr6 ht6
                go_wp2
                go_meet
                case rel => exact ⟨HR6.out, HT6.out⟩
            | false =>
                have hcc := of_decide_eq_false HBB.out
                have hz : P2 = [] ∨ Q1 = [] := by
                  rcases Nat.lt_or_ge s m with h | h
                  · exact .inl (List.eq_nil_of_length_eq_zero (by omega))
                  · exact .inr (List.eq_nil_of_length_eq_zero (by omega))
                have HR6 : Hid (Row g tl (P ++ (P1 ++ P2) ++ (Q1 ++ Q2) ++ C) W1) := by
                  have h := HR0.out
                  show Row _ _ _ _
                  rcases hz with hz | hz <;> (rw [hz] at h ⊢; simpa using h)
                clear hns hcc hz
                go_wp2
                go_meet
                case rel => exact ⟨HR6.out, HTW.out⟩
          case rest =>
          rename World => W2
          have HR2 := Lib.hid hcut.1
          have HT2 := Lib.hid hcut.2
          clear hcut HR0 HTW
          obtain ⟨D, hD⟩ : ∃ D, decide (a < s ∧ s < mid) = D := ⟨_, rfl⟩
          have HDD := Lib.hid hD
          go_upto_region 41 with fail
          go_cut [199] from 192 to 199 (fun t wx => t = .bool D ∧ Row g tl (P ++ (P1 ++ P2) ++ (Q1 ++ Q2) ++ C) wx ∧ Two g none w wx)
          case first =>
            by_cases c1 : a < s
            · have t1 : decide ((a : Int) < (s : Int)) = true := decide_eq_true (by omega)
              have t1n : decide (a < s) = true := decide_eq_true c1
              by_cases c2 : s < mid
              · have t2 : decide ((s : Int) < (mid : Int)) = true := decide_eq_true (by omega)
                have t2n : decide (s < mid) = true := decide_eq_true c2
                obtain rfl : true = D := by rw [← hD]; exact (decide_eq_true ⟨c1, c2⟩).symm
                clear hD c1 c2
                go_wp2
                go_meet
                case rel => exact ⟨rfl, HR2.out, HT2.out⟩
              · have t2 : decide ((s : Int) < (mid : Int)) = false := decide_eq_false (by omega)
                have t2n : decide (s < mid) = false := decide_eq_false c2
                obtain rfl : false = D := by rw [← hD]; exact (decide_eq_false (fun h => c2 h.2)).symm
                clear hD c1 c2
                go_wp2
                go_meet
                case rel => exact ⟨rfl, HR2.out, HT2.out⟩
            · have t1 : decide ((a : Int) < (s : Int)) = false := decide_eq_false (by omega)
              have t1n : decide (a < s) = false := decide_eq_false c1
              obtain rfl : false = D := by rw [← hD]; exact (decide_eq_false (fun h => c1 h.1)).symm
              clear hD c1
              go_wp2
              go_meet
              case rel => exact ⟨rfl, HR2.out, HT2.out⟩
          case rest =>
          rename World => W4
          obtain ⟨rfl, hr1, ht1⟩ := hcut
          clear HR2 HT2 hD
          have HR2 := Lib.hid hr1
          have HT2 := Lib.hid ht1
          clear hr1 ht1
          go_upto_if 199 with fail
          go_cut [] from 200 to 205 (fun wx => ∃ M1, Stab (P1 ++ P2) M1 ∧ Row g tl (P ++ M1 ++ (Q1 ++ Q2) ++ C) wx ∧ Two g none w wx)
          case first =>
            have hns := HNS.out
            cases D with
            | true =>
                obtain ⟨c1, c2⟩ := of_decide_eq_true HDD.out
                have HRO := Lib.hid (IH.out P P1 P2 ((Q1 ++ Q2) ++ C) g n cap a s mid tl W4 hns.2.2.2.2.2.2.2.2.2.1 (by have h := HR2.out; simpa using h) HS4.out.1 HS4.out.2.2.1 (by omega) (by omega) hns.1 hns.2.1 hns.2.2.2.2.2.1 (by simp; omega) hns.2.2.2.2.2.2.2.1 hns.2.2.2.2.2.2.2.2.1)
                clear hns c1 c2
                go_wp2_with fail
                refine HRO.out.mono ?_
                rintro e' w6 ⟨rfl, ⟨M1, hm1, hr6⟩, ht6⟩
                have HR6 : Hid (∃ M1, Stab (P1 ++ P2) M1 ∧ Row g tl (P ++ M1 ++ (Q1 ++ Q2) ++ C) w6 ∧ Two g none w w6) := ⟨M1, hm1, by simpa using hr6, HT2.out.trans ht6⟩
                clear hr6 ht6 hm1
                go_wp2
                go_meet
                case rel => exact HR6.out
            | false =>
                have hcc := of_decide_eq_false HDD.out
                have hz : P1 = [] ∨ P2 = [] := by
                  rcases Nat.lt_or_ge a s with h | h
                  · exact .inr (List.eq_nil_of_length_eq_zero (by omega))
                  · exact .inl (List.eq_nil_of_length_eq_zero (by omega))
                have hss : Srt (P1 ++ P2) := by
                  rcases hz with hz | hz
                  · rw [hz]; simpa using HS4.out.2.2.1
                  · rw [hz]; simpa using HS4.out.1
                have HR6 : Hid (∃ M1, Stab (P1 ++ P2) M1 ∧ Row g tl (P ++ M1 ++ (Q1 ++ Q2) ++ C) W4 ∧ Two g none w W4) := ⟨P1 ++ P2, Stab.refl hss, HR2.out, HT2.out⟩
                clear hns hcc hz hss
                go_wp2
                go_meet
                case rel => exact HR6.out
          case rest =>
          rename World => W3
          obtain ⟨M1, hm1, hr3, ht3⟩ := hcut
          have hM1l : M1.length = P1.length + P2.length := by rw [hm1.length]; simp
          have HM1 := Lib.hid hm1
          have HML := Lib.hid hM1l
          have HR3 := Lib.hid hr3
          have HT3 := Lib.hid ht3
          clear hm1 hr3 ht3 HR2 HT2 hM1l
          have hns := HNS.out
          by_cases c1 : mid < e
          · have t1 : decide ((mid : Int) < (e : Int)) = true := decide_eq_true (by omega)
            have t1n : decide (mid < e) = true := decide_eq_true c1
            by_cases c2 : e < b
            · have t2 : decide ((e : Int) < (b : Int)) = true := decide_eq_true (by omega)
              have t2n : decide (e < b) = true := decide_eq_true c2
              have hml := HML.out
              have HRO := Lib.hid (IH.out (P ++ M1) Q1 Q2 C g n cap mid e b tl W3 hns.2.2.2.2.2.2.2.2.2.2 (by have h := HR3.out; simpa using h) HS4.out.2.1 HS4.out.2.2.2 (by omega) (by omega) (by simp; omega) (by omega) hns.2.2.2.2.1 (by simp; omega) hns.2.2.2.2.2.2.2.1 hns.2.2.2.2.2.2.2.2.1)
              clear hns c1 c2 hml
              go_wp2_with fail
              refine HRO.out.mono ?_
              rintro e' w6 ⟨rfl, ⟨M2, hm2, hr6⟩, ht6⟩
              have HF := Lib.hid (HEND.out M1 M2 w6 HM1.out hm2 (by simpa using hr6) (HT3.out.trans ht6))
              clear hr6 ht6 hm2
              go_wp2
              simp [bodyPost, results, Try.results91, go_sem]
              exact HF.out
            · have t2 : decide ((e : Int) < (b : Int)) = false := decide_eq_false (by omega)
              have t2n : decide (e < b) = false := decide_eq_false c2
              have hz : Q2 = [] := List.eq_nil_of_length_eq_zero (by omega)
              have HF := Lib.hid (HEND.out M1 (Q1 ++ Q2) W3 HM1.out (Stab.refl (by rw [hz]; simpa using HS4.out.2.1)) HR3.out HT3.out)
              clear hns c1 c2 hz
              go_wp2
              simp [bodyPost, results, Try.results91, go_sem]
              exact HF.out
          · have t1 : decide ((mid : Int) < (e : Int)) = false := decide_eq_false (by omega)
            have t1n : decide (mid < e) = false := decide_eq_false c1
            have hz : Q1 = [] := List.eq_nil_of_length_eq_zero (by omega)
            have HF := Lib.hid (HEND.out M1 (Q1 ++ Q2) W3 HM1.out (Stab.refl (by rw [hz]; simpa using HS4.out.2.2.2)) HR3.out HT3.out)
            clear hns c1 hz
            go_wp2
            simp [bodyPost, results, Try.results91, go_sem]
            exact HF.out
end

end Go.Proofs.Ytjdgpbjjhgfikaa.Srt
