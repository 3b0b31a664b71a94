/- Pairs: each once of a sorted row (slices.Compact), package pairs' Sort. Condition: at most a million pairs. -/
import Derived.Test.YtnngldkpkhabeaaMg16
namespace Go.Proofs.Ytnngldkpkhabeaa.Pai

open Go.RowKit Go.PlainAid

open Go.Proofs.Ytnngldkpkhabeaa.Cel (two_below own_slice)

set_option linter.unusedVariables false

set_option linter.unusedSimpArgs false

def CpRel (L : List P2) (w : World) (i : Value) (W : World) : Prop :=
  ∃ k : Nat, 1 ≤ k ∧ k ≤ L.length ∧ i = .int .i64 (k : Int) ∧ compP (L.take k) = L.take k ∧ Below w.heap.size w W
def CqRel (L : List P2) (k0 g : Nat) (tl : List Value) (w : World) (i j : Value) (W : World) : Prop :=
  ∃ (K : List P2) (kk k2 : Nat), i = .int .i64 (kk : Int) ∧ j = .int .i64 (k2 : Int) ∧ 1 ≤ k2 ∧ k0 + k2 ≤ L.length ∧ kk < k0 + k2 ∧ K.length = L.length ∧ K.take kk = compP (L.take (k0 + k2)) ∧ K.drop (k0 + k2 - 1) = L.drop (k0 + k2 - 1) ∧ RowP g tl K W ∧ Tw g none w W
section
attribute [-go_sem] storeVar
set_option maxRecDepth 8000 in
set_option maxHeartbeats 6400000 in
theorem compactP_any (L : List P2) (g n cap : Nat) (tl : List Value) (w : World) (hr : RowP g tl L w) (hn : L.length = n) (hc : n ≤ cap) (hl : n ≤ 1000000) (hcl : ∀ (W : World) (k m c : Nat) (cur : Array Value), 0 < m → W.heap[g]? = some (.cells cur 24 (0, 0)) → k * 2 + m * 2 ≤ cur.size → ∃ zs : List Value, zs.length = m * 2 ∧ ∀ ty, (Builtin.clear_ #[22] ty #[.slice (some ⟨g, k * 2, none⟩) m c]).run Try.prog W = .ok (.tuple #[]) (W.setRow g (splice cur.toList (k * 2) zs).toArray)) :
    Calls Try.prog 33 #[.slice (some ⟨g, 0, none⟩) n cap] w fun e w' => e = .returned (.slice (some ⟨g, 0, none⟩) (compP L).length cap) ∧ (∃ tl', RowP g tl' (compP L) w') ∧ Tw g none w w' := by
  by_cases h2 : n < 2
  · have e : compP L = L := by
      match L, hn with
      | [], _ => rfl
      | [x], _ => rfl
      | x :: y :: l, hn => simp at hn; omega
    have t0 : decide ((n : Int) < 2) = true := decide_eq_true (by omega)
    have t0n : decide (n < 2) = true := decide_eq_true h2
    rw [e, hn]
    clear hcl hc hl
    go_enter Try.func33, Try.ntmps33
    go_wp2
    go_ret
    exact ⟨rfl, ⟨tl, hr⟩, Cel.Two.refl _ _ _⟩
  · have t0 : decide ((n : Int) < 2) = false := decide_eq_false (by omega)
    have t0n : decide (n < 2) = false := decide_eq_false h2
    have HST : Hid (∀ x : Nat, x = 1 → CpRel L w (.int .i64 (x : Int)) w) := fun x hx => by
      refine ⟨x, by omega, by omega, rfl, ?_, Below.refl _ _⟩
      rw [hx]
      cases L with
      | nil => rfl
      | cons y l => simp [compP, cmpR2]
    have HR := Lib.hid hr
    have HN : Hid (L.length = n ∧ n ≤ cap ∧ n ≤ 1000000 ∧ 2 ≤ n) := ⟨hn, hc, hl, by omega⟩
    have HCL := Lib.hid hcl
    clear hr hn hc hl hcl h2
    go_enter Try.func33, Try.ntmps33
    go_wp2_with fail
    go_loopw [3] (fun i W => CpRel L w i W) (fun i _ => (n + 1) - (intOf i).toNat)
    case atStart => exact HST.out 1 rfl
    case round =>
      rename World => W
      clear HST t0 t0n
      obtain ⟨k, hk1, hkn, rfl, hcp, hbw⟩ := hrel
      have HCP := Lib.hid hcp
      have HBW := Lib.hid hbw
      clear hcp hbw
      have hnn := HN.out
      by_cases hlt : k < n
      · have t1 : decide ((k : Int) < (n : Int)) = true := decide_eq_true (by omega)
        have t1n : decide (k < n) = true := decide_eq_true hlt
        obtain ⟨m, hm⟩ : ∃ m, k - 1 = m := ⟨_, rfl⟩
        have wm : IntKind.i64.wrap ((k : Int) - 1) = (m : Int) := by rw [show (k : Int) - 1 = (m : Int) by omega]; exact IntWalk.i64_in _ (by omega)
        obtain ⟨u, hu⟩ : ∃ u, L[k]? = some u := ⟨_, List.getElem?_eq_getElem (by omega)⟩
        obtain ⟨v, hv⟩ : ∃ v, L[m]? = some v := ⟨_, List.getElem?_eq_getElem (by omega)⟩
        have hsu := compP_succ hk1 hu (by rw [hm]; exact hv)
        have hrd : RowP g tl L W := HR.out.keep HBW.out
        obtain ⟨l0, l1⟩ := hrd.cells hu
        obtain ⟨l2, l3⟩ := hrd.cells hv
        have b0 : (0 : Int) ≤ k := by omega
        have b1 : (k : Int) < n := by omega
        have b2 : (0 : Int) ≤ m := by omega
        have b3 : (m : Int) < n := by omega
        have heq := eq_pair2 u v
        have wk : IntKind.i64.wrap ((k : Int) + 1) = ((k + 1 : Nat) : Int) := by rw [Int.natCast_add]; exact IntWalk.i64_in _ (by omega)
        have HUV : Hid (L[k]? = some u ∧ L[m]? = some v) := ⟨hu, hv⟩
        obtain ⟨d, hd⟩ : ∃ d, eqB2 u v = d := ⟨_, rfl⟩
        simp only [hd] at heq
        have HD := Lib.hid hd
        have HSU := Lib.hid hsu
        have HKN : Hid (1 ≤ k ∧ k < n) := ⟨hk1, hlt⟩
        clear hsu hu hv hrd hd hnn hm hlt hk1 hkn
        go_wp2
        go_quiet (fail)
        clear l0 l1 l2 l3
        have hb2 : Below w.heap.size w (W.drewN nq) := below_drewN HBW.out nq
        obtain ⟨V2, hV2⟩ : ∃ V, W.drewN nq = V := ⟨_, rfl⟩
        rw [hV2] at hb2
        rw [hV2]
        have HB2 := Lib.hid hb2
        clear hb2 hV2 heq
        cases d with
        | false =>
          have HNX : Hid (CpRel L w (.int .i64 ((k + 1 : Nat) : Int)) V2) := ⟨k + 1, by omega, by have := HKN.out; have := HN.out; omega, rfl, by
            rw [HSU.out, HD.out, HCP.out, List.take_add_one, HUV.out.1]; rfl, HB2.out⟩
          go_wp2
          go_roundw
          case rel => exact HNX.out
          case measure => have := HKN.out; simp [intOf]; omega
        | true =>
          have HR2 : Hid (RowP g tl L V2) := HR.out.keep HB2.out
          have hnn := HN.out
          have hkn := HKN.out
          obtain ⟨r, hr⟩ : ∃ r, n - k = r := ⟨_, rfl⟩
          have c0 : (k : Int) ≤ n := by omega
          have c1 : (k : Int) ≤ cap := by omega
          have c2 : (n : Int) ≤ cap := by omega
          have c3 : ¬ cap = k := by omega
          have c4 : ¬ cap - k = 0 := by omega
          have c5 : n - k = r := hr
          have HI0 : Hid (∀ x y : Nat, x = k → y = 1 → CqRel L k g tl w (.int .i64 (x : Int)) (.int .i64 (y : Int)) V2) := fun x y hx hy => by
            refine ⟨L, x, y, rfl, rfl, by omega, by omega, by omega, rfl, ?_, rfl, HR2.out, two_below HB2.out⟩
            rw [hx, hy, HSU.out, HD.out, if_pos rfl, List.append_nil, HCP.out]
          clear hnn hkn hr
          have HKK := Lib.hid c5
          go_wp2_with fail
          clear c0 c1 c2 c3 c4 c5 wk wm b0 b1 b2 b3
          go_loopw [3, 5] (fun i j W => CqRel L k g tl w i j W) (fun i j _ => (r + 1) - (intOf j).toNat)
          case atStart => exact HI0.out k 1 rfl rfl
          case round =>
            rename World => V
            clear HI0
            obtain ⟨K, kk, k2, rfl, rfl, h1, h2, h3, hKl, hKt, hKd, hrow, htw⟩ := hrel
            have HROW := Lib.hid hrow
            have HTW := Lib.hid htw
            have HKT := Lib.hid hKt
            have HKD := Lib.hid hKd
            clear hrow htw hKt hKd
            have hnn := HN.out
            have hkr := HKK.out
            have hkn := HKN.out
            by_cases hl2 : k2 < r
            · have t2 : decide ((k2 : Int) < (r : Int)) = true := decide_eq_true (by omega)
              have t2n : decide (k2 < r) = true := decide_eq_true hl2
              obtain ⟨m2, hm2⟩ : ∃ m2, k2 - 1 = m2 := ⟨_, rfl⟩
              have wm2 : IntKind.i64.wrap ((k2 : Int) - 1) = (m2 : Int) := by rw [show (k2 : Int) - 1 = (m2 : Int) by omega]; exact IntWalk.i64_in _ (by omega)
              obtain ⟨x, hx⟩ : ∃ x, L[k + k2]? = some x := ⟨_, List.getElem?_eq_getElem (by omega)⟩
              obtain ⟨y, hy⟩ : ∃ y, L[k + m2]? = some y := ⟨_, List.getElem?_eq_getElem (by omega)⟩
              have hKx : K[k + k2]? = some x := by
                have h : (K.drop (k + k2 - 1))[1]? = (L.drop (k + k2 - 1))[1]? := by rw [HKD.out]
                rw [List.getElem?_drop, List.getElem?_drop, show k + k2 - 1 + 1 = k + k2 by omega, hx] at h
                exact h
              have hKy : K[k + m2]? = some y := by
                have h : (K.drop (k + k2 - 1))[0]? = (L.drop (k + k2 - 1))[0]? := by rw [HKD.out]
                rw [List.getElem?_drop, List.getElem?_drop, show k + k2 - 1 + 0 = k + m2 by omega, hy] at h
                exact h
              have hsu := compP_succ (L := L) (i := k + k2) (by omega) hx (by rw [show k + k2 - 1 = k + m2 by omega]; exact hy)
              have hrd : RowP g tl K V := HROW.out
              obtain ⟨l0, l1⟩ := hrd.cells hKx
              obtain ⟨l2, l3⟩ := hrd.cells hKy
              rw [Nat.add_mul] at l0 l1 l2 l3
              have b0 : (0 : Int) ≤ k2 := by omega
              have b1 : (k2 : Int) < r := by omega
              have b2 : (0 : Int) ≤ m2 := by omega
              have b3 : (m2 : Int) < r := by omega
              have b4 : (0 : Int) ≤ kk := by omega
              have b5 : (kk : Int) < n := by omega
              have heq := eq_pair2 x y
              have wk2 : IntKind.i64.wrap ((k2 : Int) + 1) = ((k2 + 1 : Nat) : Int) := by rw [Int.natCast_add]; exact IntWalk.i64_in _ (by omega)
              have wkk : IntKind.i64.wrap ((kk : Int) + 1) = ((kk + 1 : Nat) : Int) := by rw [Int.natCast_add]; exact IntWalk.i64_in _ (by omega)
              obtain ⟨d2, hd2⟩ : ∃ d2, eqB2 x y = d2 := ⟨_, rfl⟩
              simp only [hd2] at heq
              have HD2 := Lib.hid hd2
              have HSU2 := Lib.hid hsu
              have HXY : Hid (K[k + k2]? = some x ∧ K[k + m2]? = some y) := ⟨hKx, hKy⟩
              have HNS : Hid (1 ≤ k2 ∧ k + k2 < n ∧ kk < k + k2 ∧ K.length = n ∧ L.length = n ∧ k2 < r) := by show _ ∧ _; omega
              clear hx hy hKx hKy hsu hrd hd2 hm2 hnn hkr hkn h1 h2 h3 hKl hl2
              go_wp2
              go_quiet (fail)
              clear l0 l1 l2 l3
              have hr3 : RowP g tl K (V.drewN nq) := HROW.out
              have ht3 : Tw g none w (V.drewN nq) := HTW.out.trans (tw_drewN g nq V)
              obtain ⟨V3, hV3⟩ : ∃ W, V.drewN nq = W := ⟨_, rfl⟩
              rw [hV3] at hr3 ht3
              rw [hV3]
              have HR3 := Lib.hid hr3
              have HT3 := Lib.hid ht3
              clear hr3 ht3 hV3 heq
              cases d2 with
              | true =>
                have HNX : Hid (CqRel L k g tl w (.int .i64 (kk : Int)) (.int .i64 ((k2 + 1 : Nat) : Int)) V3) := by
                  have h := HNS.out
                  refine ⟨K, kk, k2 + 1, rfl, rfl, by omega, by omega, by omega, by omega, ?_, ?_, HR3.out, HT3.out⟩
                  · rw [show k + (k2 + 1) = k + k2 + 1 by omega, HSU2.out, HD2.out, if_pos rfl, List.append_nil]; exact HKT.out
                  · have hd := HKD.out
                    have e1 : K.drop (k + (k2 + 1) - 1) = (K.drop (k + k2 - 1)).drop 1 := by rw [List.drop_drop]; congr 1; omega
                    have e2 : L.drop (k + (k2 + 1) - 1) = (L.drop (k + k2 - 1)).drop 1 := by rw [List.drop_drop]; congr 1; omega
                    rw [e1, e2, hd]
                go_wp2
                go_roundw
                case rel => exact HNX.out
                case measure => have := HNS.out; simp [intOf]; omega
              | false =>
                have hns := HNS.out
                have hr3 : RowP g tl K V3 := HR3.out
                obtain ⟨q0, q1⟩ := hr3.cells HXY.out.1
                rw [Nat.add_mul] at q0 q1
                have s0 := hr3.store (i := kk) (by omega) x
                have hr4 : RowP g tl (K.set kk x) (V3.setRow g (flatP (K.set kk x) ++ tl).toArray) := hr3.set _
                have HNX : Hid (CqRel L k g tl w (.int .i64 ((kk + 1 : Nat) : Int)) (.int .i64 ((k2 + 1 : Nat) : Int)) (V3.setRow g (flatP (K.set kk x) ++ tl).toArray)) := by
                  refine ⟨K.set kk x, kk + 1, k2 + 1, rfl, rfl, by omega, by omega, by omega, by rw [List.length_set]; omega, ?_, ?_, hr4, HT3.out.trans (tw_row g _ _)⟩
                  · rw [show k + (k2 + 1) = k + k2 + 1 by omega, HSU2.out, HD2.out, ← HKT.out, List.take_add_one, List.getElem?_set, if_pos rfl, if_pos (by omega), List.take_set_of_le (Nat.le_refl _)]; rfl
                  · have hd := HKD.out
                    have e1 : (K.set kk x).drop (k + (k2 + 1) - 1) = K.drop (k + (k2 + 1) - 1) := List.drop_set_of_lt (by omega)
                    have e3 : K.drop (k + (k2 + 1) - 1) = (K.drop (k + k2 - 1)).drop 1 := by rw [List.drop_drop]; congr 1; omega
                    have e2 : L.drop (k + (k2 + 1) - 1) = (L.drop (k + k2 - 1)).drop 1 := by rw [List.drop_drop]; congr 1; omega
                    rw [e1, e3, e2, hd]
                clear hns hr3 hr4
                go_wp2
                go_roundw
                case rel => exact HNX.out
                case measure => have := HNS.out; simp [intOf]; omega
            · have t2 : decide ((k2 : Int) < (r : Int)) = false := decide_eq_false (by omega)
              have t2n : decide (k2 < r) = false := decide_eq_false hl2
              have hee : k + k2 = n := by omega
              have hct : K.take kk = compP L := by rw [HKT.out, hee, List.take_of_length_le (by omega)]
              have hcl2 : (compP L).length = kk := by rw [← hct, List.length_take]; omega
              have hfit : kk * 2 + (n - kk) * 2 ≤ (flatP K ++ tl).toArray.size := by rw [List.size_toArray, List.length_append, flatP_len]; omega
              obtain ⟨zs, hz, hcr⟩ := HCL.out V kk (n - kk) (cap - kk) _ (by omega) HROW.out hfit
              have HF : Hid ((∃ tl', RowP g tl' (compP L) (V.setRow g (splice (flatP K ++ tl).toArray.toList (kk * 2) zs).toArray)) ∧ Tw g none w (V.setRow g (splice (flatP K ++ tl).toArray.toList (kk * 2) zs).toArray)) := by
                refine ⟨⟨zs ++ (flatP K ++ tl).drop (kk * 2 + zs.length), ?_⟩, HTW.out.trans (tw_row g _ _)⟩
                have hh := setRow_heap V g _ (splice (flatP K ++ tl).toArray.toList (kk * 2) zs).toArray 24 (0, 0) HROW.out
                show _ = _
                rw [hh, ← hct, ← flatP_take]
                unfold splice
                rw [List.take_append_of_le_length (by rw [flatP_len]; omega)]
                try simp
              have c0 : (kk : Int) ≤ n := by omega
              have c1 : (kk : Int) ≤ cap := by omega
              have c2 : (n : Int) ≤ cap := by omega
              have c3 : ¬ cap = kk := by omega
              have c4 : ¬ cap - kk = 0 := by omega
              have c6 : (0 : Int) ≤ kk := by omega
              have HLK : Hid ((compP L).length = kk) := hcl2
              clear hee hct hcl2 hfit hz hnn hkr hkn h1 h2 h3 hKl hl2 HROW HTW HKT HKD
              go_wp2
              go_ret
              rw [HLK.out]
              exact ⟨rfl, HF.out⟩
      · obtain rfl : k = n := by omega
        have t1 : decide ((k : Int) < (k : Int)) = false := decide_eq_false (by omega)
        have HE : Hid (compP L = L) := by have h := HCP.out; rw [List.take_of_length_le (by omega)] at h; exact h
        have HF : Hid ((∃ tl', RowP g tl' L W) ∧ Tw g none w W) := ⟨⟨tl, HR.out.keep HBW.out⟩, two_below HBW.out⟩
        have HLE : Hid (L.length = k) := hnn.1
        clear hnn hlt hk1 hkn
        go_wp2
        go_ret
        rw [HE.out, HLE.out]
        exact ⟨rfl, HF.out⟩
end

theorem compactP_nil (w : World) :
    Calls Try.prog 33 #[.slice none 0 0] w fun e w' => e = .returned (.slice none 0 0) ∧ w = w' := by
  go_enter Try.func33, Try.ntmps33
  go_wp2
  go_ret
  exact ⟨rfl, rfl⟩
theorem zeroPair (w : World) : (zeroValue 24).run Try.prog w = .ok (.agg #[.int .i64 0, .int .i64 0]) w := by kernel_rfl
theorem compactP_own (L : List P2) (g n cap : Nat) (tl : List Value) (w : World) (hr : RowP g tl L w) (hn : L.length = n) (hc : n ≤ cap) (hl : n ≤ 1000000) :
    Calls Try.prog 33 #[.slice (some ⟨g, 0, none⟩) n cap] w fun e w' => e = .returned (.slice (some ⟨g, 0, none⟩) (compP L).length cap) ∧ (∃ tl', RowP g tl' (compP L) w') ∧ Tw g none w w' :=
  compactP_any L g n cap tl w hr hn hc hl (fun W k m c cur hm hg hf => run_clear2 (P := Try.prog) W 22 24 (.agg #[.int .i64 0, .int .i64 0]) [.int .i64 0, .int .i64 0] Try.underlying22 zeroPair rfl rfl (by intro v hv; simp at hv; rw [hv]; rfl) g (k * 2) m c hm cur 24 hg hf)
theorem own_rowP {w : World} {B n c : Nat} {A : Option Addr} {l : List P2} (h : w.ownsRow B 24 2 (.slice A n c) n (flatP l)) (hl : l.length = n) : (A = none ∧ n = 0 ∧ c = 0) ∨ ∃ g tl, A = some ⟨g, 0, none⟩ ∧ B ≤ g ∧ n ≤ c ∧ c ≤ maxLen ∧ RowP g tl l w := by
  rcases h.2 with ⟨h0, h1⟩ | ⟨g, c', cur, h0, hg1, hg2, hg3, hg4, hg5⟩
  · injection h0 with h2 h3 h4
    exact .inl ⟨h2, h1, h4⟩
  · injection h0 with h2 h3 h4
    subst h2 h4
    right
    refine ⟨g, cur.toList.drop (l.length * 2), rfl, hg1, hg3, hg4, ?_⟩
    show w.heap[g]? = _
    rw [hg2, ← hg5.2, hl, List.take_append_drop]
theorem cmpR2_len : ∀ (l : List P2) (p : P2), (cmpR2 p l).length ≤ l.length
  | [], _ => Nat.le_refl _
  | x :: l, p => by
    simp only [cmpR2]
    split
    · have := cmpR2_len l x; simp; omega
    · have := cmpR2_len l x; simp; omega
theorem compP_len (l : List P2) : (compP l).length ≤ l.length := by
  cases l with
  | nil => exact Nat.le_refl _
  | cons x l => have := cmpR2_len l x; simp [compP]; exact this
/-- A row of pairs of the call's own, or nil. -/
def OwnP (B : Nat) (A : Option Addr) (n c : Nat) (C : List P2) (W : World) : Prop :=
  C.length = n ∧ n ≤ c ∧ c ≤ maxLen ∧ ((A = none ∧ n = 0 ∧ c = 0) ∨ ∃ g tl, A = some ⟨g, 0, none⟩ ∧ B ≤ g ∧ RowP g tl C W)
theorem OwnP.keep {B : Nat} {A : Option Addr} {n c : Nat} {C : List P2} {W W' : World} (h : OwnP B A n c C W) (b : Below W.heap.size W W') : OwnP B A n c C W' := by
  obtain ⟨h1, h2, h3, h4⟩ := h
  refine ⟨h1, h2, h3, ?_⟩
  rcases h4 with h4 | ⟨g, tl, q1, q2, q3⟩
  · exact .inl h4
  · exact .inr ⟨g, tl, q1, q2, q3.keep b⟩
end Go.Proofs.Ytnngldkpkhabeaa.Pai
