/- Transitions: what is wrong first, as the program tells it, and the document; whether there is a pair. Condition: the variables hold what the program lays there; at most 1,000 pairs, and 2 to the power 40 ids. Transitions: what is wrong first, as the document tells it; whether there is a pair, as both tell it. Condition: at most 1,000 pairs, and 2 to the power 62 ids. Transitions: where pairs lead to from each id, as a map of rows; a copy of such a map. Condition: at most a million pairs. Transitions: where pairs lead to, the program's links. Condition: at most a million pairs. Transitions: a search in which no id was met. Condition: at most a million pairs. Rows of rows of numbers, of the call's own: a row more, a number more in one of them. No condition. Transitions: groups, at the chapter's example: what stands while they are gathered. No condition. Transitions: the groups of the chapter's example. No condition. Transitions: the chapter's example holds, as law 15 asks it; what an error is told as. No condition. -/
import Derived.Test.YtmcmmbkodllpkaaGreatDoorMg28
import Derived.Test.YtmcmmbkodllpkaaGreatDoorMg23
import Derived.Test.YtmcmmbkodllpkaaGreatDoorMg29
import Derived.Deep.CutRange
import Derived.Laws.OwnMore
import Derived.Test.YtmcmmbkodllpkaaGreatDoorMg05
namespace Go.Proofs.YtmcmmbkodllpkaaGreatDoor.Rel

open Go.RowKit Go.PlainAid Go.Proofs.YtmcmmbkodllpkaaGreatDoor.Oct Go.Proofs.YtmcmmbkodllpkaaGreatDoor.Flt Go.Proofs.YtmcmmbkodllpkaaGreatDoor.Rdr Go.Proofs.YtmcmmbkodllpkaaGreatDoor.Args Go.Proofs.YtmcmmbkodllpkaaGreatDoor.Win

open Go.Proofs.YtmcmmbkodllpkaaGreatDoor.Pai (P2 pairC lessB riseB PairsAt less_any less10_any rise_take pairs_of kept2 kept4)

open Go.Proofs.YtmcmmbkodllpkaaGreatDoor.Act (I64)

open Go.Proofs.YtmcmmbkodllpkaaGreatDoor.Prt (fb fb_step fb_end take_snoc)

set_option linter.unusedVariables false

set_option linter.unusedSimpArgs false

def bad1R (ids : List Int) (pre : List P2) (x : P2) : Nat := if memB ids x.f = false then 10 else if memB ids x.t = false then 10 else if x.f = x.t then 15 else if riseB pre x = false then 9 else 0
def badR (ids : List Int) (l : List P2) : Nat × Int := fb (bad1R ids) [] l
theorem bad1R_le (ids : List Int) (pre : List P2) (x : P2) : bad1R ids pre x ≤ 18 := by
  unfold bad1R
  split
  · omega
  · split
    · omega
    · split
      · omega
      · split <;> omega
def RKRel (ids : List Int) (l : List P2) (q : Nat × Int) (V : Value) (w : World) (i : Value) (wr : World) : Prop :=
  ∃ k : Nat, k ≤ l.length ∧ i = .int .i64 (k : Int) ∧ q = fb (bad1R ids) (l.take k) (l.drop k) ∧ OwnsZ w.heap.size (risZ ids) V wr ∧ Below w.heap.size w wr
theorem ownsZ_kept {B : Nat} {zs : List Int} {V : Value} {w w' : World} (h : OwnsZ B zs V w) (b : Below w.heap.size w w') : OwnsZ B zs V w' := ⟨owns_kept h.1 b, h.2⟩
set_option maxRecDepth 8000 in
set_option maxHeartbeats 6400000 in
theorem rchk_any (A : Option Addr) (cap n : Nat) (l : List P2) (I : Option Addr) (li ci : Nat) (ids : List Int) (w : World) (hn : Names w) (h : PairsAt w A l) (hln : l.length = n) (hl : n ≤ 1000) (hI : IntsBelow w.heap.size w (.slice I li ci) ids) (hids : ids.length ≤ 1099511627776) :
    Calls Tryz.prog 60 #[.slice A n cap, .slice I li ci] w fun e w' => ∃ x, e = .returned x ∧ WrongA w' x (badR ids l).1 (badR ids l).2 ∧ Below w.heap.size w w' := by
  obtain ⟨q, hq⟩ : ∃ q, badR ids l = q := ⟨_, rfl⟩
  have HQ := Lib.hid hq
  rw [hq]
  have HA := Lib.hid hln
  have H := Lib.hid h
  have HN := Lib.hid hn
  have HL : Hid (ids.length ≤ 1099511627776) := hids
  have HR := Lib.hid (rising_any I li ci ids w hI hids)
  clear hq hln h hn hids hI
  go_enter Tryz.func60, Tryz.ntmps60
  go_wp2_with fail
  refine HR.out.mono ?_
  rintro e w1 ⟨V, rfl, ho1, hb1⟩
  have HO1 := Lib.hid ho1
  have HB1 := Lib.hid hb1
  obtain ⟨VA, VN, VC, hV⟩ := ho1.slice
  subst hV
  clear ho1 hb1 HR
  go_wp2_with fail
  go_loopw [13] (fun i wr => RKRel ids l q (.slice VA VN VC) w i wr) (fun i _ => n - (intOf i).toNat)
  case atStart => exact ⟨0, Nat.zero_le _, rfl, HQ.out.symm, HO1.out, HB1.out⟩
  case round =>
    obtain ⟨k, hk, rfl, hq, ho, hb⟩ := hrel
    have HO := Lib.hid ho
    have HB := Lib.hid hb
    have HQK := Lib.hid hq
    have hka : k ≤ n := by rw [← HA.out]; exact hk
    clear hk hq ho hb HO1 HB1
    by_cases hlt : k < n
    · obtain ⟨x, hx⟩ : ∃ x, l[k]? = some x := ⟨_, List.getElem?_eq_getElem (by rw [HA.out]; exact hlt)⟩
      have HX := Lib.hid hx
      obtain ⟨ax, rfl, c1, c2⟩ := (H.out.kept HB.out) k x hx
      have hst := HQK.out
      rw [fb_step (bad1R ids) l k x hx] at hst
      have HST := Lib.hid hst
      have hki : (0 : Int) ≤ k := by omega
      have hkb : (k : Int) < n := by omega
      have hk1 : IntKind.i64.wrap ((k : Int) + 1) = (k : Int) + 1 := IntWalk.i64_in _ (by omega)
      have hb5 : Below wr.heap.size wr (wr.alloc (.cells (pairC x) 86)) := (Below.refl _ _).alloc (Nat.le_refl _) _
      have HB5 := Lib.hid (HB.out.trans (hb5.mono HB.out.size))
      have HO5 := Lib.hid (ownsZ_kept HO.out hb5)
      have HX5 := Lib.hid (heap_alloc_new wr (.cells (pairC x) 86))
      clear hx hst hb5 HO HQK
      obtain ⟨mf, hmf⟩ : ∃ b, memB ids x.f = b := ⟨_, rfl⟩
      obtain ⟨mt, hmt⟩ : ∃ b, memB ids x.t = b := ⟨_, rfl⟩
      have HIN : Hid (∀ (v : Int) (W : World), OwnsZ w.heap.size (risZ ids) (.slice VA VN VC) W → _) := fun v W h => rin_any w.heap.size (.slice VA VN VC) (risZ ids) v W h (risZ_rises ids) (by have := risZ_len ids; have := HL.out; omega)
      have HBD1 : Hid (∀ pre, bad1R ids pre x = if mf = false then 10 else if mt = false then 10 else if x.f = x.t then 15 else if riseB pre x = false then 9 else 0) := fun pre => by show bad1R ids pre x = _; unfold bad1R; rw [hmf, hmt]
      have HINF := Lib.hid (HIN.out x.f _ HO5.out)
      rw [memB_ris, hmf] at HINF
      have HINT : Hid (∀ W, OwnsZ w.heap.size (risZ ids) (.slice VA VN VC) W → _) := fun W h => HIN.out x.t W h
      rw [memB_ris, hmt] at HINT
      clear HIN hmf hmt
      obtain ⟨fx, tx⟩ := x
      unfold pairC at HB5 HO5 HX5 HINF
      dsimp only at c1 c2 HB5 HO5 HX5 HINF HBD1
      go_wp2_with fail
      refine HINF.out.mono ?_
      rintro e w6 ⟨rfl, m6, hw6⟩
      have hb6 : Below (wr.alloc (.cells #[.int .i64 fx, .int .i64 tx] 86)).heap.size (wr.alloc (.cells #[.int .i64 fx, .int .i64 tx] 86)) w6 := by rw [hw6]; exact ⟨rfl, rfl, rfl, Nat.le_refl _, fun _ _ => rfl⟩
      have HB6 := Lib.hid (HB5.out.trans (hb6.mono HB5.out.size))
      have HO6 := Lib.hid (ownsZ_kept HO5.out hb6)
      have HX6 := Lib.hid ((hb6.block _ (lt_of_block HX5.out)).trans HX5.out)
      have HI2 := Lib.hid (HINT.out w6 HO6.out)
      have y0 := cell_of_row _ _ 0 _ _ _ HX6.out
      have y1 := cell_of_row _ _ 1 _ _ _ HX6.out
      simp only [List.getElem?_toArray, List.getElem?_cons_zero, List.getElem?_cons_succ] at y0 y1
      clear hb6 hw6 HB5 HO5 HX5 HINF HINT c1 c2
      cases mf with
      | false =>
        have hbd : bad1R ids (l.take k) ⟨fx, tx⟩ = 10 := by rw [HBD1.out]; simp
        have hqr : q = (10, (k : Int)) := by
          have h := HST.out
          rw [hbd, if_neg (by decide)] at h
          exact h
        obtain rfl := hqr
        clear HST HQ hbd
        go_wp2_with (first
          | (go_at_call 55; refine (new_yes 10 (by omega) (by omega) _ (HN.out.kept HB6.out)).mono ?_; rintro e w' ⟨rfl, rfl⟩)
          | (go_at_call 57; refine (at_any (k : Int) _ [] 10 _ rfl).mono ?_; rintro e w3 ⟨y, rfl, hy, hb3⟩; have HY := Lib.hid hy; have HBE := Lib.hid ((HB6.out).trans (hb3.mono (HB6.out).size)); clear hy hb3))
        go_ret
        exact ⟨y, rfl, .inr ⟨by omega, by omega, HY.out⟩, HBE.out⟩
      | true =>
        go_wp2_with fail
        refine HI2.out.mono ?_
        rintro e w7 ⟨rfl, m7, hw7⟩
        have hb7 : Below w6.heap.size w6 w7 := by rw [hw7]; exact ⟨rfl, rfl, rfl, Nat.le_refl _, fun _ _ => rfl⟩
        have HB7 := Lib.hid (HB6.out.trans (hb7.mono HB6.out.size))
        have HO7 := Lib.hid (ownsZ_kept HO6.out hb7)
        have HX7 := Lib.hid ((hb7.block _ (lt_of_block HX6.out)).trans HX6.out)
        clear hb7 hw7 HB6 HO6 HX6 HI2 y0 y1
        have y0 := cell_of_row _ _ 0 _ _ _ HX7.out
        have y1 := cell_of_row _ _ 1 _ _ _ HX7.out
        simp only [List.getElem?_toArray, List.getElem?_cons_zero, List.getElem?_cons_succ] at y0 y1
        cases mt with
        | false =>
          have hbd : bad1R ids (l.take k) ⟨fx, tx⟩ = 10 := by rw [HBD1.out]; simp
          have hqr : q = (10, (k : Int)) := by
            have h := HST.out
            rw [hbd, if_neg (by decide)] at h
            exact h
          obtain rfl := hqr
          clear HST HQ hbd
          go_wp2_with (first
            | (go_at_call 55; refine (new_yes 10 (by omega) (by omega) _ (HN.out.kept HB7.out)).mono ?_; rintro e w' ⟨rfl, rfl⟩)
            | (go_at_call 57; refine (at_any (k : Int) _ [] 10 _ rfl).mono ?_; rintro e w3 ⟨y, rfl, hy, hb3⟩; have HY := Lib.hid hy; have HBE := Lib.hid ((HB7.out).trans (hb3.mono (HB7.out).size)); clear hy hb3))
          go_ret
          exact ⟨y, rfl, .inr ⟨by omega, by omega, HY.out⟩, HBE.out⟩
        | true =>
          by_cases hft : fx = tx
          · have te : (fx == tx) = true := by simp [hft]
            have hbd : bad1R ids (l.take k) ⟨fx, tx⟩ = 15 := by rw [HBD1.out]; simp [hft]
            have hqr : q = (15, (k : Int)) := by
              have h := HST.out
              rw [hbd, if_neg (by decide)] at h
              exact h
            obtain rfl := hqr
            clear HST HQ hbd hft
            go_wp2_with (first
              | (go_at_call 55; refine (new_yes 15 (by omega) (by omega) _ (HN.out.kept HB7.out)).mono ?_; rintro e w' ⟨rfl, rfl⟩)
              | (go_at_call 57; refine (at_any (k : Int) _ [] 15 _ rfl).mono ?_; rintro e w3 ⟨y, rfl, hy, hb3⟩; have HY := Lib.hid hy; have HBE := Lib.hid ((HB7.out).trans (hb3.mono (HB7.out).size)); clear hy hb3))
            go_ret
            exact ⟨y, rfl, .inr ⟨by omega, by omega, HY.out⟩, HBE.out⟩
          · have te : (fx == tx) = false := by simp [hft]
            have HFT := Lib.hid hft
            clear hft
            rcases Nat.eq_zero_or_pos k with hk0 | hk0
            · have HQ2 : Hid (q = fb (bad1R ids) (l.take (k + 1)) (l.drop (k + 1))) := by
                have hr0 : riseB (l.take k) ⟨fx, tx⟩ = true := by rw [hk0]; rfl
                have hbd : bad1R ids (l.take k) ⟨fx, tx⟩ = 0 := by rw [HBD1.out]; simp [HFT.out, hr0]
                have h := HST.out
                rw [hbd, if_pos rfl] at h
                exact h
              have tk : decide ((0 : Int) < (k : Int)) = false := decide_eq_false (by omega)
              have tk2 : decide (0 < k) = false := decide_eq_false (by omega)
              clear hk0 HST
              go_wp2
              go_quiet (fail)
              have HB8 := Lib.hid (below_drewN HB7.out nq)
              have HO8 : Hid (OwnsZ w.heap.size (risZ ids) (.slice VA VN VC) (w7.drewN nq)) := ownsZ_kept HO7.out ⟨rfl, rfl, rfl, Nat.le_refl _, fun _ _ => rfl⟩
              go_wp2
              go_roundw
              case rel => exact ⟨k + 1, by rw [HA.out]; omega, by go_num, HQ2.out, HO8.out, HB8.out⟩
              case measure => simp [intOf]; omega
            · obtain ⟨j, hkj⟩ : ∃ j, k = j + 1 := ⟨k - 1, by omega⟩
              obtain ⟨y, hy⟩ : ∃ y, l[j]? = some y := ⟨_, List.getElem?_eq_getElem (by rw [HA.out]; omega)⟩
              have hla : riseB (l.take k) ⟨fx, tx⟩ = lessB y ⟨fx, tx⟩ := by rw [hkj]; exact rise_take l j y _ hy
              obtain ⟨ay, hay, d1, d2⟩ := (H.out.kept HB7.out) j y hy
              obtain rfl : ax = ay := Option.some.inj hay
              have tk : decide ((0 : Int) < (k : Int)) = true := decide_eq_true (by omega)
              have tk2 : decide (0 < k) = true := decide_eq_true (by omega)
              have hj1 : IntKind.i64.wrap ((k : Int) - 1) = (j : Int) := by rw [show (k : Int) - 1 = (j : Int) by omega]; exact IntWalk.i64_in _ (by omega)
              have hj0 : (0 : Int) ≤ (j : Int) := by omega
              have hja : (j : Int) < n := by omega
              have HLS := Lib.hid (fun W => less_any y ⟨fx, tx⟩ W)
              obtain ⟨bl, hbl⟩ : ∃ b, lessB y ⟨fx, tx⟩ = b := ⟨_, rfl⟩
              rw [hbl] at HLS hla
              have HLA := Lib.hid hla
              obtain ⟨y1', y2'⟩ := y
              unfold pairC at HLS
              dsimp only at HLS d1 d2
              have HCD : Hid (w7.drew.cell? (ax.add (j * 2)) = some (.int .i64 y1') ∧ w7.drew.cell? ⟨(ax.add (j * 2)).block, (ax.add (j * 2)).off + 1, none⟩ = some (.int .i64 y2') ∧ w7.drew.cell? ⟨wr.heap.size, 0, none⟩ = some (.int .i64 fx) ∧ w7.drew.cell? ⟨wr.heap.size, 1, none⟩ = some (.int .i64 tx)) := ⟨d1, d2, y0, y1⟩
              have HBD : Hid (Below w.heap.size w w7.drew) := HB7.out.drew
              have HOD : Hid (OwnsZ w.heap.size (risZ ids) (.slice VA VN VC) w7.drew) := ownsZ_kept HO7.out ⟨rfl, rfl, rfl, Nat.le_refl _, fun _ _ => rfl⟩
              clear hy hay hk0 hla hbl hkj
              go_upto_region 11 with fail
              go_region_held3 (fun wx => wx.cell? (ax.add (j * 2)) = some (.int .i64 y1') ∧ wx.cell? ⟨(ax.add (j * 2)).block, (ax.add (j * 2)).off + 1, none⟩ = some (.int .i64 y2') ∧ wx.cell? ⟨wr.heap.size, 0, none⟩ = some (.int .i64 fx) ∧ wx.cell? ⟨wr.heap.size, 1, none⟩ = some (.int .i64 tx))
                (first | (go_keep; done) | exact HCD.out | exact HKP.out | (refine ⟨?_, ?_, ?_, ?_⟩ <;> assumption))
                ((go_at_call 80; refine (HLS.out _).mono ?_; rintro e w8 ⟨rfl, hb8⟩; have HB8 := Lib.hid (HBD.out.trans (hb8.mono HBD.out.size)); have HO8 := Lib.hid (ownsZ_kept HOD.out hb8); have HKP := Lib.hid (kept4 HCD.out hb8); clear hb8))
              cases bl with
              | false =>
                have hbd : bad1R ids (l.take k) ⟨fx, tx⟩ = 9 := by rw [HBD1.out]; simp [HFT.out, HLA.out]
                have hqr : q = (9, (k : Int)) := by
                  have h := HST.out
                  rw [hbd, if_neg (by decide)] at h
                  exact h
                obtain rfl := hqr
                clear HST HQ hbd
                go_wp2_with (first
                  | (go_at_call 55; refine (new_yes 9 (by omega) (by omega) _ (HN.out.kept HB8.out)).mono ?_; rintro e w' ⟨rfl, rfl⟩)
                  | (go_at_call 57; refine (at_any (k : Int) _ [] 9 _ rfl).mono ?_; rintro e w3 ⟨y, rfl, hy, hb3⟩; have HY := Lib.hid hy; have HBE := Lib.hid ((HB8.out).trans (hb3.mono (HB8.out).size)); clear hy hb3))
                go_ret
                exact ⟨y, rfl, .inr ⟨by omega, by omega, HY.out⟩, HBE.out⟩
              | true =>
                have HQ2 : Hid (q = fb (bad1R ids) (l.take (k + 1)) (l.drop (k + 1))) := by
                  have hbd : bad1R ids (l.take k) ⟨fx, tx⟩ = 0 := by rw [HBD1.out]; simp [HFT.out, HLA.out]
                  have h := HST.out
                  rw [hbd, if_pos rfl] at h
                  exact h
                clear HST
                go_wp2
                go_roundw
                case rel => exact ⟨k + 1, by rw [HA.out]; omega, by go_num, HQ2.out, HO8.out, HB8.out⟩
                case measure => simp [intOf]; omega
    · obtain rfl : k = n := by omega
      have hqe : q = (0, 0) := by
        have h := HQK.out
        rw [← HA.out, fb_end] at h
        exact h
      subst hqe
      clear HQK HQ
      go_wp2
      go_ret
      exact ⟨_, rfl, .inl ⟨rfl, rfl, rfl⟩, HB.out⟩
end Go.Proofs.YtmcmmbkodllpkaaGreatDoor.Rel

namespace Go.Proofs.YtmcmmbkodllpkaaGreatDoor.Rel

open Go.RowKit Go.PlainAid Go.Proofs.YtmcmmbkodllpkaaGreatDoor.Oct Go.Proofs.YtmcmmbkodllpkaaGreatDoor.Flt Go.Proofs.YtmcmmbkodllpkaaGreatDoor.Rdr Go.Proofs.YtmcmmbkodllpkaaGreatDoor.Args Go.Proofs.YtmcmmbkodllpkaaGreatDoor.Win

open Go.Proofs.YtmcmmbkodllpkaaGreatDoor.Pai (P2 pairC lessB riseB PairsAt less_any less10_any rise_take pairs_of kept2 kept4)

open Go.Proofs.YtmcmmbkodllpkaaGreatDoor.Act (I64)

open Go.Proofs.YtmcmmbkodllpkaaGreatDoor.Prt (fb fb_step fb_end take_snoc)

set_option linter.unusedVariables false

set_option linter.unusedSimpArgs false

theorem in15_any (n₀ : Nat) (I : Option Addr) (li ci : Nat) (ids : List Int) (v : Int) (w : World) (hI : IntsBelow n₀ w (.slice I li ci) ids) (hl : ids.length ≤ 9223372036854775807) :
    Calls Tryz.prog 23 #[.slice I li ci, .int .i64 v] w fun e w' => e = .returned (.bool (memB ids v)) ∧ w = w' := by
  have hli : li = ids.length := by
    rcases hI with ⟨e, rfl⟩ | ⟨y, cap, e, _, _⟩
    · cases e; rfl
    · cases e; rfl
  have hc : ∀ j, j < li → ∃ y, I = some y ∧ w.cell? (y.add j) = some (.int .i64 (ids[j]?.getD 0)) := by
    rcases hI with ⟨e, rfl⟩ | ⟨y, cap, e, _, hc⟩
    · cases e; intro j hj; omega
    · cases e; exact fun j hj => ⟨y, rfl, hc j hj⟩
  obtain ⟨r, hr⟩ : ∃ r, memB ids v = r := ⟨_, rfl⟩
  have HR := Lib.hid hr
  have HL := Lib.hid hli
  have HC := Lib.hid hc
  rw [hr]
  rw [← hli] at hl
  clear hI hr hli hc
  go_enter Tryz.func23, Tryz.ntmps23
  go_wp2
  go_loop [5] (fun i => ∃ k : Nat, k ≤ li ∧ i = .int .i64 k ∧ memB (ids.take k) v = false) (fun i => li - (intOf i).toNat)
  case atStart => exact ⟨0, Nat.zero_le _, rfl, by simp [memB]⟩
  case round =>
    obtain ⟨k, hk, rfl, hm⟩ := hrel
    have HM := Lib.hid hm
    clear hm
    by_cases hlt : k < li
    · obtain ⟨y, rfl, hcell⟩ := HC.out k hlt
      have hms := mem_snoc ids k (by rw [← HL.out]; exact hlt) v HM.out
      obtain ⟨z, hz⟩ : ∃ z, ids[k]?.getD 0 = z := ⟨_, rfl⟩
      rw [hz] at hcell hms
      have HMS := Lib.hid hms
      have HZ := Lib.hid hz
      clear hms hz
      have hki : (0 : Int) ≤ k := by omega
      have hkb : (k : Int) < li := by omega
      cases hzv : (z == v) with
      | true =>
        have hrt : r = true := by
          rw [← HR.out]
          have h := HMS.out
          rw [hzv] at h
          unfold memB at *
          simp at h ⊢
          exact List.mem_of_mem_take h
        subst hrt
        go_wp2
        go_ret
        exact ⟨rfl, rfl⟩
      | false =>
        go_wp2
        go_round
        case rel => exact ⟨k + 1, by omega, by go_num, by rw [HMS.out, hzv]⟩
        case measure => simp [intOf]; omega
    · obtain rfl : k = li := by omega
      have hrf : r = false := by
        rw [← HR.out]
        have h := HM.out
        rw [HL.out, List.take_length] at h
        exact h
      subst hrf
      go_wp2
      go_ret
      exact ⟨rfl, rfl⟩

set_option maxRecDepth 8000 in
set_option maxHeartbeats 6400000 in
theorem rchk15_any (A : Option Addr) (cap n : Nat) (l : List P2) (I : Option Addr) (li ci : Nat) (ids : List Int) (w : World) (h : PairsAt w A l) (hln : l.length = n) (hl : n ≤ 1000) (hI : IntsBelow w.heap.size w (.slice I li ci) ids) (hids : ids.length ≤ 1099511627776) :
    Calls Tryz.prog 26 #[.slice A n cap, .slice I li ci] w fun e w' => e = .returned (.tuple #[.int .i64 (badR ids l).2, .int .i64 ((badR ids l).1 : Nat)]) ∧ Below w.heap.size w w' := by
  obtain ⟨q, hq⟩ : ∃ q, badR ids l = q := ⟨_, rfl⟩
  have HQ := Lib.hid hq
  rw [hq]
  have HA := Lib.hid hln
  have H := Lib.hid h
  have HIN : Hid (∀ v W, Below w.heap.size w W → _) := fun v W b => in15_any W.heap.size I li ci ids v W ((hI.below b).mono b.size) (by omega)
  clear hq hln h hids hI
  go_enter Tryz.func26, Tryz.ntmps26
  go_wp2
  go_loopw [6] (fun i wr => ∃ k : Nat, k ≤ l.length ∧ i = .int .i64 (k : Int) ∧ q = fb (bad1R ids) (l.take k) (l.drop k) ∧ Below w.heap.size w wr) (fun i _ => n - (intOf i).toNat)
  case atStart => exact ⟨0, Nat.zero_le _, rfl, HQ.out.symm, Below.refl _ _⟩
  case round =>
    obtain ⟨k, hk, rfl, hq, hb⟩ := hrel
    have HB := Lib.hid hb
    have HQK := Lib.hid hq
    have hka : k ≤ n := by rw [← HA.out]; exact hk
    clear hk hq hb
    by_cases hlt : k < n
    · obtain ⟨x, hx⟩ : ∃ x, l[k]? = some x := ⟨_, List.getElem?_eq_getElem (by rw [HA.out]; exact hlt)⟩
      obtain ⟨ax, rfl, c1, c2⟩ := (H.out.kept HB.out) k x hx
      have hst := HQK.out
      rw [fb_step (bad1R ids) l k x hx] at hst
      have HST := Lib.hid hst
      have hki : (0 : Int) ≤ k := by omega
      have hkb : (k : Int) < n := by omega
      have hk1 : IntKind.i64.wrap ((k : Int) + 1) = (k : Int) + 1 := IntWalk.i64_in _ (by omega)
      have HX := Lib.hid hx
      clear hx hst HQK
      obtain ⟨mf, hmf⟩ : ∃ b, memB ids x.f = b := ⟨_, rfl⟩
      obtain ⟨mt, hmt⟩ : ∃ b, memB ids x.t = b := ⟨_, rfl⟩
      have HBD1 : Hid (∀ pre, bad1R ids pre x = if mf = false then 10 else if mt = false then 10 else if x.f = x.t then 15 else if riseB pre x = false then 9 else 0) := fun pre => by show bad1R ids pre x = _; unfold bad1R; rw [hmf, hmt]
      have HF := Lib.hid (HIN.out x.f wr HB.out)
      have HT := Lib.hid (HIN.out x.t wr HB.out)
      rw [hmf] at HF
      rw [hmt] at HT
      clear hmf hmt
      obtain ⟨fx, tx⟩ := x
      dsimp only at c1 c2 HF HT HBD1
      cases mf with
      | false =>
        have hbd : bad1R ids (l.take k) ⟨fx, tx⟩ = 10 := by rw [HBD1.out]; simp
        have hqr : q = (10, (k : Int)) := by
          have h := HST.out
          rw [hbd, if_neg (by decide)] at h
          exact h
        obtain rfl := hqr
        clear HST HQ hbd
        go_wp2_with (go_at_call 23; (with_reducible first | (refine HF.out.mono ?_) | (refine HT.out.mono ?_)); rintro e w' ⟨rfl, rfl⟩)
        go_ret2
        exact ⟨rfl, HB.out⟩
      | true =>
        cases mt with
        | false =>
          have hbd : bad1R ids (l.take k) ⟨fx, tx⟩ = 10 := by rw [HBD1.out]; simp
          have hqr : q = (10, (k : Int)) := by
            have h := HST.out
            rw [hbd, if_neg (by decide)] at h
            exact h
          obtain rfl := hqr
          clear HST HQ hbd
          go_wp2_with (go_at_call 23; (with_reducible first | (refine HF.out.mono ?_) | (refine HT.out.mono ?_)); rintro e w' ⟨rfl, rfl⟩)
          go_ret2
          exact ⟨rfl, HB.out⟩
        | true =>
          by_cases hft : fx = tx
          · have te : (fx == tx) = true := by simp [hft]
            have hbd : bad1R ids (l.take k) ⟨fx, tx⟩ = 15 := by rw [HBD1.out]; simp [hft]
            have hqr : q = (15, (k : Int)) := by
              have h := HST.out
              rw [hbd, if_neg (by decide)] at h
              exact h
            obtain rfl := hqr
            clear HST HQ hbd hft
            go_wp2_with (go_at_call 23; (with_reducible first | (refine HF.out.mono ?_) | (refine HT.out.mono ?_)); rintro e w' ⟨rfl, rfl⟩)
            go_quiet (fail)
            have HB8 := Lib.hid (below_drewN HB.out nq)
            go_wp2
            go_ret2
            exact ⟨rfl, HB8.out⟩
          · have te : (fx == tx) = false := by simp [hft]
            have HFT := Lib.hid hft
            clear hft
            go_wp2_with (go_at_call 23; (with_reducible first | (refine HF.out.mono ?_) | (refine HT.out.mono ?_)); rintro e w' ⟨rfl, rfl⟩)
            go_quiet (fail)
            have HB8 := Lib.hid (below_drewN HB.out nq)
            obtain ⟨w8, hw8⟩ : ∃ W, wr.drewN nq = W := ⟨_, rfl⟩
            rw [hw8] at HB8 ⊢
            have e1 : w8.cell? (ax.add (k * 2)) = some (.int .i64 fx) := by rw [← hw8]; exact c1
            have e2 : w8.cell? ⟨(ax.add (k * 2)).block, (ax.add (k * 2)).off + 1, none⟩ = some (.int .i64 tx) := by rw [← hw8]; exact c2
            clear hw8 c1 c2 te
            rcases Nat.eq_zero_or_pos k with hk0 | hk0
            · have HQ2 : Hid (q = fb (bad1R ids) (l.take (k + 1)) (l.drop (k + 1))) := by
                have hr0 : riseB (l.take k) ⟨fx, tx⟩ = true := by rw [hk0]; rfl
                have hbd : bad1R ids (l.take k) ⟨fx, tx⟩ = 0 := by rw [HBD1.out]; simp [HFT.out, hr0]
                have h := HST.out
                rw [hbd, if_pos rfl] at h
                exact h
              have tk : decide ((0 : Int) < (k : Int)) = false := decide_eq_false (by omega)
              have tk2 : decide (0 < k) = false := decide_eq_false (by omega)
              clear hk0 HST
              go_wp2
              go_quiet (fail)
              have HB9 := Lib.hid (below_drewN HB8.out nq)
              go_wp2
              go_roundw
              case rel => exact ⟨k + 1, by rw [HA.out]; omega, by go_num, HQ2.out, HB9.out⟩
              case measure => simp [intOf]; omega
            · obtain ⟨j, hkj⟩ : ∃ j, k = j + 1 := ⟨k - 1, by omega⟩
              obtain ⟨y, hy⟩ : ∃ y, l[j]? = some y := ⟨_, List.getElem?_eq_getElem (by rw [HA.out]; omega)⟩
              have hla : riseB (l.take k) ⟨fx, tx⟩ = lessB y ⟨fx, tx⟩ := by rw [hkj]; exact rise_take l j y _ hy
              obtain ⟨ay, hay, d1, d2⟩ := (H.out.kept HB8.out) j y hy
              obtain rfl : ax = ay := Option.some.inj hay
              have tk : decide ((0 : Int) < (k : Int)) = true := decide_eq_true (by omega)
              have tk2 : decide (0 < k) = true := decide_eq_true (by omega)
              have hj1 : IntKind.i64.wrap ((k : Int) - 1) = (j : Int) := by rw [show (k : Int) - 1 = (j : Int) by omega]; exact IntWalk.i64_in _ (by omega)
              have hj0 : (0 : Int) ≤ (j : Int) := by omega
              have hja : (j : Int) < n := by omega
              have HLS := Lib.hid (fun W => less10_any y ⟨fx, tx⟩ W)
              obtain ⟨bl, hbl⟩ : ∃ b, lessB y ⟨fx, tx⟩ = b := ⟨_, rfl⟩
              rw [hbl] at HLS hla
              have HLA := Lib.hid hla
              obtain ⟨y1', y2'⟩ := y
              unfold pairC at HLS
              dsimp only at HLS d1 d2
              have HCD : Hid (w8.drew.cell? (ax.add (j * 2)) = some (.int .i64 y1') ∧ w8.drew.cell? ⟨(ax.add (j * 2)).block, (ax.add (j * 2)).off + 1, none⟩ = some (.int .i64 y2') ∧ w8.drew.cell? (ax.add (k * 2)) = some (.int .i64 fx) ∧ w8.drew.cell? ⟨(ax.add (k * 2)).block, (ax.add (k * 2)).off + 1, none⟩ = some (.int .i64 tx)) := ⟨d1, d2, e1, e2⟩
              have HBD : Hid (Below w.heap.size w w8.drew) := HB8.out.drew
              clear hy hay hk0 hla hbl hkj
              go_upto_region 8 with fail
              go_region_held3 (fun wx => wx.cell? (ax.add (j * 2)) = some (.int .i64 y1') ∧ wx.cell? ⟨(ax.add (j * 2)).block, (ax.add (j * 2)).off + 1, none⟩ = some (.int .i64 y2') ∧ wx.cell? (ax.add (k * 2)) = some (.int .i64 fx) ∧ wx.cell? ⟨(ax.add (k * 2)).block, (ax.add (k * 2)).off + 1, none⟩ = some (.int .i64 tx))
                (first | (go_keep; done) | exact HCD.out | exact HKP.out | (refine ⟨?_, ?_, ?_, ?_⟩ <;> assumption))
                ((go_at_call 45; refine (HLS.out _).mono ?_; rintro e w9 ⟨rfl, hb9⟩; have HB9 := Lib.hid (HBD.out.trans (hb9.mono HBD.out.size)); have HKP := Lib.hid (kept4 HCD.out hb9); clear hb9))
              cases bl with
              | false =>
                have hbd : bad1R ids (l.take k) ⟨fx, tx⟩ = 9 := by rw [HBD1.out]; simp [HFT.out, HLA.out]
                have hqr : q = (9, (k : Int)) := by
                  have h := HST.out
                  rw [hbd, if_neg (by decide)] at h
                  exact h
                obtain rfl := hqr
                clear HST HQ hbd
                go_wp2
                go_ret2
                exact ⟨rfl, HB9.out⟩
              | true =>
                have HQ2 : Hid (q = fb (bad1R ids) (l.take (k + 1)) (l.drop (k + 1))) := by
                  have hbd : bad1R ids (l.take k) ⟨fx, tx⟩ = 0 := by rw [HBD1.out]; simp [HFT.out, HLA.out]
                  have h := HST.out
                  rw [hbd, if_pos rfl] at h
                  exact h
                clear HST
                go_wp2
                go_roundw
                case rel => exact ⟨k + 1, by rw [HA.out]; omega, by go_num, HQ2.out, HB9.out⟩
                case measure => simp [intOf]; omega
    · obtain rfl : k = n := by omega
      have hqe : q = (0, 0) := by
        have h := HQK.out
        rw [← HA.out, fb_end] at h
        exact h
      subst hqe
      clear HQK HQ
      go_wp2
      go_ret2
      exact ⟨rfl, HB.out⟩
def eqP2 (x p : P2) : Bool := (x.f == p.f) && (x.t == p.t)
theorem eqP2_iff (x p : P2) : eqP2 x p = true ↔ x = p := by
  obtain ⟨a, b⟩ := x
  obtain ⟨c, d⟩ := p
  unfold eqP2
  simp
def hasB (l : List P2) (p : P2) : Bool := l.any fun x => eqP2 x p
theorem has_snoc (l : List P2) (k : Nat) (x p : P2) (hx : l[k]? = some x) (h : hasB (l.take k) p = false) : hasB (l.take (k + 1)) p = eqP2 x p := by
  unfold hasB at h ⊢
  rw [List.take_add_one, hx, List.any_append, h]
  simp
theorem has_take (l : List P2) (k : Nat) (p : P2) (h : hasB (l.take k) p = true) : hasB l p = true := by
  unfold hasB at *
  rw [List.any_eq_true] at h ⊢
  obtain ⟨x, hx, he⟩ := h
  exact ⟨x, List.mem_of_mem_take hx, he⟩
theorem eq_pair (a b c d : Int) (w : World) : (Op.equalIn 10000 86 (.agg #[.int .i64 a, .int .i64 b]) (.agg #[.int .i64 c, .int .i64 d])).run Tryz.prog w = .ok ((a == c) && (b == d)) w := by
  have hS : Tryz.prog.underlying 86 = some (.struct (Tryz.prog.fieldsOf 86)) := by kernel_rfl
  rw [show (10000 : Nat) = 9999 + 1 from rfl, run_equalIn_agg w 9999 86 _ _ hS (by kernel_rfl)]
  simp only [Program.fieldsOf, Tryz.underlying86]
  cases h1 : (a == c) <;> cases h2 : (b == d) <;> simp [go_sem, h1, h2]
def HRel (p : P2) (l : List P2) (b : Nat) (w : World) (i : Value) (wr : World) : Prop :=
  ∃ k : Nat, k ≤ l.length ∧ i = .int .i64 (k : Int) ∧ hasB (l.take k) p = false ∧ wr.heap[b]? = some (.cells #[.int .i64 p.f, .int .i64 p.t] 86 (0, 0)) ∧ Below w.heap.size w wr
end Go.Proofs.YtmcmmbkodllpkaaGreatDoor.Rel

namespace Go.Proofs.YtmcmmbkodllpkaaGreatDoor.Rel

open Go.RowKit Go.PlainAid Go.Proofs.YtmcmmbkodllpkaaGreatDoor.Oct Go.Proofs.YtmcmmbkodllpkaaGreatDoor.Flt Go.Proofs.YtmcmmbkodllpkaaGreatDoor.Rdr Go.Proofs.YtmcmmbkodllpkaaGreatDoor.Args Go.Proofs.YtmcmmbkodllpkaaGreatDoor.Win Go.Proofs.YtmcmmbkodllpkaaGreatDoor.Mpv

open Go.Proofs.YtmcmmbkodllpkaaGreatDoor.Pai (P2 PairsAt pairC Wide)

set_option linter.unusedVariables false

set_option linter.unusedSimpArgs false

/-- Where pairs lead to from an id. -/
def tg (l : List P2) (id : Int) : List Int := (l.filter (fun x => x.f == id)).map P2.t
theorem tg_snoc (l : List P2) (x : P2) (id : Int) : tg (l ++ [x]) id = if x.f = id then tg l id ++ [x.t] else tg l id := by
  unfold tg
  rw [List.filter_append, List.map_append]
  by_cases h : x.f = id
  · rw [if_pos h]; simp [h]
  · rw [if_neg h]; simp [h]
theorem tg_len (l : List P2) (id : Int) : (tg l id).length ≤ l.length := by
  unfold tg
  rw [List.length_map]
  exact List.length_filter_le _ _
/-- A map of rows: where some pairs lead to. -/
structure LK (w0 : World) (l : List P2) (c : Nat) (F : Int → Option Value) (W : World) : Prop where
  mp : MapV W w0.heap.size c F
  cl : c ≤ l.length
  row : ∀ id V, F id = some V → W.ownsRow (w0.heap.size + 1) 3 1 V (tg l id).length ((tg l id).map (Value.int .i64))
  nn : ∀ id V, F id = some V → tg l id ≠ []
  non : ∀ id, F id = none → tg l id = []
  dis : ∀ id id' V V', id ≠ id' → F id = some V → F id' = some V' → ∀ j, V.ownBlock = some j → V'.ownBlock ≠ some j
  below : Below w0.heap.size w0 W
section

variable {w0 W W' : World} {l : List P2} {c : Nat} {F : Int → Option Value}

theorem LK.keep (h : LK w0 l c F W) (b : Below W.heap.size W W') : LK w0 l c F W' :=
  ⟨h.mp.keep b, h.cl, fun id V hv => owns_kept (h.row id V hv) b, h.nn, h.non, h.dis, h.below.trans (b.mono h.below.size)⟩
theorem LK.drewN (h : LK w0 l c F W) (m : Nat) : LK w0 l c F (W.drewN m) := h.keep ⟨rfl, rfl, rfl, Nat.le_refl _, fun _ _ => rfl⟩
/-- What stands at an id, as a row. -/
theorem LK.at_ (h : LK w0 l c F W) (id : Int) : ∃ A n cp, (F id).getD (.slice none 0 0) = .slice A n cp ∧ W.ownsRow (w0.heap.size + 1) 3 1 (.slice A n cp) n ((tg l id).map (Value.int .i64)) ∧ n = (tg l id).length := by
  cases hF : F id with
  | none =>
    refine ⟨none, 0, 0, rfl, ?_, by rw [h.non id hF]; rfl⟩
    rw [h.non id hF]
    exact World.ownsRow_nil _ _ _ _
  | some V =>
    have hr := h.row id V hF
    obtain ⟨A, cp, rfl⟩ : ∃ A cp, V = .slice A (tg l id).length cp := by
      rcases hr.2 with ⟨rfl, h0⟩ | ⟨g, cap, cur, rfl, _⟩
      · exact ⟨none, 0, by rw [h0]⟩
      · exact ⟨_, _, rfl⟩
    exact ⟨A, _, cp, rfl, hr, rfl⟩
end

end Go.Proofs.YtmcmmbkodllpkaaGreatDoor.Rel

namespace Go.Proofs.YtmcmmbkodllpkaaGreatDoor.Rel

open Go.RowKit Go.PlainAid Go.Proofs.YtmcmmbkodllpkaaGreatDoor.Oct Go.Proofs.YtmcmmbkodllpkaaGreatDoor.Flt Go.Proofs.YtmcmmbkodllpkaaGreatDoor.Rdr Go.Proofs.YtmcmmbkodllpkaaGreatDoor.Args Go.Proofs.YtmcmmbkodllpkaaGreatDoor.Win Go.Proofs.YtmcmmbkodllpkaaGreatDoor.Mpv

open Go.Proofs.YtmcmmbkodllpkaaGreatDoor.Pai (P2 PairsAt pairC Wide)

set_option linter.unusedVariables false

set_option linter.unusedSimpArgs false

theorem step_append_at {P : Program} {ops : Array Oper} {o : Oper} {a : Act} {w : World} {K : Act → World → Prop} {Q : Exit → Act → World → Prop} {E : Prop}
    (hg : o.guard = none) (s x : Operand) (t : TypeId) (ho : o.op = .call { callee := .builtin .append, args := #[s, x], argTypes := #[t, t] })
    (base : Nat) (e : TypeId) (i : TypeInfo) (z : Value) (size bytes : Nat) (ht : P.underlying t = some (.slice e)) (hi : P.info? e = some i) (hz : i.zero = some z)
    (hsize : i.size = size) (hby : i.bytes = bytes) (hzs : z.cells.size = size) (hsz : 0 < size)
    (v : Value) (n : Nat) (xs : List Value) (hs : a.eval s = v) (hown : w.ownsRow base e size v n xs)
    (ad : Addr) (m c : Nat) (news : List Value) (hx : a.eval x = .slice (some ad) m c) (hl : news.length = m * size) (hnews : ∀ j u, news[j]? = some u → w.cell? (ad.add j) = some u) (h1 : ∀ u ∈ news, u.oneCell' = true)
    (h63 : n + m ≤ maxLen) (hbytes : (n + m) * bytes ≤ 140737488355328) (hbase : base ≤ w.heap.size)
    (hK : ∀ v' w', w'.ownsRow base e size v' (n + m) (xs ++ news) → w.grownBy w' v.ownBlock → (v'.ownBlock = v.ownBlock ∨ v'.ownBlock = some w.heap.size) → K (a.put o.dst v') w') :
    if Region.wanted o (yielded ops a.tmps) = true then Oper.wp P o a w K Q else E := by
  have hw : Region.wanted o (yielded ops a.tmps) = true := by simp [Region.wanted, hg]
  rw [if_pos hw]
  obtain ⟨v', w', hr, h2, h3, h4, h5⟩ := run_append_own_at (P := P) w base t o.type e i z size bytes ht hi hz hsize hby hzs hsz v n xs hown ad m c news hl hnews h1 h63 hbytes hbase
  unfold Oper.wp execOp
  simp only [ho, resolve, invoke, builtin, Sem.run_bind, Sem.run_pure, Result.andThen_ok, List.map_toArray, List.map_cons, List.map_nil, hs, hx, hr]
  exact hK _ _ h2 h3 h5
theorem new1L (w : World) (T : TypeId) (u : Value) : ∀ j q, ([u] : List Value)[j]? = some q → (w.alloc (.cells #[u] T)).drew.cell? ((Addr.mk w.heap.size 0 none).add j) = some q := cell_one_new w u T
theorem new1M (w : World) (T : TypeId) (u : Value) : ∀ j q, ([u] : List Value)[j]? = some q → (w.drew.alloc (.cells #[u] T)).cell? ((Addr.mk w.heap.size 0 none).add j) = some q := cell_one_new w u T
def LkRel (w0 : World) (l : List P2) (m : Nat) (i : Value) (wr : World) : Prop :=
  ∃ (k c : Nat) (F : Int → Option Value), k ≤ m ∧ i = .int .i64 (k : Int) ∧ LK w0 (l.take k) c F wr
def LinksPost (l : List P2) (w : World) (e : Ending) (w' : World) : Prop := ∃ (c : Nat) (F : Int → Option Value), e = .returned (.map (some w.heap.size)) ∧ LK w l c F w'
end Go.Proofs.YtmcmmbkodllpkaaGreatDoor.Rel

namespace Go.Proofs.YtmcmmbkodllpkaaGreatDoor.Rel

open Go.RowKit Go.PlainAid Go.Proofs.YtmcmmbkodllpkaaGreatDoor.Oct Go.Proofs.YtmcmmbkodllpkaaGreatDoor.Flt Go.Proofs.YtmcmmbkodllpkaaGreatDoor.Rdr Go.Proofs.YtmcmmbkodllpkaaGreatDoor.Args Go.Proofs.YtmcmmbkodllpkaaGreatDoor.Win Go.Proofs.YtmcmmbkodllpkaaGreatDoor.Mpv

open Go.Proofs.YtmcmmbkodllpkaaGreatDoor.Pai (P2 PairsAt pairC Wide)

set_option linter.unusedVariables false

set_option linter.unusedSimpArgs false

theorem ints_no : ints noI = fun _ => none := rfl
end Go.Proofs.YtmcmmbkodllpkaaGreatDoor.Rel

namespace Go.Proofs.YtmcmmbkodllpkaaGreatDoor.Rel

open Go.RowKit Go.PlainAid Go.Proofs.YtmcmmbkodllpkaaGreatDoor.Oct Go.Proofs.YtmcmmbkodllpkaaGreatDoor.Flt Go.Proofs.YtmcmmbkodllpkaaGreatDoor.Rdr Go.Proofs.YtmcmmbkodllpkaaGreatDoor.Args Go.Proofs.YtmcmmbkodllpkaaGreatDoor.Win Go.Proofs.YtmcmmbkodllpkaaGreatDoor.Mpv

set_option linter.unusedVariables false

set_option linter.unusedSimpArgs false

/-- A row of rows: each one's value and its numbers. -/
structure GR (B : Nat) (GV : Value) (rs : List (Value × List Int)) (w : World) : Prop where
  g : w.ownsRow B 41 1 GV rs.length (rs.map Prod.fst)
  r : ∀ p ∈ rs, w.ownsRow B 3 1 p.1 p.2.length (p.2.map (Value.int .i64))
  d0 : ∀ p ∈ rs, ∀ j, p.1.ownBlock = some j → GV.ownBlock ≠ some j
  d1 : ∀ (i i' : Nat) (p p' : Value × List Int), i ≠ i' → rs[i]? = some p → rs[i']? = some p' → ∀ j, p.1.ownBlock = some j → p'.1.ownBlock ≠ some j
section

variable {B : Nat} {GV GV' V' : Value} {rs : List (Value × List Int)} {w w' : World}

theorem GR.none_ (B : Nat) (w : World) : GR B (.slice none 0 0) [] w := ⟨World.ownsRow_nil _ _ _ _, fun p h => (by cases h), fun p h => (by cases h), fun i i' p p' _ h => by simp at h⟩
theorem GR.keep (h : GR B GV rs w) (b : Below w.heap.size w w') : GR B GV rs w' := ⟨owns_kept h.g b, fun p hp => owns_kept (h.r p hp) b, h.d0, h.d1⟩
theorem row_apart {w w' : World} {B e s n : Nat} {V : Value} {xs : List Value} {r : Option Nat} (h : w.ownsRow B e s V n xs) (hg : w.grownBy w' r) (hr : ∀ j, V.ownBlock = some j → r ≠ some j) : w'.ownsRow B e s V n xs := h.kept hg (by
  cases hb : V.ownBlock with
  | none => exact .inl rfl
  | some j => exact .inr (fun e => hr j hb e.symm))
/-- A block below is changed. -/
theorem GR.other (h : GR B GV rs w) {P : Nat} (hg : w.grownBy w' (some P)) (hP : P < B) : GR B GV rs w' :=
  ⟨row_apart h.g hg (fun j hj e => by have := (h.g.lt j hj).1; have := Option.some.inj e; omega), fun p hp => row_apart (h.r p hp) hg (fun j hj e => by have := ((h.r p hp).lt j hj).1; have := Option.some.inj e; omega), h.d0, h.d1⟩
/-- A row more, with no number. -/
theorem GR.more (h : GR B GV rs w) (ho : w'.ownsRow B 41 1 GV' (rs.length + 1) (rs.map Prod.fst ++ [.slice none 0 0])) (hg : w.grownBy w' GV.ownBlock) (hat : GV'.ownBlock = GV.ownBlock ∨ GV'.ownBlock = some w.heap.size) : GR B GV' (rs ++ [(.slice none 0 0, [])]) w' := by
  refine ⟨by rw [List.length_append, List.length_singleton, List.map_append]; exact ho, fun p hp => ?_, fun p hp j hj => ?_, fun i i' p p' hne hi hi' j hj => ?_⟩
  · rcases List.mem_append.1 hp with hp | hp
    · exact row_apart (h.r p hp) hg (fun j hj e => h.d0 p hp j hj e)
    · obtain rfl := List.mem_singleton.1 hp
      exact World.ownsRow_nil _ _ _ _
  · rcases List.mem_append.1 hp with hp | hp
    · rcases hat with e | e
      · rw [e]; exact h.d0 p hp j hj
      · rw [e]
        intro e2
        have := ((h.r p hp).lt j hj).2
        have := Option.some.inj e2
        omega
    · obtain rfl := List.mem_singleton.1 hp
      cases hj
  · have key : ∀ (i : Nat) (p : Value × List Int), (rs ++ [((.slice none 0 0 : Value), ([] : List Int))])[i]? = some p → rs[i]? = some p ∨ p = (.slice none 0 0, []) := fun i p hi => by
      rcases Nat.lt_or_ge i rs.length with hl | hl
      · rw [List.getElem?_append_left hl] at hi; exact .inl hi
      · rw [List.getElem?_append_right hl] at hi
        right
        have hi2 := List.mem_of_getElem? hi
        exact List.mem_singleton.1 hi2
    rcases key i p hi with h1 | rfl
    · rcases key i' p' hi' with h2 | rfl
      · exact h.d1 i i' p p' hne h1 h2 j hj
      · intro e; cases e
    · cases hj
/-- A number more in the row i: the row has grown. -/
theorem GR.grown (h : GR B GV rs w) {i : Nat} {V : Value} {L : List Int} {x : Int} (hi : rs[i]? = some (V, L)) (ho : w'.ownsRow B 3 1 V' (L.length + 1) (L.map (Value.int .i64) ++ [.int .i64 x])) (hg : w.grownBy w' V.ownBlock) (hat : V'.ownBlock = V.ownBlock ∨ V'.ownBlock = some w.heap.size)
    {g cap : Nat} (hG : GV = .slice (some ⟨g, 0, none⟩) rs.length cap) : w'.cell? ⟨g, i, none⟩ = some V ∧ w'.frozen? ⟨g, i, none⟩ = false ∧ GR B GV (rs.set i (V', L ++ [x])) (w'.setCell ⟨g, i, none⟩ V') ∧ w'.grownBy (w'.setCell ⟨g, i, none⟩ V') (some g) ∧ B ≤ g := by
  subst hG
  have hm : (V, L) ∈ rs := List.mem_of_getElem? hi
  have hil : i < rs.length := (List.getElem?_eq_some_iff.1 hi).1
  have hg1 : w'.ownsRow B 41 1 (.slice (some ⟨g, 0, none⟩) rs.length cap) rs.length (rs.map Prod.fst) := row_apart h.g hg (fun j hj e => h.d0 _ hm j e hj)
  have hst := hg1.stored i V'
  have hgb := h.g.lt g rfl
  have hVg : ∀ j, V'.ownBlock = some j → j ≠ g := fun j hj e => by
    subst e
    rcases hat with h1 | h1
    · rw [h1] at hj
      exact h.d0 _ hm j hj rfl
    · rw [h1] at hj
      have := Option.some.inj hj
      omega
  have key : ∀ (k : Nat) (p : Value × List Int), (rs.set i (V', L ++ [x]))[k]? = some p → (k = i ∧ p = (V', L ++ [x])) ∨ (k ≠ i ∧ rs[k]? = some p) := fun k p hk => by
    by_cases hki : k = i
    · subst hki
      rw [List.getElem?_set, if_pos rfl, if_pos hil] at hk
      exact .inl ⟨rfl, (Option.some.inj hk).symm⟩
    · rw [List.getElem?_set, if_neg (fun e => hki e.symm)] at hk
      exact .inr ⟨hki, hk⟩
  have keym : ∀ p ∈ rs.set i (V', L ++ [x]), p = (V', L ++ [x]) ∨ ∃ k, k ≠ i ∧ rs[k]? = some p := fun p hp => by
    obtain ⟨k, hk, e⟩ := List.mem_iff_getElem.1 hp
    rcases key k p (by rw [List.getElem?_eq_getElem hk, e]) with ⟨_, h1⟩ | h1
    · exact .inl h1
    · exact .inr ⟨k, h1⟩
  refine ⟨?_, hg1.frozenAt i, ⟨?_, fun p hp => ?_, fun p hp j hj e => ?_, fun k k' p p' hne hk hk' j hj => ?_⟩, hst.2, hgb.1⟩
  · rw [hg1.cellAt i (by omega), List.getElem?_map, hi]; rfl
  · rw [List.length_set, List.map_set]; exact hst.1
  · rcases keym p hp with rfl | ⟨k, hki, hk⟩
    · dsimp only
      rw [List.length_append, List.length_singleton, List.map_append]
      exact row_apart ho hst.2 (fun j hj e => hVg j hj (Option.some.inj e).symm)
    · have hpm := List.mem_of_getElem? hk
      have h1 := row_apart (h.r p hpm) hg (fun j hj e => h.d1 k i p (V, L) hki hk hi j hj e)
      exact row_apart h1 hst.2 (fun j hj e => by have := Option.some.inj e; subst this; exact h.d0 p hpm g hj rfl)
  · rcases keym p hp with rfl | ⟨k, hki, hk⟩
    · exact hVg j hj (Option.some.inj e).symm
    · exact h.d0 p (List.mem_of_getElem? hk) j hj e
  · have hnew : ∀ (k : Nat) (p : Value × List Int), k ≠ i → rs[k]? = some p → ∀ j, p.1.ownBlock = some j → V'.ownBlock ≠ some j := fun k p hki hk j hj e => by
      rcases hat with h1 | h1
      · rw [h1] at e
        exact h.d1 k i p (V, L) hki hk hi j hj e
      · rw [h1] at e
        have := Option.some.inj e
        have := ((h.r p (List.mem_of_getElem? hk)).lt j hj).2
        omega
    rcases key k p hk with ⟨h1, rfl⟩ | ⟨h1, h2⟩
    · rcases key k' p' hk' with ⟨h3, rfl⟩ | ⟨h3, h4⟩
      · omega
      · intro e; exact hnew k' p' h3 h4 j e hj
    · rcases key k' p' hk' with ⟨h3, rfl⟩ | ⟨h3, h4⟩
      · exact hnew k p h1 h2 j hj
      · exact h.d1 k k' p p' hne h2 h4 j hj
end

end Go.Proofs.YtmcmmbkodllpkaaGreatDoor.Rel

namespace Go.Proofs.YtmcmmbkodllpkaaGreatDoor.Rel

open Go.RowKit Go.PlainAid Go.Proofs.YtmcmmbkodllpkaaGreatDoor.Oct Go.Proofs.YtmcmmbkodllpkaaGreatDoor.Flt Go.Proofs.YtmcmmbkodllpkaaGreatDoor.Rdr Go.Proofs.YtmcmmbkodllpkaaGreatDoor.Args Go.Proofs.YtmcmmbkodllpkaaGreatDoor.Win Go.Proofs.YtmcmmbkodllpkaaGreatDoor.Mpv

open Go.Proofs.YtmcmmbkodllpkaaGreatDoor.Pai (P2 PairsAt pairC Wide)

set_option linter.unusedVariables false

set_option linter.unusedSimpArgs false

def exM : Int → Option Int := upd (upd (upd noI 1 1) 2 2) 3 3
def exG : Int → Option Int := upd (upd (upd noI 3 3) 2 1) 1 1
/-- Where a gathering's things lie. -/
structure TD where
  W0 : World
  N : Nat
  s : Nat
  mt : Nat
  mr : Nat
  mm : Nat
  mc : Nat
  mg : Nat
  ob : Option Nat
  P : Nat
  R : Nat
  B : Nat
section

variable {d : TD} {w0 w w' : World} {cp cp' : Nat} {Fp Fp' : Int → Option Value} {GV GV' V' : Value} {rs rs' : List (Value × List Int)}

end

end Go.Proofs.YtmcmmbkodllpkaaGreatDoor.Rel

namespace Go.Proofs.YtmcmmbkodllpkaaGreatDoor.Rel

open Go.RowKit Go.PlainAid Go.Proofs.YtmcmmbkodllpkaaGreatDoor.Oct Go.Proofs.YtmcmmbkodllpkaaGreatDoor.Flt Go.Proofs.YtmcmmbkodllpkaaGreatDoor.Rdr Go.Proofs.YtmcmmbkodllpkaaGreatDoor.Args Go.Proofs.YtmcmmbkodllpkaaGreatDoor.Win Go.Proofs.YtmcmmbkodllpkaaGreatDoor.Mpv

open Go.Proofs.YtmcmmbkodllpkaaGreatDoor.Pai (P2 PairsAt pairC Wide)

set_option linter.unusedVariables false

set_option linter.unusedSimpArgs false

def exL : List P2 := [⟨1, 2⟩, ⟨2, 1⟩, ⟨2, 3⟩]
theorem infoSl : (Tryz.prog.info? 41).map (fun i => (i.zero, i.size, i.bytes)) = some (some (.slice none 0 0), 1, 24) := by kernel_rfl
theorem row_form {w : World} {B e n : Nat} {V : Value} {xs : List Value} (h : w.ownsRow B e 1 V (n + 1) xs) : ∃ g c, V = .slice (some ⟨g, 0, none⟩) (n + 1) c ∧ n + 1 ≤ c := by
  rcases h.2 with ⟨_, h0⟩ | ⟨g, cap, cur, e, _, _, h3, _⟩
  · omega
  · exact ⟨g, cap, e, h3⟩
theorem row_ints {w : World} {B g n c : Nat} {L : List Int} (h : w.ownsRow B 3 1 (.slice (some ⟨g, 0, none⟩) n c) n (L.map (Value.int .i64))) (hl : L.length = n) : RowAt w (some ⟨g, 0, none⟩) L := fun j z hz => by
  have hj := (List.getElem?_eq_some_iff.1 hz).1
  refine ⟨_, rfl, ?_⟩
  have e : (Addr.mk g 0 none).add j = ⟨g, j, none⟩ := by cases j <;> simp [Addr.add]
  rw [e, h.cellAt j (by omega), List.getElem?_map, hz]; rfl
/-- The example's rows. -/
theorem ex_rows {w0 W : World} {c : Nat} {F : Int → Option Value} (h : LK w0 exL c F W) : ∃ g1 c1 g2 c2, F 1 = some (.slice (some ⟨g1, 0, none⟩) 1 c1) ∧ F 2 = some (.slice (some ⟨g2, 0, none⟩) 2 c2) ∧ F 3 = none ∧ RowAt W (some ⟨g1, 0, none⟩) [2] ∧ RowAt W (some ⟨g2, 0, none⟩) [1, 3] ∧ 1 ≤ c1 ∧ 2 ≤ c2 := by
  have e1 : tg exL 1 = [2] := rfl
  have e2 : tg exL 2 = [1, 3] := rfl
  have e3 : tg exL 3 = [] := rfl
  cases h1 : F 1 with
  | none => have := h.non 1 h1; rw [e1] at this; cases this
  | some V1 =>
    cases h2 : F 2 with
    | none => have := h.non 2 h2; rw [e2] at this; cases this
    | some V2 =>
      cases h3 : F 3 with
      | some V3 => exact absurd e3 (h.nn 3 V3 h3)
      | none =>
        have r1 := h.row 1 V1 h1
        have r2 := h.row 2 V2 h2
        rw [e1] at r1
        rw [e2] at r2
        obtain ⟨g1, c1, rfl, hc1⟩ := row_form (n := 0) r1
        obtain ⟨g2, c2, rfl, hc2⟩ := row_form (n := 1) r2
        exact ⟨g1, c1, g2, c2, rfl, rfl, rfl, row_ints r1 rfl, row_ints r2 rfl, hc1, hc2⟩
def StrPost (w : World) (e : Ending) (w' : World) : Prop :=
  ∃ (g cap : Nat) (A0 : Option Addr) (c0 h c1 : Nat), e = .returned (.slice (some ⟨g, 0, none⟩) 2 cap) ∧ w'.cell? ⟨g, 0, none⟩ = some (.slice A0 2 c0) ∧ w'.cell? ⟨g, 1, none⟩ = some (.slice (some ⟨h, 0, none⟩) 1 c1) ∧ w'.cell? ⟨h, 0, none⟩ = some (.int .i64 3) ∧ Below w.heap.size w w'
theorem ris_ex : risZ [1, 2, 3] = [1, 2, 3] := by
  have h : sortZ [1, 2, 3] = [1, 2, 3] := List.mergeSort_of_pairwise (by decide)
  unfold risZ
  rw [h]
  rfl
end Go.Proofs.YtmcmmbkodllpkaaGreatDoor.Rel

namespace Go.Proofs.YtmcmmbkodllpkaaGreatDoor.Rel

open Go.RowKit Go.PlainAid Go.Proofs.YtmcmmbkodllpkaaGreatDoor.Oct Go.Proofs.YtmcmmbkodllpkaaGreatDoor.Flt Go.Proofs.YtmcmmbkodllpkaaGreatDoor.Rdr Go.Proofs.YtmcmmbkodllpkaaGreatDoor.Args Go.Proofs.YtmcmmbkodllpkaaGreatDoor.Win Go.Proofs.YtmcmmbkodllpkaaGreatDoor.Mpv

open Go.Proofs.YtmcmmbkodllpkaaGreatDoor.Pai (P2 PairsAt pairC Wide)

set_option linter.unusedVariables false

set_option linter.unusedSimpArgs false

theorem of_wrongA {x : Value} {k : Nat} {a : Int} (w : World) (hw : WrongA w x k a) :
    Calls Tryz.prog 9 #[x] w fun e w' => e = .returned (fltV k 0 a) ∧ Below w.heap.size w w' := by
  rcases hw with ⟨rfl, rfl, rfl⟩ | ⟨_, _, h⟩
  · exact of_nil w
  · exact of_any x [(false, a)] k w h (by simp)
end Go.Proofs.YtmcmmbkodllpkaaGreatDoor.Rel
