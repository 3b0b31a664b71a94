
/- The function CrewIgnores returns true for every slice of partitions, every slice of acts, every number and every slice of modes. Condition: none. This text: the walk through the Go text; the row is in the text without the W at its name's end. -/

import Derived.Test.YtlbpmbdogkfecaaArgs

import Derived.Test.YtlbpmbdogkfecaaCrI

import Derived.Test.YtlbpmbdogkfecaaCrE

import Derived.Deep.RegionHeld3

namespace Go.Proofs.Ytlbpmbdogkfecaa.crewIgnores

open Go.RowKit Go.PlainAid Go.Proofs.Ytlbpmbdogkfecaa.Args

set_option linter.unusedVariables false

open Go.Proofs.Ytlbpmbdogkfecaa.Crw Go.Proofs.Ytlbpmbdogkfecaa.Pt Go.Proofs.Ytlbpmbdogkfecaa.Cel

open Go.Proofs.Ytlbpmbdogkfecaa.Mod (setM setS)

open Go.Proofs.Ytlbpmbdogkfecaa.Srt (flatA actL flatA_len IA IA.kept RowI RowI.keep RowI.cell AcS AcS.kept A3 forN acts_in ids_in)

set_option linter.unusedSimpArgs false

theorem set_self {α : Type} {l : List α} {i : Nat} {x : α} (h : l[i]? = some x) : l.set i x = l := by
  apply List.ext_getElem?
  intro j
  rw [List.getElem?_set]
  split
  · rename_i e
    subst e
    rw [if_pos (List.getElem?_eq_some_iff.1 h).1, h]
  · rfl
def I1Rel (B g mb : Nat) (V : Value) (L : List CP) (n R : Nat) (w : World) (i : Value) (W : World) : Prop :=
  ∃ (k : Nat) (M : List CP), k ≤ n ∧ i = .int .i64 (k : Int) ∧ IsW W B g mb V M ∧ M.map (fun p => (p.lo, p.hi)) = L.map (fun p => (p.lo, p.hi)) ∧ M.map CP.s = L.map CP.s ∧ (∀ p ∈ M, 0 ≤ p.st ∧ p.st ≤ (k : Int) + 1) ∧ RowI R (L.map fun p => p.s.id) W ∧ Below w.heap.size w W
def I2Rel (s : Int) (ac : List A3) (m : Nat) (W1 : World) (V i : Value) (W : World) : Prop :=
  ∃ k : Nat, k ≤ m ∧ i = .int .i64 (k : Int) ∧ W.ownsRow W1.heap.size 84 3 V (othL s (ac.take k)).length (flatA (othL s (ac.take k))) ∧ Below W1.heap.size W1 W
def I3Rel (n : Nat) (W1 : World) (i : Value) (W : World) : Prop := ∃ k : Nat, k ≤ n ∧ i = .int .i64 (k : Int) ∧ Below W1.heap.size W1 W
theorem flatA_snoc (l : List A3) (x : A3) : flatA (l ++ [x]) = flatA l ++ actL x := by
  unfold flatA
  rw [List.flatMap_append]
  simp
set_option maxRecDepth 16000 in
set_option maxHeartbeats 12800000 in
theorem walk (a0 : Option Addr) (len0 cap0 : Nat) (a1 : Option Addr) (len1 cap1 : Nat) (a2 : Int) (a3 : Option Addr) (len3 cap3 : Nat) (z3 : List Int) (w : World) (w0 : IsRows w a0 len0 cap0 [.one (.int .i64), .one (.string), .one (.bool), .recs [.int .u32, .bool]]) (w1 : IsRecs w a1 len1 cap1 [.int .i64, .int .i64, .int .i64]) (w2 : (Lit.int .i64 a2).wf = true) (w3 : IsRow .i64 w a3 len3 cap3 z3) :
    Calls Try.prog 5 #[.slice a0 len0 cap0, .slice a1 len1 cap1, .int .i64 a2, .slice a3 len3 cap3] w fun e w' => e = .returned (.bool true) ∧ Below w.heap.size w w' := by
  obtain ⟨l, hll, hpa, hok, hpn, hpc, hpm⟩ := parts_in w0
  obtain ⟨ac, hal, hac, han, hacc, ham⟩ := acts_in w1
  obtain ⟨hml, hia⟩ := ids_in w3
  obtain ⟨md, hmd⟩ : ∃ md, z3.take len3 = md := ⟨_, rfl⟩
  rw [hmd] at hml hia
  clear w0 w1 w3 hmd
  subst hll
  obtain ⟨n0, hn0⟩ : ∃ n, l.length = n := ⟨_, rfl⟩
  have HFW := Lib.hid (few_any a0 cap0 l w hpa (Nat.le_trans hpc hpm))
  have HPA := Lib.hid hpa
  have HOK := Lib.hid hok
  have HAC := Lib.hid hac
  have HAL := Lib.hid hal
  have HIA := Lib.hid hia
  have HML := Lib.hid hml
  have HN0 := Lib.hid hn0
  rw [hn0] at HFW ⊢
  by_cases hbad : fewB l = false ∨ 40 < len1 ∨ 20 < len3
  · have hcase : fewB l = false ∨ (fewB l = true ∧ decide (40 < (len1 : Int)) = true) ∨ (fewB l = true ∧ decide (40 < (len1 : Int)) = false ∧ decide (20 < (len3 : Int)) = true) := by
      cases hf : fewB l with
      | false => exact .inl rfl
      | true =>
        right
        rcases Nat.lt_or_ge 40 len1 with h2 | h2
        · exact .inl ⟨rfl, decide_eq_true (by omega)⟩
        · exact .inr ⟨rfl, decide_eq_false (by omega), decide_eq_true (by rw [hf] at hbad; simp at hbad; omega)⟩
    clear hbad hpa hok hac hia hal hml hn0
    rcases hcase with t0 | ⟨t0, t1⟩ | ⟨t0, t1, t2⟩
    all_goals
      rw [t0] at HFW
      go_enter Try.func5, Try.ntmps5
      go_wp2_with (first
        | (go_at_call 6; refine HFW.out.mono ?_; rintro e w1 ⟨rfl, hb1⟩; have HB1 := Lib.hid hb1; clear hb1)
        | (go_at_call 7; refine (awake_any _).mono ?_; rintro e w2 ⟨rfl, hb2⟩; have HB2 := Lib.hid (HB1.out.trans (hb2.mono HB1.out.size)); clear hb2))
      go_ret
      exact ⟨rfl, HB2.out⟩
  · have hfew : fewB l = true := by
      cases hf : fewB l with
      | true => rfl
      | false => exact absurd (.inl hf) hbad
    have h20 : n0 ≤ 20 ∧ ∀ x ∈ l, x.s.n ≤ 20 := by
      unfold fewB at hfew
      rw [Bool.and_eq_true] at hfew
      refine ⟨by have := of_decide_eq_true hfew.2; omega, fun x hx => ?_⟩
      have := List.all_eq_true.1 hfew.1 x hx
      exact of_decide_eq_true this
    have HN20 : Hid (n0 ≤ 20) := h20.1
    have HC20 := Lib.hid h20.2
    have t1 : decide (40 < (len1 : Int)) = false := decide_eq_false (by omega)
    have t2 : decide (20 < (len3 : Int)) = false := decide_eq_false (by omega)
    have HL1 : Hid (len1 ≤ 40) := by show _ ≤ _; omega
    have HL3 : Hid (len3 ≤ 20) := by show _ ≤ _; omega
    rw [hfew] at HFW
    have HNW := Lib.hid (fun (W : World) (b : Below w.heap.size w W) => new_any a0 cap0 l W (hpa.kept b) (fun x hx => ⟨(hok x hx).kept b, by have := h20.2 x hx; omega⟩) (by omega))
    rw [hn0] at HNW
    clear hbad hpa hok hac hia hal hml hn0 h20 hfew
    go_enter Try.func5, Try.ntmps5
    go_wp2_with (go_at_call 6; refine HFW.out.mono ?_; rintro e w1 ⟨rfl, hb1⟩; have HB1 := Lib.hid hb1; clear hb1)
    refine (HNW.out _ HB1.out).mono ?_
    rintro e w2 ⟨hb2, hor⟩
    have HB2 := Lib.hid (HB1.out.trans (hb2.mono HB1.out.size))
    have HLO := Lib.hid HB1.out.size
    clear HNW HFW HB1 hb2
    rcases hor with ⟨hris, g, mb, V, L, rfl, hiw, hq⟩ | ⟨hno, rfl⟩
    · have HIW := Lib.hid hiw
      have HQ := Lib.hid hq
      obtain ⟨B, hB⟩ : ∃ B, w1.heap.size = B := ⟨_, rfl⟩
      rw [hB] at HIW HLO
      have hnl : L.length = n0 := by have := congrArg List.length hq; rw [List.length_map, List.length_map] at this; rw [this]; exact HN0.out
      have HNL := Lib.hid hnl
      have HST1 : Hid (∀ p ∈ L, p.st = 1) := fun p hp => by
        have h1 : p.q ∈ l.map AP.q := by rw [← hq]; exact List.mem_map.2 ⟨p, hp, rfl⟩
        obtain ⟨z, hz, hzq⟩ := List.mem_map.1 h1
        exact (congrArg QS.st hzq).symm
      have HPH : Hid (∀ p ∈ L, p.hi ≤ w2.heap.size) := fun p hp => (HIW.out.pt p hp).1.hs
      have HIDS := Lib.hid (ids_any HIW.out (by have := HN20.out; omega))
      rw [hnl] at HIDS
      clear hris hiw hq hB hnl
      go_wp2_with fail
      refine HIDS.out.mono ?_
      rintro e w3 ⟨R, rfl, hR, hri, hb3⟩
      have HR : Hid (w2.heap.size ≤ R) := hR
      have HS0 : Hid (I1Rel B g mb V L n0 R w (.int .i64 0) w3) := ⟨0, L, Nat.zero_le _, rfl, HIW.out.keep hb3, rfl, rfl, fun p hp => by rw [HST1.out p hp]; decide, hri, HB2.out.trans (hb3.mono HB2.out.size)⟩
      clear hR hri hb3 HIDS HB2
      go_wp2_with fail
      go_loopw [55] (fun i W => I1Rel B g mb V L n0 R w i W) (fun i _ => n0 - (intOf i).toNat)
      case atStart => exact HS0.out
      case round =>
        rename World => W
        obtain ⟨k, M, hk, rfl, hiw, hlo, hs, hst, hri, hb⟩ := hrel
        have HIM := Lib.hid hiw
        have HLOS := Lib.hid hlo
        have HSS := Lib.hid hs
        have HST := Lib.hid hst
        have HRI := Lib.hid hri
        have HB := Lib.hid hb
        have hml : M.length = n0 := by have := congrArg List.length hs; rw [List.length_map, List.length_map] at this; rw [this]; exact HNL.out
        have HMLN := Lib.hid hml
        clear hiw hlo hs hst hri hb hml HS0
        by_cases hlt : k < n0
        · obtain ⟨q, hq⟩ : ∃ q, M[k]? = some q := ⟨_, List.getElem?_eq_getElem (by rw [HMLN.out]; exact hlt)⟩
          obtain ⟨p, hp⟩ : ∃ p, L[k]? = some p := ⟨_, List.getElem?_eq_getElem (by rw [HNL.out]; exact hlt)⟩
          have hqs : q.s = p.s := by
            have h1 : (M.map CP.s)[k]? = some q.s := by rw [List.getElem?_map, hq]; rfl
            rw [HSS.out, List.getElem?_map, hp] at h1
            exact (Option.some.inj h1).symm
          have hrc := HRI.out.cell (i := k) (x := q.s.id) (by rw [List.getElem?_map, hp, hqs]; rfl)
          have hqm : q ∈ M := List.mem_of_getElem? hq
          have hpt := HIM.out.pt q hqm
          have hget := get_any HIM.out q.s.id hpt.2.2.2.2.2.1
          rw [fnd_at HIM.out.up hq] at hget
          have HGET := Lib.hid hget
          have HQK := Lib.hid hq
          have HQM := Lib.hid hqm
          have HPT := Lib.hid hpt
          have HLT := Lib.hid hlt
          have hkb : (k : Int) < n0 := by omega
          have hki : (0 : Int) ≤ k := by omega
          have HK1 : Hid (IntKind.i64.wrap ((k : Int) + 1) = (k : Int) + 1) := IntWalk.i64_in _ (by have := HN20.out; omega)
          have hk1 := HK1.out
          clear hq hp hqs hqm hpt hget hk
          by_cases hk3 : k < len3
          · obtain ⟨x, hx⟩ : ∃ x, md[k]? = some x := ⟨_, List.getElem?_eq_getElem (by rw [HML.out]; exact hk3)⟩
            obtain ⟨y, rfl, hxc⟩ := (HIA.out.kept HB.out) k x hx
            have t3 : decide ((k : Int) < (len3 : Int)) = true := decide_eq_true (by omega)
            have t4 : decide (k < len3) = true := decide_eq_true hk3
            have hk3i : (k : Int) < len3 := by omega
            have hxd : W.drew.cell? (y.add k) = some (.int .i64 x) := hxc
            have HSM := Lib.hid (setmode_any (IsP.drewN HPT.out.1 1) HPT.out.2.2.2.2.2.2 ⟨(HST.out q HQM.out).1, by have := (HST.out q HQM.out).2; have := HLT.out; have := HN20.out; omega⟩ x)
            have HXK : Hid (∀ W', Below w.heap.size w W' → W'.cell? (y.add k) = some (.int .i64 x)) := fun W' b => by
              obtain ⟨y', hy', h⟩ := (HIA.out.kept b) k x hx
              obtain rfl := Option.some.inj hy'
              exact h
            clear hlt hk3 hx
            go_wp2_with (go_at_call 12; refine HGET.out.mono ?_; rintro e W1 ⟨rfl, rfl⟩; simp only [Option.map_some, Option.getD_some, Option.isSome_some, CP.ptr])
            go_upto_region 11 with fail
            go_region_held3 (fun wx => wx.cell? (y.add k) = some (.int .i64 x))
              (first | exact HKP.out | assumption | (go_keep; done))
              (first
                | (go_at_call 16; refine HSM.out.mono ?_; rintro e W2 ⟨rfl, hp2, hr2⟩; have HB2 := Lib.hid (Rng.below (HB.out.drew) hr2 HB.out.size (Nat.le_trans HLO.out HPT.out.2.1)); have HKP := Lib.hid (HXK.out W2 HB2.out); have HP2 := Lib.hid hp2; have HR2 := Lib.hid hr2; clear hp2 hr2))
            all_goals
              have hmv := (HIM.out.drewN 1).moved HQK.out (p' := { q with m := setM q.m x, st := goN (setS q.m x) q.st, ca := goC (setS q.m x) 1 q.ca, ns := goL (setS q.m x) q.s.fs q.ns, wr := goW (setS q.m x) q.wr }) HP2.out HR2.out rfl rfl rfl rfl
              have hr9 : RowI R (L.map fun p => p.s.id) W2 := (HR2.out.block R (lt_of_block HRI.out) (.inr (by
                have h1 : (q.lo, q.hi) ∈ L.map fun p => (p.lo, p.hi) := by rw [← HLOS.out]; exact List.mem_map.2 ⟨q, HQM.out, rfl⟩
                obtain ⟨z, hz, hze⟩ := List.mem_map.1 h1
                injection hze with e1 e2
                have := HPH.out z hz
                have := HR.out
                omega))).trans HRI.out
              have hkl : k < M.length := (List.getElem?_eq_some_iff.1 HQK.out).1
              have HNX : Hid (∃ M', IsW W2 B g mb V M' ∧ M'.map (fun p => (p.lo, p.hi)) = L.map (fun p => (p.lo, p.hi)) ∧ M'.map CP.s = L.map CP.s ∧ (∀ p ∈ M', 0 ≤ p.st ∧ p.st ≤ ((k + 1 : Nat) : Int) + 1) ∧ RowI R (L.map fun p => p.s.id) W2) := by
                refine ⟨_, hmv.1, ?_, ?_, ?_, hr9⟩
                · rw [← HLOS.out, List.map_set]
                  exact set_self (by rw [List.getElem?_map, HQK.out]; rfl)
                · rw [← HSS.out, List.map_set]
                  exact set_self (by rw [List.getElem?_map, HQK.out]; rfl)
                · intro z hz
                  rcases List.mem_or_eq_of_mem_set hz with hz | rfl
                  · have := HST.out z hz; omega
                  · have h1 := HST.out q HQM.out
                    show 0 ≤ goN (setS q.m x) q.st ∧ goN (setS q.m x) q.st ≤ _
                    unfold goN
                    split <;> omega
              clear hmv hr9 hkl HP2 HR2 HKP HRI HIM HPT HGET
              go_wp2
              go_roundw
              case rel =>
                obtain ⟨M', h1, h2, h3, h4, h5⟩ := HNX.out
                exact ⟨k + 1, M', HLT.out, by go_num, h1, h2, h3, h4, h5, HB2.out⟩
              case measure => have := HLT.out; simp [intOf]; omega
          · have t3 : decide ((k : Int) < (len3 : Int)) = false := decide_eq_false (by omega)
            have t4 : decide (k < len3) = false := decide_eq_false hk3
            clear hlt hk3
            go_wp2_with (go_at_call 12; refine HGET.out.mono ?_; rintro e W1 ⟨rfl, rfl⟩; simp only [Option.map_some, Option.getD_some, Option.isSome_some, CP.ptr])
            go_roundw
            case rel => exact ⟨k + 1, M, HLT.out, by go_num, HIM.out, HLOS.out, HSS.out, fun p hp => ⟨(HST.out p hp).1, by have := (HST.out p hp).2; omega⟩, HRI.out, HB.out⟩
            case measure => have := HLT.out; simp [intOf]; omega
        · obtain rfl : n0 = k := by omega
          clear hlt hk
          have HS2 : Hid (I2Rel a2 ac len1 W (.slice none 0 0) (.int .i64 0) W) := ⟨0, Nat.zero_le _, rfl, World.ownsRow_nil _ _ _ _, Below.refl _ _⟩
          obtain ⟨i0, hi0, hz0, hz1, hz2⟩ := info_parts infoAct
          go_wp2_with fail
          go_loopw [15, 84] (fun V i W' => I2Rel a2 ac len1 W V i W') (fun _ i _ => len1 - (intOf i).toNat)
          case atStart => exact HS2.out
          case round =>
            rename World => W4
            obtain ⟨k, hk, rfl, ho, hb⟩ := hrel
            obtain ⟨A, cp, rfl⟩ := own_slice ho
            have HO := Lib.hid ho
            have HB4 := Lib.hid hb
            clear ho hb HS2
            by_cases hlt : k < len1
            · obtain ⟨x, hx⟩ : ∃ x, ac[k]? = some x := ⟨_, List.getElem?_eq_getElem (by rw [HAL.out]; exact hlt)⟩
              obtain ⟨y, rfl, e1, e2, e3⟩ := (HAC.out.kept (HB.out.trans (HB4.out.mono HB.out.size))) k x hx
              have htk : ac.take (k + 1) = ac.take k ++ [x] := by rw [List.take_add_one, hx]; rfl
              have HTK := Lib.hid htk
              have HLT := Lib.hid hlt
              have hkb : (k : Int) < len1 := by omega
              have hki : (0 : Int) ≤ k := by omega
              have hk1 : IntKind.i64.wrap ((k : Int) + 1) = (k : Int) + 1 := IntWalk.i64_in _ (by have := HL1.out; omega)
              have hb5 : Below W4.heap.size W4 (W4.alloc (.cells #[.int .i64 x.s, .int .i64 x.p, .int .i64 x.a] 84)) := (Below.refl _ _).alloc (Nat.le_refl _) _
              have hx5 := heap_alloc_new W4 (.cells #[.int .i64 x.s, .int .i64 x.p, .int .i64 x.a] 84)
              have HO5 := Lib.hid (own_keep HO.out hb5)
              have HB5 := Lib.hid (HB4.out.trans (hb5.mono HB4.out.size))
              obtain ⟨xs, xp, xa⟩ := x
              dsimp only at e1 e2 e3 hx5 HO5 HB5 hb5
              clear hlt hk hx htk
              go_upto_region 17 with fail
              obtain ⟨W5, hW5⟩ : ∃ W', W4.alloc (.cells #[.int .i64 xs, .int .i64 xp, .int .i64 xa] 84) = W' := ⟨_, rfl⟩
              obtain ⟨Q, hQ⟩ : ∃ Q, W4.heap.size = Q := ⟨_, rfl⟩
              rw [hW5] at hx5 HO5 HB5
              rw [hQ] at hx5
              rw [hW5, hQ]
              have x0 := cell_of_row W5 _ 0 _ _ _ hx5
              have x1 := cell_of_row W5 _ 1 _ _ _ hx5
              have x2 := cell_of_row W5 _ 2 _ _ _ hx5
              simp only [List.getElem?_toArray, List.getElem?_cons_zero, List.getElem?_cons_succ] at x0 x1 x2
              clear hb5 hx5 hW5 hQ HO HB4 e1 e2 e3
              by_cases hs : xs = a2
              · subst hs
                have t5 : (xs != xs) = false := by simp
                have HE : Hid (othL xs (ac.take (k + 1)) = othL xs (ac.take k)) := by
                  show _ = _
                  rw [HTK.out]
                  unfold othL
                  rw [List.filter_append]
                  simp
                go_wp2
                go_roundw
                case rel => exact ⟨k + 1, HLT.out, by go_num, by rw [HE.out]; exact HO5.out, HB5.out⟩
                case measure => have := HLT.out; simp [intOf]; omega
              · have t5 : (xs != a2) = true := by simp; exact hs
                have HE : Hid (othL a2 (ac.take (k + 1)) = othL a2 (ac.take k) ++ [⟨xs, xp, xa⟩]) := by
                  show _ = _
                  rw [HTK.out]
                  unfold othL
                  rw [List.filter_append]
                  simp [hs]
                obtain ⟨LL, hLL⟩ : ∃ LL, othL a2 (ac.take k) = LL := ⟨_, rfl⟩
                rw [hLL] at HE HO5 ⊢
                have hle : LL.length ≤ 40 := by
                  have h1 : (othL a2 (ac.take k)).length ≤ (ac.take k).length := List.length_filter_le _ _
                  rw [hLL, List.length_take] at h1
                  have := HLT.out; have := HL1.out; omega
                have HLE : Hid (LL.length ≤ 40) := hle
                have hb6 : Below W5.heap.size W5 (W5.alloc (.cells #[.int .i64 xs, .int .i64 xp, .int .i64 xa] 84)) := (Below.refl _ _).alloc (Nat.le_refl _) _
                have HO6 := Lib.hid (own_keep HO5.out hb6)
                have HB6 := Lib.hid (HB5.out.trans (hb6.mono HB5.out.size))
                have HNW2 : Hid (W.heap.size ≤ W5.heap.size + 1) := by show _ ≤ _; have := HB5.out.size; omega
                clear hs hLL hle hb6
                go_wp2_with (at_builtin; refine wpList_append_own _ rfl _ _ 23 rfl W.heap.size 84 i0 (.agg #[.int .i64 0, .int .i64 0, .int .i64 0]) 3 24 Try.underlying23 hi0 hz0 hz1 hz2 rfl (by decide) _ LL.length _ rfl HO6.out ⟨W5.heap.size, 0, none⟩ 1 1 [.int .i64 xs, .int .i64 xp, .int .i64 xa] rfl rfl ?c1 ?c2 ?c3 ?c4 ?c5 ?_)
                case c1 =>
                  intro j u hj
                  have hrow := heap_alloc_new W5 (.cells #[.int .i64 xs, .int .i64 xp, .int .i64 xa] 84)
                  have e : (Addr.mk W5.heap.size 0 none).add j = ⟨W5.heap.size, j, none⟩ := by cases j <;> simp [Addr.add]
                  rw [e, cell_of_row _ _ _ _ _ _ hrow, ← hj]
                  simp
                case c2 => intro u hu; simp at hu; rcases hu with rfl | rfl | rfl <;> rfl
                case c3 => have := HLE.out; unfold maxLen; omega
                case c4 => have := HLE.out; omega
                case c5 => have := HNW2.out; simp; omega
                intro v' w12 ho12 hg12 _
                have HO12 := Lib.hid ho12
                have HB12 := Lib.hid (HB6.out.grown hg12 HB6.out.size (fun j hj => (HO6.out.lt j hj).1))
                clear ho12 hg12 x0 x1 x2 HO5 HO6 HB5 HB6
                go_wp2
                go_roundw
                case rel => exact ⟨k + 1, HLT.out, by go_num, by rw [HE.out, List.length_append, flatA_snoc]; exact HO12.out, HB12.out⟩
                case measure => have := HLT.out; simp [intOf]; omega
            · obtain rfl : len1 = k := by omega
              have hfull : ac.take len1 = ac := List.take_of_length_le (by rw [HAL.out]; exact Nat.le_refl _)
              rw [hfull] at HO
              have hacs := acs_own HO.out rfl
              have hml2 : (othL a2 ac).length ≤ 1000000 := by
                have h1 : (othL a2 ac).length ≤ ac.length := List.length_filter_le _ _
                have := HAL.out; have := HL1.out; omega
              have hiw4 := HIM.out.keep HB4.out
              have HIW4 := Lib.hid hiw4
              have HACS := Lib.hid hacs
              have HML2 := Lib.hid hml2
              have HBW4 := Lib.hid (HB.out.trans (HB4.out.mono HB.out.size))
              have HSH := Lib.hid (shots_any hiw4 (by have := HMLN.out; have := HN20.out; omega))
              rw [HMLN.out] at HSH
              obtain ⟨OL, hOL⟩ : ∃ OL, othL a2 ac = OL := ⟨_, rfl⟩
              have HFOR : Hid (forN OL a2 = fun _ => 0) := by show _ = _; rw [← hOL]; funext i; exact oth_for a2 i ac
              have HOH : Hid (∀ j, (Value.slice A (othL a2 ac).length cp).ownBlock = some j → W.heap.size ≤ j) := fun j hj => (HO.out.lt j hj).1
              have HW14 : Hid (W.heap.size ≤ W4.heap.size) := HB4.out.size
              have HPH4 : Hid (∀ q ∈ M, q.hi ≤ W.heap.size) := fun q hq => (HIM.out.pt q hq).1.hs
              rw [hfull]
              clear hfull hacs hml2 hiw4 hlt hk HO HB4 HIM HB
              rw [hOL] at HACS HML2 HOH ⊢
              clear hOL
              go_wp2_with fail
              refine HSH.out.mono ?_
              rintro e w5 ⟨R1, D1, rfl, hR1, hbr1, hdl1, hsd1, hb5⟩
              have HIW5 := Lib.hid (HIW4.out.keep hb5)
              have HBR1 := Lib.hid hbr1
              have HSD1 := Lib.hid hsd1
              have HDL1 := Lib.hid hdl1
              have HR1 : Hid (W4.heap.size ≤ R1) := hR1
              have HB5 := Lib.hid (HBW4.out.trans (hb5.mono HBW4.out.size))
              have HCH := Lib.hid (change_any HIW5.out (by have := HMLN.out; have := HN20.out; omega) (fun q hq => ⟨(HST.out q hq).1, by have := (HST.out q hq).2; have := HN20.out; omega⟩) A cp OL a2 (HACS.out.1.kept hb5) HACS.out.2.1 HACS.out.2.2 HML2.out)
              rw [HFOR.out, HMLN.out] at HCH
              clear hR1 hbr1 hdl1 hsd1 hb5 HIW4 HBW4 HSH
              go_wp2_with fail
              refine HCH.out.mono ?_
              rintro e w6 ⟨G, rfl, hG, hbr6, hiw6, hpr6⟩
              have hmm6 : M.map (actP fun _ => 0) = M := by
                have : (actP fun _ => 0) = id := funext act_none
                rw [this, List.map_id]
              rw [hmm6] at hiw6
              have HIW6 := Lib.hid hiw6
              have HBD6 := Lib.hid hbr6
              have HBR6 : Hid (BR R1 79 D1 w6) := (hpr6.block R1 (lt_of_block HBR1.out) (fun q hq => .inr (by have := HPH4.out q hq; have := HB5.out.size; have := HR1.out; have := HW14.out; omega))).trans HBR1.out
              have HSD6 := Lib.hid (HSD1.out.pr hpr6 (fun q hq => Nat.le_trans (HPH4.out q hq) HW14.out))
              have HB6 := Lib.hid (PR.below HB5.out hpr6 HB5.out.size (fun q hq => Nat.le_trans HLO.out (HIW5.out.pt q hq).2.1))
              have hdid : M.map (didB fun _ => 0) = M.map fun q => [.int .i64 q.s.id, .int .i64 0, .bool false] := by
                have : (didB fun _ => 0) = fun q : CP => [Value.int .i64 q.s.id, .int .i64 0, .bool false] := funext did_none
                rw [this]
              rw [hdid] at HBD6
              have HS3 : Hid (I3Rel n0 w6 (.int .i64 0) w6) := ⟨0, Nat.zero_le _, rfl, Below.refl _ _⟩
              clear hG hbr6 hiw6 hpr6 hmm6 hdid HBR1 HSD1 HIW5 HB5 HCH HACS HML2 HFOR HOH
              have HQL : Hid (∀ (k : Nat) (q : CP) (x : AP), M[k]? = some q → l[k]? = some x → x.s = q.s) := fun k q x hq hx => by
                have h1 : (M.map CP.s)[k]? = some q.s := by rw [List.getElem?_map, hq]; rfl
                have h2 : (l.map AP.q)[k]? = some x.q := by rw [List.getElem?_map, hx]; rfl
                rw [HSS.out, List.getElem?_map] at h1
                obtain ⟨p, hp, hps⟩ := Option.map_eq_some_iff.1 h1
                rw [← HQ.out, List.getElem?_map, hp] at h2
                have h3 : p.q = x.q := by simpa using h2
                rw [← hps]
                exact (congrArg QS.s h3).symm
              go_wp2_with fail
              go_loopw [110] (fun i W' => I3Rel n0 w6 i W') (fun i _ => n0 - (intOf i).toNat)
              case atStart => exact HS3.out
              case round =>
                rename World => W7
                obtain ⟨k, hk, rfl, hb7⟩ := hrel
                have HB7 := Lib.hid hb7
                clear hb7 HS3
                by_cases hlt : k < n0
                · obtain ⟨q, hq⟩ : ∃ q, M[k]? = some q := ⟨_, List.getElem?_eq_getElem (by rw [HMLN.out]; exact hlt)⟩
                  obtain ⟨x, hx⟩ : ∃ x, l[k]? = some x := ⟨_, List.getElem?_eq_getElem (by rw [HN0.out]; exact hlt)⟩
                  have hxq := HQL.out k q x hq hx
                  have hbb7 := HB6.out.trans (HB7.out.mono HB6.out.size)
                  obtain ⟨y, rfl, e1, -, -, -⟩ := (HPA.out.kept hbb7) k x hx
                  rw [hxq] at e1
                  have hbd := HBD6.out.keep HB7.out
                  have hall : ∀ z ∈ (M.map fun q => [Value.int .i64 q.s.id, .int .i64 0, .bool false]), z.length = 3 := fun z hz => by obtain ⟨q', _, rfl⟩ := List.mem_map.1 hz; rfl
                  have hdk : (M.map fun q => [Value.int .i64 q.s.id, .int .i64 0, .bool false])[k]? = some [.int .i64 q.s.id, .int .i64 0, .bool false] := by rw [List.getElem?_map, hq]; rfl
                  have f0 : W7.cell? ⟨G, k * 3, none⟩ = some (.int .i64 q.s.id) := hbd.cell 3 hall hdk (j := 0) rfl
                  have f1 : W7.cell? ⟨G, k * 3 + 1, none⟩ = some (.int .i64 0) := hbd.cell 3 hall hdk (j := 1) rfl
                  have f2 : W7.cell? ⟨G, k * 3 + 2, none⟩ = some (.bool false) := hbd.cell 3 hall hdk (j := 2) rfl
                  have HLT := Lib.hid hlt
                  have hkb : (k : Int) < n0 := by omega
                  have hki : (0 : Int) ≤ k := by omega
                  have hk1 : IntKind.i64.wrap ((k : Int) + 1) = (k : Int) + 1 := IntWalk.i64_in _ (by have := HN20.out; omega)
                  obtain ⟨id, hid⟩ : ∃ v, q.s.id = v := ⟨_, rfl⟩
                  rw [hid] at e1 f0
                  have hb8 : Below W7.heap.size W7 (W7.alloc (.cells #[.int .i64 id, .int .i64 0, .bool false] 70)) := (Below.refl _ _).alloc (Nat.le_refl _) _
                  have hx8 := heap_alloc_new W7 (.cells #[.int .i64 id, .int .i64 0, .bool false] 70)
                  have e1' := (hb8.cell (Go.block_lt_of_cell e1)).trans e1
                  have HB8 := Lib.hid (HB7.out.trans (hb8.mono HB7.out.size))
                  have heq : ∀ wx : World, (Op.equalIn 10000 70 (.agg #[.int .i64 id, .int .i64 0, .bool false]) (.agg #[.int .i64 id, .int .i64 0, .bool false])).run Try.prog wx = .ok true wx := eq_did id 0 false
                  clear hq hx hxq hbb7 hbd hall hdk hlt hk hid HB7
                  go_upto_region 27 with fail
                  obtain ⟨W8, hW8⟩ : ∃ W', W7.alloc (.cells #[.int .i64 id, .int .i64 0, .bool false] 70) = W' := ⟨_, rfl⟩
                  obtain ⟨Q, hQQ⟩ : ∃ Q, W7.heap.size = Q := ⟨_, rfl⟩
                  rw [hW8] at hx8 HB8 e1'
                  rw [hQQ] at hx8
                  rw [hW8, hQQ]
                  have x0 := cell_of_row W8 _ 0 _ _ _ hx8
                  have x1 := cell_of_row W8 _ 1 _ _ _ hx8
                  have x2 := cell_of_row W8 _ 2 _ _ _ hx8
                  simp only [List.getElem?_toArray, List.getElem?_cons_zero, List.getElem?_cons_succ] at x0 x1 x2
                  clear hW8 hQQ hx8 hb8 e1 f0 f1 f2
                  go_quiet (fail)
                  go_wp2
                  go_roundw
                  case rel => exact ⟨k + 1, HLT.out, by go_num, HB8.out.trans ⟨rfl, rfl, rfl, Nat.le_refl _, fun _ _ => rfl⟩⟩
                  case measure => have := HLT.out; simp [intOf]; omega
                · obtain rfl : n0 = k := by omega
                  have hiw7 := HIW6.out.keep HB7.out
                  have HB67 := Lib.hid (HB6.out.trans (HB7.out.mono HB6.out.size))
                  have HSH2 := Lib.hid (shots_any hiw7 (by have := HMLN.out; have := HN20.out; omega))
                  rw [HMLN.out] at HSH2
                  have HNS : Hid (∀ q ∈ M, q.ns.length = q.s.n ∧ q.s.n ≤ 1000) := fun q hq => ⟨(hiw7.pt q hq).1.ic.nlen, (hiw7.pt q hq).2.2.2.2.2.2⟩
                  clear hlt hk hiw7
                  go_wp2_with fail
                  refine HSH2.out.mono ?_
                  rintro e w8 ⟨R2, D2, rfl, hR2, hbr2, hdl2, hsd2, hb8⟩
                  have hb78 := HB7.out.trans (hb8.mono HB7.out.size)
                  have hs2 := hsd2.ss hbr2 (by rw [hdl2, HMLN.out]) (fun q hq => (HNS.out q hq).1)
                  have hs1 := (HSD6.out.keep hb78).ss (HBR6.out.keep hb78) (by rw [HDL1.out, HMLN.out]) (fun q hq => (HNS.out q hq).1)
                  have HSM := Lib.hid (same_any _ _ n0 n0 n0 n0 (M.map CP.sh) (M.map CP.sh) w8 hs2 hs1 (by rw [List.length_map]; exact HMLN.out) (by rw [List.length_map]; exact HMLN.out) (by have := HN20.out; omega) (fun z hz => by
                    obtain ⟨q, hq, rfl⟩ := List.mem_map.1 hz
                    have := HNS.out q hq
                    show q.ns.length ≤ 1000
                    omega))
                  rw [sameL_refl] at HSM
                  have HB8 := Lib.hid (HB67.out.trans (hb8.mono HB67.out.size))
                  clear hR2 hbr2 hdl2 hsd2 hb8 hb78 hs2 hs1 HSH2 HB67
                  go_wp2_with (first
                    | (go_at_call 26; refine HSM.out.mono ?_; rintro e w9 ⟨rfl, hb9⟩; have HB9 := Lib.hid (HB8.out.trans (hb9.mono HB8.out.size)); clear hb9)
                    | (go_at_call 7; refine (awake_any _).mono ?_; rintro e w10 ⟨rfl, hb10⟩; have HB10 := Lib.hid (HB9.out.trans (hb10.mono HB9.out.size)); clear hb10))
                  go_ret
                  exact ⟨rfl, HB10.out⟩
    · clear hno
      go_wp2_with (go_at_call 7; refine (awake_any _).mono ?_; rintro e w3 ⟨rfl, hb3⟩; have HB3 := Lib.hid (HB2.out.trans (hb3.mono HB2.out.size)); clear hb3)
      go_ret
      exact ⟨rfl, HB3.out⟩

end Go.Proofs.Ytlbpmbdogkfecaa.crewIgnores
