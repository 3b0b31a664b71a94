/- Pairs: the document's order, its closing by squaring, where pairs lead to (countwheelref10). Condition: at most 24 pairs. -/
import Derived.Test.YtnngldkpkhabeaaMg29
import Derived.Maps.AppendAt
namespace Go.Proofs.Ytnngldkpkhabeaa.Pai

open Go.RowKit Go.PlainAid Go.Proofs.Ytnngldkpkhabeaa.Args

set_option linter.unusedVariables false

set_option linter.unusedSimpArgs false

theorem prs_nil (w : World) : Prs [] (.slice (some ⟨w.heap.size, 0, none⟩) 0 0) (w.alloc (.cells #[] 24)) := ⟨_, 0, rfl, fun i x hx => by simp at hx, fun h => by simp at h, Nat.le_refl _⟩
def SRel (l : List P2) (w : World) (v i : Value) (W : World) : Prop := ∃ k : Nat, k ≤ l.length ∧ i = .int .i64 (k : Int) ∧ Prs (srtD (l.take k)) v W ∧ Below w.heap.size w W
set_option maxRecDepth 8000 in
set_option maxHeartbeats 3200000 in
theorem rsort10_any (A : Option Addr) (cap n : Nat) (l : List P2) (w : World) (h : PairsAt w A l) (hln : l.length = n) (hl : n ≤ 24) :
    Calls Try.prog 7 #[.slice A n cap] w (PuPost (srtD l) w) := by
  have hb0 : Below w.heap.size w (w.alloc (.cells #[] 24)) := (Below.refl _ _).alloc (Nat.le_refl _) _
  have HB0 := Lib.hid hb0
  have HA := Lib.hid hln
  have H1 := Lib.hid h
  have HL : Hid (n ≤ 24) := hl
  have HS0 : Hid (SRel l w (.slice (some ⟨w.heap.size, 0, none⟩) 0 0) (.int .i64 0) (w.alloc (.cells #[] 24))) := ⟨0, Nat.zero_le _, rfl, prs_nil w, hb0⟩
  unfold PuPost
  clear h hb0 hln hl
  go_enter Try.func7, Try.ntmps7
  go_wp2_with fail
  go_loopw [3, 4] (fun v i W => SRel l w v i W) (fun _ i _ => n - (intOf i).toNat)
  case atStart => exact HS0.out
  case round =>
    rename World => W
    clear HS0
    obtain ⟨k, hk, rfl, hp, hb⟩ := hrel
    have HP := Lib.hid hp
    have HB := Lib.hid hb
    clear hp hb
    have hn := HA.out
    by_cases hlt : k < n
    · obtain ⟨x, hx⟩ : ∃ x, l[k]? = some x := ⟨_, List.getElem?_eq_getElem (by omega)⟩
      obtain ⟨y, rfl, c0, c1⟩ := (H1.out.kept HB.out) k x hx
      have hts : srtD (l.take (k + 1)) = putP x (srtD (l.take k)) := by rw [List.take_add_one, hx]; exact srtD_snoc _ _
      have HTS := Lib.hid hts
      have hsl := (srtD_ord (l.take k)).len
      obtain ⟨AO, cO, rfl, hO1, hO2, hO3⟩ := HP.out
      have HPU := Lib.hid (put10_any AO cO _ (srtD (l.take k)) x W hO1 hO2 hO3 rfl (by rw [List.length_take] at hsl; have := HL.out; omega))
      rw [← hts] at HPU
      obtain ⟨m, hm⟩ : ∃ m, (srtD (l.take k)).length = m := ⟨_, rfl⟩
      rw [hm] at HPU
      rw [hm]
      have hki : (0 : Int) ≤ k := by omega
      have hkb : (k : Int) < n := by omega
      have hk1 : IntKind.i64.wrap ((k : Int) + 1) = (k : Int) + 1 := IntWalk.i64_in _ (by have := HL.out; omega)
      have HKN : Hid (k + 1 ≤ l.length) := by show _ ≤ _; omega
      clear hx hts hsl hO1 hO2 hO3 hm hn
      go_wp2_with fail
      refine HPU.out.mono ?_
      rintro e w2 ⟨V2, rfl, hp2, hb2⟩
      have HP2 := Lib.hid hp2
      have HB2 := Lib.hid (HB.out.trans (hb2.mono HB.out.size))
      clear hp2 hb2
      go_wp2
      go_roundw
      case rel => exact ⟨k + 1, HKN.out, by go_num, HP2.out, HB2.out⟩
      case measure => simp [intOf]; omega
    · obtain rfl : k = n := by omega
      have htk : l.take k = l := List.take_of_length_le (by omega)
      rw [htk] at HP
      clear hn htk
      go_wp2
      go_ret
      exact ⟨_, rfl, HP.out, HB.out⟩
def ClPost (l : List P2) (w : World) (e : Ending) (w' : World) : Prop := ∃ D V, Clo l D ∧ e = .returned V ∧ Prs D V w' ∧ Below w.heap.size w w'
def C1 (l : List P2) (w : World) (v : Value) (W : World) : Prop := ∃ L, Prs L v W ∧ Good l L ∧ (∀ x ∈ l, x ∈ L) ∧ Below w.heap.size w W
def C2R (l L : List P2) (W0 : World) (v i : Value) (W : World) : Prop := ∃ k : Nat, k ≤ L.length ∧ i = .int .i64 (k : Int) ∧ Prs (allQ L (L.take k) L) v W ∧ Below W0.heap.size W0 W
def C3R (l L N : List P2) (p : P2) (b : Nat) (W0 : World) (v i : Value) (W : World) : Prop := ∃ j : Nat, j ≤ L.length ∧ i = .int .i64 (j : Int) ∧ Prs (rowQ p (L.take j) N) v W ∧ W.heap[b]? = some (.cells #[.int .i64 p.f, .int .i64 p.t] 24 (0, 0)) ∧ Below W0.heap.size W0 W
def slN : Value → Nat
  | .slice _ n _ => n
  | _ => 0
theorem sq_576 {n : Nat} (h : n ≤ 24) : n * n ≤ 576 := Nat.mul_le_mul h h
set_option maxRecDepth 8000 in
set_option maxHeartbeats 6400000 in
theorem rclosed10_any (A : Option Addr) (cap n : Nat) (l : List P2) (w : World) (h : PairsAt w A l) (hln : l.length = n) (hl : n ≤ 24) :
    Calls Try.prog 8 #[.slice A n cap] w (ClPost l w) := by
  have HSO := Lib.hid (rsort10_any A cap n l w h hln hl)
  have HGL : Hid (∀ N, Good l N → N.length ≤ 576) := fun N hg => Nat.le_trans hg.len (by rw [hln]; exact sq_576 hl)
  have HGS : Hid (Good l (srtD l)) := good_srt (srtD_ord l)
  have HMS : Hid (∀ x ∈ l, x ∈ srtD l) := fun x hx => ((srtD_ord l).mem x).2 hx
  unfold ClPost
  clear h hln hl
  go_enter Try.func8, Try.ntmps8
  go_wp2_with fail
  refine HSO.out.mono ?_
  rintro e w1 ⟨V1, rfl, hp1, hb1⟩
  have HI1 : Hid (C1 l w V1 w1) := ⟨_, hp1, HGS.out, HMS.out, hb1⟩
  clear hp1 hb1 HSO HGS HMS
  go_wp2_with fail
  go_loopw [3] (fun v W => C1 l w v W) (fun v _ => 577 - slN v)
  case atStart => exact HI1.out
  case round =>
    rename World => W
    clear HI1
    obtain ⟨L, hp, hg, hm, hb⟩ := hrel
    obtain ⟨AL, cL, rfl, hL1, hL2, hL3⟩ := hp
    have HG := Lib.hid hg
    have HM := Lib.hid hm
    have HB := Lib.hid hb
    have HL1 := Lib.hid hL1
    have HLL := Lib.hid (HGL.out L hg)
    have HPL : Hid (Prs L (.slice AL L.length cL) W) := ⟨AL, cL, rfl, hL1, hL2, hL3⟩
    obtain ⟨m, hml⟩ : ∃ m, L.length = m := ⟨_, rfl⟩
    have HML := Lib.hid hml
    rw [hml] at HLL HPL
    rw [hml]
    have HI2 : Hid (C2R l L W (.slice AL m cL) (.int .i64 0) W) := ⟨0, Nat.zero_le _, rfl, by exact HPL.out, Below.refl _ _⟩
    clear hg hm hb hL1 hL2 hL3 hml
    go_wp2_with fail
    go_loopw [4, 14] (fun v i W2 => C2R l L W v i W2) (fun _ i _ => m - (intOf i).toNat)
    case atStart => exact HI2.out
    case round =>
      rename World => W2
      clear HI2
      obtain ⟨k, hk, rfl, hp2, hb2⟩ := hrel
      have HP2 := Lib.hid hp2
      have HB2 := Lib.hid hb2
      clear hp2 hb2
      have hmm := HML.out
      by_cases hlt : k < m
      · obtain ⟨p, hp⟩ : ∃ p, L[k]? = some p := ⟨_, List.getElem?_eq_getElem (by omega)⟩
        obtain ⟨y, rfl, c0, c1⟩ := (HL1.out.kept HB2.out) k p hp
        have hcp := HG.out.conn p (List.mem_of_getElem? hp)
        have HCP := Lib.hid hcp
        have hts : allQ L (L.take (k + 1)) L = rowQ p L (allQ L (L.take k) L) := by rw [List.take_add_one, hp]; exact allQ_snoc _ _ _ _
        have HTS := Lib.hid hts
        have hgk : Good l (allQ L (L.take k) L) := good_all HG.out HG.out.conn _ (fun q hq => HG.out.conn q (List.mem_of_mem_take hq))
        have HGK := Lib.hid hgk
        obtain ⟨N, hN⟩ : ∃ N, allQ L (L.take k) L = N := ⟨_, rfl⟩
        rw [hN] at HP2 HGK HTS
        obtain ⟨AN, cN, rfl, hN1, hN2, hN3⟩ := HP2.out
        have hki : (0 : Int) ≤ k := by omega
        have hkb : (k : Int) < m := by omega
        have hk1 : IntKind.i64.wrap ((k : Int) + 1) = (k : Int) + 1 := IntWalk.i64_in _ (by have := HLL.out; omega)
        have HKN : Hid (k + 1 ≤ L.length) := by show _ ≤ _; omega
        have hba : Below W2.heap.size W2 (W2.alloc (.cells #[.int .i64 p.f, .int .i64 p.t] 24)) := (Below.refl _ _).alloc (Nat.le_refl _) _
        have HI3 : Hid (C3R l L N p W2.heap.size W2 (.slice AN N.length cN) (.int .i64 0) (W2.alloc (.cells #[.int .i64 p.f, .int .i64 p.t] 24))) := ⟨0, Nat.zero_le _, rfl, HP2.out.keep hba, heap_alloc_new _ _, hba⟩
        have HLA := Lib.hid (fun W' (b : Below W2.heap.size W2 W') => HL1.out.kept (HB2.out.trans (b.mono HB2.out.size)))
        clear hp hcp hts hgk hN hN1 hN2 hN3 hmm hba
        go_wp2_with fail
        go_loopw [4, 20] (fun v i W3 => C3R l L N p W2.heap.size W2 v i W3) (fun _ i _ => m - (intOf i).toNat)
        case atStart => exact HI3.out
        case round =>
          rename World => W3
          clear HI3 c0 c1
          obtain ⟨j, hj, rfl, hp3, hx3, hb3⟩ := hrel
          have HP3 := Lib.hid hp3
          have HX3 := Lib.hid hx3
          have HB3 := Lib.hid hb3
          clear hp3 hx3 hb3
          have hmm := HML.out
          have y0 := cell_of_row _ _ 0 _ _ _ HX3.out
          have y1 := cell_of_row _ _ 1 _ _ _ HX3.out
          simp only [List.getElem?_toArray, List.getElem?_cons_zero, List.getElem?_cons_succ] at y0 y1
          by_cases hlt3 : j < m
          · obtain ⟨q, hq⟩ : ∃ q, L[j]? = some q := ⟨_, List.getElem?_eq_getElem (by omega)⟩
            obtain ⟨_, ey, c0, c1⟩ := (HLA.out _ HB3.out) j q hq
            obtain rfl := Option.some.inj ey
            have hcq := HG.out.conn q (List.mem_of_getElem? hq)
            have hts3 : rowQ p (L.take (j + 1)) N = stepQ p (rowQ p (L.take j) N) q := by rw [List.take_add_one, hq]; exact rowQ_snoc _ _ _ _
            have hgr : Good l (rowQ p (L.take j) N) := good_row HGK.out HCP.out _ (fun z hz => HG.out.conn z (List.mem_of_mem_take hz))
            have hrl := HGL.out _ hgr
            obtain ⟨M, hM⟩ : ∃ M, rowQ p (L.take j) N = M := ⟨_, rfl⟩
            rw [hM] at hts3 hrl
            rw [hM] at HP3
            have HTS3 := Lib.hid hts3
            have hji : (0 : Int) ≤ j := by omega
            have hjb : (j : Int) < m := by omega
            have hj1 : IntKind.i64.wrap ((j : Int) + 1) = (j : Int) + 1 := IntWalk.i64_in _ (by have := HLL.out; omega)
            have HJN : Hid (j + 1 ≤ L.length) := by show _ ≤ _; omega
            have hba : Below W3.heap.size W3 (W3.alloc (.cells #[.int .i64 q.f, .int .i64 q.t] 24)) := (Below.refl _ _).alloc (Nat.le_refl _) _
            have HBA := Lib.hid hba
            have HX4 := Lib.hid (box_kept HX3.out hba)
            have HP4 := Lib.hid (HP3.out.keep hba)
            have hqrow := heap_alloc_new W3 (.cells #[.int .i64 q.f, .int .i64 q.t] 24)
            obtain ⟨W4, hW4⟩ : ∃ W4, W3.alloc (.cells #[.int .i64 q.f, .int .i64 q.t] 24) = W4 := ⟨_, rfl⟩
            rw [hW4] at HBA HX4 HP4 hba hqrow
            obtain ⟨bq, hbq⟩ : ∃ bq, W3.heap.size = bq := ⟨_, rfl⟩
            rw [hbq] at hqrow
            have HW4 := Lib.hid hW4
            have HBQ := Lib.hid hbq
            clear hW4 hbq
            by_cases hpq : p.t = q.f
            · have tq : (p.t == q.f) = true := by simp [hpq]
              have hst : stepQ p M q = putP ⟨p.f, q.t⟩ M := by unfold stepQ; rw [if_pos hpq]
              rw [hst] at HTS3
              obtain ⟨AM, cM, rfl, hM1, hM2, hM3⟩ := HP4.out
              have HPU := Lib.hid (put10_any AM cM _ M ⟨p.f, q.t⟩ W4 hM1 hM2 hM3 rfl (by omega))
              obtain ⟨mm, hmm2⟩ : ∃ mm, M.length = mm := ⟨_, rfl⟩
              rw [hmm2] at HPU
              rw [hmm2]
              clear hq hcq hts3 hgr hrl hM hba hst hM1 hM2 hM3 hmm2 hpq hmm
              go_upto_region 9 with fail
              rw [HW4.out, HBQ.out]
              clear y0 y1 c0 c1
              have y0 := cell_of_row _ _ 0 _ _ _ HX4.out
              have y1 := cell_of_row _ _ 1 _ _ _ HX4.out
              have c0 := cell_of_row _ _ 0 _ _ _ hqrow
              have c1 := cell_of_row _ _ 1 _ _ _ hqrow
              simp only [List.getElem?_toArray, List.getElem?_cons_zero, List.getElem?_cons_succ] at y0 y1 c0 c1
              clear hqrow
              go_wp2_with fail
              refine HPU.out.mono ?_
              rintro e w5 ⟨V5, rfl, hp5, hb5⟩
              have HP5 := Lib.hid hp5
              have HX5 := Lib.hid (box_kept HX4.out hb5)
              have hbb := HBA.out.trans (hb5.mono HBA.out.size)
              have HB5 := Lib.hid (HB3.out.trans (hbb.mono HB3.out.size))
              clear hp5 hb5 hbb y0 y1 c0 c1
              go_wp2
              go_roundw
              case rel => exact ⟨j + 1, HJN.out, by go_num, by rw [HTS3.out]; exact HP5.out, HX5.out, HB5.out⟩
              case measure => simp [intOf]; omega
            · have tq : (p.t == q.f) = false := by simp [hpq]
              have hst : stepQ p M q = M := by unfold stepQ; rw [if_neg hpq]
              rw [hst] at HTS3
              have HB5 := Lib.hid (HB3.out.trans (hba.mono HB3.out.size))
              clear hq hcq hts3 hgr hrl hM hba hst hpq hmm
              go_upto_region 9 with fail
              rw [HW4.out, HBQ.out]
              clear y0 y1 c0 c1
              have y0 := cell_of_row _ _ 0 _ _ _ HX4.out
              have y1 := cell_of_row _ _ 1 _ _ _ HX4.out
              have c0 := cell_of_row _ _ 0 _ _ _ hqrow
              have c1 := cell_of_row _ _ 1 _ _ _ hqrow
              simp only [List.getElem?_toArray, List.getElem?_cons_zero, List.getElem?_cons_succ] at y0 y1 c0 c1
              clear hqrow
              go_wp2
              go_roundw
              case rel => exact ⟨j + 1, HJN.out, by go_num, by rw [HTS3.out]; exact HP4.out, HX4.out, HB5.out⟩
              case measure => simp [intOf]; omega
          · obtain rfl : j = m := by omega
            have htk : L.take j = L := List.take_of_length_le (by omega)
            rw [htk, ← HTS.out] at HP3
            have HBF := Lib.hid (HB2.out.trans (HB3.out.mono HB2.out.size))
            clear hmm htk y0 y1
            go_wp2
            go_roundw
            case rel => exact ⟨k + 1, HKN.out, by go_num, HP3.out, HBF.out⟩
            case measure => simp [intOf]; omega
      · obtain rfl : k = m := by omega
        have htk : L.take k = L := List.take_of_length_le (by omega)
        rw [htk] at HP2
        have hsq : Good l (sqQ L) := good_sq HG.out
        have hs1 := sq_len HG.out
        have hs2 := HGL.out _ hsq
        obtain ⟨M, hM⟩ : ∃ M, allQ L L L = M := ⟨_, rfl⟩
        have hM2 : sqQ L = M := hM
        rw [hM2] at hsq hs1 hs2
        rw [hM] at HP2
        obtain ⟨AM, cM, rfl, hM3⟩ := HP2.out
        by_cases he : M.length = k
        · have te : ((M.length : Int) == (k : Int)) = true := by simp [he]
          have HCL : Hid (Clo l L) := sq_done HG.out HM.out (by rw [hM2]; omega)
          have HPF := Lib.hid (HPL.out.keep HB2.out)
          have HBF := Lib.hid (HB.out.trans (HB2.out.mono HB.out.size))
          have HMM := Lib.hid hmm
          clear hmm htk hsq hs1 hs2 hM hM2 hM3 he
          go_wp2
          go_ret
          refine ⟨L, _, HCL.out, rfl, ?_, HBF.out⟩
          have h := HPF.out
          exact h
        · have te : ((M.length : Int) == (k : Int)) = false := by simp; omega
          have HNX : Hid (C1 l w (.slice AM M.length cM) W2) := ⟨M, HP2.out, hsq, fun x hx => by rw [← hM]; exact all_sub _ _ _ x (HM.out x hx), HB.out.trans (HB2.out.mono HB.out.size)⟩
          have HMS : Hid (k < M.length ∧ M.length ≤ 576) := ⟨by omega, hs2⟩
          clear hmm htk hsq hs1 hs2 hM hM2 hM3 he
          go_wp2
          go_roundw
          case rel => exact HNX.out
          case measure => have := HMS.out; simp [slN]; omega
theorem tgt_snoc (l : List P2) (x : P2) (v : Int) : tgt (l ++ [x]) v = if x.f = v then tgt l v ++ [x.t] else tgt l v := by
  unfold tgt lea
  by_cases h : x.f = v
  · simp [h]
  · simp [h]
theorem tgt_len (l : List P2) (v : Int) : (tgt l v).length ≤ l.length := by
  unfold tgt lea
  rw [List.length_map]; exact List.length_filter_le _ _
def IntPost (F : List Int) (w : World) (e : Ending) (w' : World) : Prop := ∃ V, e = .returned V ∧ w'.ownsRow w.heap.size 3 1 V F.length (F.map (Value.int .i64)) ∧ Below w.heap.size w w'
def TRelT (l : List P2) (v0 : Int) (w : World) (v i : Value) (W : World) : Prop := ∃ k : Nat, k ≤ l.length ∧ i = .int .i64 (k : Int) ∧ W.ownsRow w.heap.size 3 1 v (tgt (l.take k) v0).length ((tgt (l.take k) v0).map (Value.int .i64)) ∧ Below w.heap.size w W
set_option maxRecDepth 8000 in
set_option maxHeartbeats 3200000 in
theorem tos10_any (A : Option Addr) (cap n : Nat) (l : List P2) (v0 : Int) (w : World) (h : PairsAt w A l) (hln : l.length = n) (hl : n ≤ 1000000) :
    Calls Try.prog 14 #[.slice A n cap, .int .i64 v0] w (IntPost (tgt l v0) w) := by
  obtain ⟨i0, hi, hz0, hz1, hz2⟩ := info_parts Rel.infoInt2
  have hb0 : Below w.heap.size w (w.alloc (.cells #[] 3)) := (Below.refl _ _).alloc (Nat.le_refl _) _
  have HA := Lib.hid hln
  have H1 := Lib.hid h
  have HL : Hid (n ≤ 1000000) := hl
  have HS0 : Hid (TRelT l v0 w (.slice (some ⟨w.heap.size, 0, none⟩) 0 0) (.int .i64 0) (w.alloc (.cells #[] 3))) := ⟨0, Nat.zero_le _, rfl, World.ownsRow_lit w #[] 0 (Nat.le_refl _) (Nat.zero_le _) rfl, hb0⟩
  unfold IntPost
  clear h hb0 hln hl
  go_enter Try.func14, Try.ntmps14
  go_wp2_with fail
  go_loopw [5, 6] (fun v i W => TRelT l v0 w v i W) (fun _ i _ => n - (intOf i).toNat)
  case atStart => exact HS0.out
  case round =>
    rename World => W
    clear HS0
    obtain ⟨k, hk, rfl, ho, hb⟩ := hrel
    have HO := Lib.hid ho
    have HB := Lib.hid hb
    clear ho hb
    have hn := HA.out
    by_cases hlt : k < n
    · obtain ⟨x, hx⟩ : ∃ x, l[k]? = some x := ⟨_, List.getElem?_eq_getElem (by omega)⟩
      obtain ⟨y, rfl, c0, c1⟩ := (H1.out.kept HB.out) k x hx
      have hts : tgt (l.take (k + 1)) v0 = if x.f = v0 then tgt (l.take k) v0 ++ [x.t] else tgt (l.take k) v0 := by rw [List.take_add_one, hx]; exact tgt_snoc _ _ _
      have htl := tgt_len (l.take k) v0
      rw [List.length_take] at htl
      have hki : (0 : Int) ≤ k := by omega
      have hkb : (k : Int) < n := by omega
      have hk1 : IntKind.i64.wrap ((k : Int) + 1) = (k : Int) + 1 := IntWalk.i64_in _ (by have := HL.out; omega)
      have HKN : Hid (k + 1 ≤ l.length) := by show _ ≤ _; omega
      obtain ⟨T, hT⟩ : ∃ T, tgt (l.take k) v0 = T := ⟨_, rfl⟩
      rw [hT] at hts HO htl
      have HTL : Hid (T.length ≤ 1000000) := by have := HL.out; show _ ≤ _; omega
      by_cases hv : x.f = v0
      · have tv : (x.f == v0) = true := by simp [hv]
        rw [if_pos hv] at hts
        have HTS := Lib.hid hts
        have hba : Below W.heap.size W (W.alloc (.cells #[.int .i64 x.t] 3)) := (Below.refl _ _).alloc (Nat.le_refl _) _
        have HO2 := Lib.hid (own_keepP HO.out hba)
        have HBS := Lib.hid HB.out.size
        have HB2 := Lib.hid (HB.out.trans (hba.mono HB.out.size))
        clear hx hts htl hT hv hba hn
        go_wp2_with (at_builtin; refine wpList_append_own _ rfl _ _ 29 rfl w.heap.size 3 i0 (.int .i64 0) 1 8 Try.underlying29 hi hz0 hz1 hz2 rfl (by decide) _ _ _ rfl HO2.out ⟨W.heap.size, 0, none⟩ 1 1 [.int .i64 x.t] rfl rfl (cell_one_new _ _ _) ?c2 ?c3 ?c4 ?c5 ?_)
        case c2 => intro u hu; simp at hu; subst hu; rfl
        case c3 => have := HTL.out; unfold maxLen; omega
        case c4 => have := HTL.out; omega
        case c5 => have := HBS.out; first | exact HBS.out | (simp; omega)
        intro v' w5 ho5 hg5 _
        have HO5 : Hid (w5.ownsRow w.heap.size 3 1 v' (T ++ [x.t]).length ((T ++ [x.t]).map (Value.int .i64))) := by
          show World.ownsRow _ _ _ _ _ _ _
          simpa using ho5
        have HB5 := Lib.hid (HB2.out.grown hg5 HB2.out.size (fun j hj => (HO2.out.lt j hj).1))
        clear ho5 hg5
        go_wp2
        go_roundw
        case rel => exact ⟨k + 1, HKN.out, by go_num, by rw [HTS.out]; exact HO5.out, HB5.out⟩
        case measure => simp [intOf]; omega
      · have tv : (x.f == v0) = false := by simp [hv]
        rw [if_neg hv] at hts
        have HTS := Lib.hid hts
        clear hx hts htl hT hv hn
        go_wp2
        go_roundw
        case rel => exact ⟨k + 1, HKN.out, by go_num, by rw [HTS.out]; exact HO.out, HB.out⟩
        case measure => simp [intOf]; omega
    · obtain rfl : k = n := by omega
      have htk : l.take k = l := List.take_of_length_le (by omega)
      rw [htk] at HO
      clear hn htk
      go_wp2
      go_ret
      exact ⟨_, rfl, HO.out, HB.out⟩
end Go.Proofs.Ytnngldkpkhabeaa.Pai
