/- Pairs: package pairs' Reach, Targets, Closed. Condition: at most 24 pairs (Reach, Targets: 1000). -/
import Derived.Test.YtnngldkpkhabeaaMg20
import Derived.Test.YtnngldkpkhabeaaMg30
import Derived.Test.YtnngldkpkhabeaaMg32
namespace Go.Proofs.Ytnngldkpkhabeaa.Pai

open Go.RowKit Go.PlainAid Go.Proofs.Ytnngldkpkhabeaa.Args

set_option linter.unusedVariables false

set_option linter.unusedSimpArgs false

theorem Ord.wide {L C : List P2} (h : Ord L C) (hw : ∀ x ∈ L, Wide x) : ∀ x ∈ C, Wide x := fun x hx => hw x ((h.mem x).1 hx)
theorem Rch.of_ord {L C : List P2} {v : Int} {F : List Int} (h : Rch C v F) (ho : Ord L C) : Rch L v F := ⟨h.rise, fun x => (h.mem x).trans (ho.conn v x)⟩
def RePost (L : List P2) (v0 : Int) (w : World) (e : Ending) (w' : World) : Prop := ∃ V F, e = .returned V ∧ Rch L v0 F ∧ w'.ownsRow w.heap.size 3 1 V F.length (F.map (Value.int .i64)) ∧ Below w.heap.size w w'
set_option maxRecDepth 4000 in
theorem preach_any (A : Option Addr) (n cap : Nat) (L : List P2) (v0 : Int) (w : World) (hx : PairsAt w A L) (hnil : A = none → cap = 0) (hlc : n ≤ cap) (hn : L.length = n) (hl : n ≤ 1000) (hw : ∀ x ∈ L, Wide x) :
    Calls Try.prog 15 #[.slice A n cap, .int .i64 v0] w (RePost L v0 w) := by
  have HS := Lib.hid (psort_any A cap n L w hx hnil hlc hn (by omega))
  have HW := Lib.hid hw
  have HN : Hid (L.length ≤ 1000) := by show _ ≤ _; omega
  unfold RePost
  clear hx hnil hlc hn hl hw
  go_enter Try.func15, Try.ntmps15
  go_wp2_with fail
  refine HS.out.mono ?_
  rintro e w1 ⟨C, A1, n1, c1, ho, rfl, hown, hb⟩
  have HO := Lib.hid ho
  have HB := Lib.hid hb
  have HR := Lib.hid (reach_any A1 n1 c1 C v0 w1 hown.at_ hown.1 (by have := ho.len; have := HN.out; have := hown.1; omega) hown.2.1 hown.nil_ hown.zero ho.rise (ho.wide HW.out))
  clear ho hb hown HS
  go_wp2_with fail
  refine HR.out.mono ?_
  rintro e w2 ⟨V, F, rfl, hrc, ho2, hb2⟩
  have HC := Lib.hid (hrc.of_ord HO.out)
  have HO2 := Lib.hid (Go.Proofs.Ytnngldkpkhabeaa.Act.row_base ho2 HB.out.size)
  have HB2 := Lib.hid (HB.out.trans (hb2.mono HB.out.size))
  clear hrc ho2 hb2 HR
  go_wp2
  go_ret
  exact ⟨_, _, rfl, HC.out, HO2.out, HB2.out⟩
def TgRel (R : List P2) (w : World) (v i : Value) (W : World) : Prop := ∃ k : Nat, k ≤ R.length ∧ i = .int .i64 (k : Int) ∧ W.ownsRow w.heap.size 3 1 v k (((R.take k).map P2.t).map (Value.int .i64)) ∧ Below w.heap.size w W
set_option maxRecDepth 8000 in
set_option maxHeartbeats 3200000 in
theorem ptargets_any (A : Option Addr) (n cap : Nat) (L : List P2) (v0 : Int) (w : World) (hx : PairsAt w A L) (hnil : A = none → cap = 0) (hlc : n ≤ cap) (hn : L.length = n) (hl : n ≤ 1000) :
    Calls Try.prog 13 #[.slice A n cap, .int .i64 v0] w fun e w' => ∃ C, Ord L C ∧ IntPost (tgt C v0) w e w' := by
  obtain ⟨i0, hi, hz0, hz1, hz2⟩ := info_parts infoInt
  have HS := Lib.hid (psort_any A cap n L w hx hnil hlc hn (by omega))
  have HN : Hid (L.length ≤ 1000) := by show _ ≤ _; omega
  unfold IntPost
  clear hx hnil hlc hn hl
  go_enter Try.func13, Try.ntmps13
  go_wp2_with fail
  refine HS.out.mono ?_
  rintro e w1 ⟨C, A1, n1, c1, ho, rfl, hown, hb⟩
  have HO := Lib.hid ho
  have HB := Lib.hid hb
  have HP := Lib.hid hown.at_
  have HCL : Hid (C.length ≤ 1000) := by have := ho.len; have := HN.out; show _ ≤ _; omega
  have HLV := Lib.hid (leaving_any A1 n1 c1 C v0 w1 hown.at_ hown.1 (by have := HCL.out; have := hown.1; omega) hown.2.1 hown.nil_ hown.zero ho.rise)
  clear ho hb hown HS
  go_wp2_with fail
  refine HLV.out.mono ?_
  rintro e w2 ⟨V, rfl, hsv, hb2⟩
  obtain ⟨A2, c2, rfl, hs1, hs2, hs3, hs4⟩ := hsv w1 HP.out
  have HS4 := Lib.hid hs4
  have HB2 := Lib.hid (HB.out.trans (hb2.mono HB.out.size))
  have HB12 := Lib.hid hb2
  have HLL : Hid ((lea C v0).length ≤ 1000) := Nat.le_trans (List.length_filter_le _ _) HCL.out
  have HTG : Hid (tgt C v0 = (lea C v0).map P2.t) := rfl
  obtain ⟨R, hR⟩ : ∃ R, lea C v0 = R := ⟨_, rfl⟩
  rw [hR] at HS4 HLL HTG
  rw [hR]
  obtain ⟨m, hm⟩ : ∃ m, R.length = m := ⟨_, rfl⟩
  have HM := Lib.hid hm
  rw [hm] at HLL
  rw [hm]
  have HI0 : Hid (TgRel R w2 (.slice none 0 0) (.int .i64 0) w2) := ⟨0, Nat.zero_le _, rfl, World.ownsRow_nil _ _ _ _, Below.refl _ _⟩
  clear hsv hb2 hs1 hs2 hs3 hs4 hR hm HLV
  go_wp2_with fail
  go_loopw [5, 13] (fun v i W => TgRel R w2 v i W) (fun _ i _ => m - (intOf i).toNat)
  case atStart => exact HI0.out
  case round =>
    rename World => W
    clear HI0
    obtain ⟨k, hk, rfl, how, hbw⟩ := hrel
    have HOW := Lib.hid how
    have HBW := Lib.hid hbw
    clear how hbw
    have hmm := HM.out
    by_cases hlt : k < m
    · obtain ⟨x, hx⟩ : ∃ x, R[k]? = some x := ⟨_, List.getElem?_eq_getElem (by omega)⟩
      obtain ⟨g, o, rfl, c0, c1⟩ := (HS4.out.kept (HB12.out.trans (HBW.out.mono HB12.out.size))) k x hx
      have hts : (R.take (k + 1)).map P2.t = (R.take k).map P2.t ++ [x.t] := by rw [List.take_add_one, hx]; simp
      have HTS := Lib.hid hts
      have hki : (0 : Int) ≤ k := by omega
      have hkb : (k : Int) < m := by omega
      have hk1 : IntKind.i64.wrap ((k : Int) + 1) = (k : Int) + 1 := IntWalk.i64_in _ (by have := HLL.out; omega)
      have HKN : Hid (k + 1 ≤ R.length ∧ k < m) := ⟨by omega, hlt⟩
      have hba : Below W.heap.size W (W.alloc (.cells #[.int .i64 x.f, .int .i64 x.t] 24)) := (Below.refl _ _).alloc (Nat.le_refl _) _
      have hrow := heap_alloc_new W (.cells #[.int .i64 x.f, .int .i64 x.t] 24)
      obtain ⟨W4, hW4⟩ : ∃ W4, W.alloc (.cells #[.int .i64 x.f, .int .i64 x.t] 24) = W4 := ⟨_, rfl⟩
      rw [hW4] at hba hrow
      obtain ⟨bq, hbq⟩ : ∃ bq, W.heap.size = bq := ⟨_, rfl⟩
      rw [hbq] at hrow
      have HW4 := Lib.hid hW4
      have HBQ := Lib.hid hbq
      have HOW4 := Lib.hid (own_keepP (own_keepP HOW.out hba) ((Below.refl _ _).alloc (Nat.le_refl _) (.cells #[.int .i64 x.t] 3)))
      have HBS4 : Hid (Below w2.heap.size w2 (W4.alloc (.cells #[.int .i64 x.t] 3))) := (HBW.out.trans (hba.mono HBW.out.size)).alloc (HBW.out.trans (hba.mono HBW.out.size)).size _
      clear hx hts hba hW4 hbq hmm hlt
      go_upto_region 5 with fail
      rw [HW4.out, HBQ.out]
      clear c0 c1
      have c0 := cell_of_row _ _ 0 _ _ _ hrow
      have c1 := cell_of_row _ _ 1 _ _ _ hrow
      simp only [List.getElem?_toArray, List.getElem?_cons_zero, List.getElem?_cons_succ] at c0 c1
      clear hrow
      go_wp2_with (at_builtin; refine wpList_append_own _ rfl _ _ 29 rfl w2.heap.size 3 i0 (.int .i64 0) 1 8 Try.underlying29 hi hz0 hz1 hz2 rfl (by decide) _ _ _ rfl HOW4.out ⟨W4.heap.size, 0, none⟩ 1 1 [.int .i64 x.t] rfl rfl (cell_one_new _ _ _) ?c2 ?c3 ?c4 ?c5 ?_)
      case c2 => intro u hu; simp at hu; subst hu; rfl
      case c3 => have := HLL.out; have := HKN.out; unfold maxLen; omega
      case c4 => have := HLL.out; have := HKN.out; omega
      case c5 => exact HBS4.out.size
      intro v' w5 ho5 hg5 _
      have HO5 : Hid (w5.ownsRow w2.heap.size 3 1 v' (k + 1) (((R.take (k + 1)).map P2.t).map (Value.int .i64))) := by
        show World.ownsRow _ _ _ _ _ _ _
        rw [HTS.out]
        simpa using ho5
      have HB5 := Lib.hid (HBS4.out.grown hg5 HBS4.out.size (fun j hj => (HOW4.out.lt j hj).1))
      clear ho5 hg5
      go_wp2
      go_roundw
      case rel => exact ⟨k + 1, HKN.out.1, by go_num, HO5.out, HB5.out⟩
      case measure => have := HKN.out; simp [intOf]; omega
    · obtain rfl : k = m := by omega
      have htk : R.take k = R := List.take_of_length_le (by omega)
      rw [htk] at HOW
      have HF : Hid (W.ownsRow w.heap.size 3 1 u5 (tgt C v0).length ((tgt C v0).map (Value.int .i64))) := by
        have h := HOW.out
        show World.ownsRow _ _ _ _ _ _ _
        rw [HTG.out, List.length_map, HM.out]
        exact Go.Proofs.Ytnngldkpkhabeaa.Act.row_base h HB2.out.size
      clear hmm htk HOW
      go_wp2
      go_ret
      exact ⟨C, HO.out, _, rfl, HF.out, HB2.out.trans (HBW.out.mono HB2.out.size)⟩
end Go.Proofs.Ytnngldkpkhabeaa.Pai
