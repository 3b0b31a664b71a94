/- Pairs: all that can be reached (package pairs' Closed). Condition: at most 24 pairs. -/
import Derived.Test.YtnngldkpkhabeaaMg33
namespace Go.Proofs.Ytnngldkpkhabeaa.Pai

open Go.RowKit Go.PlainAid Go.Proofs.Ytnngldkpkhabeaa.Args

set_option linter.unusedVariables false

set_option linter.unusedSimpArgs false

def CoRel (C : List P2) (w : World) (v i : Value) (W : World) : Prop := ∃ (k : Nat) (L : List P2), k ≤ C.length ∧ i = .int .i64 (k : Int) ∧ Acc C k L ∧ W.ownsRow w.heap.size 24 2 v L.length (flatP L) ∧ Below w.heap.size w W
def apL (q : Int) (L : List P2) (R : List Int) : List P2 := L ++ R.map fun t => ⟨q, t⟩
theorem apL_snoc (q : Int) (L : List P2) (R : List Int) (t : Int) : apL q L (R ++ [t]) = apL q L R ++ [⟨q, t⟩] := by simp [apL]
theorem apL_len (q : Int) (L : List P2) (R : List Int) : (apL q L R).length = L.length + R.length := by simp [apL]
structure CiR (q : Int) (L : List P2) (R : List Int) (bp : Nat) (p : P2) (VR : Value) (j : Nat) (w w1 : World) (v : Value) (W : World) : Prop where
  own : W.ownsRow w.heap.size 24 2 v (apL q L (R.take j)).length (flatP (apL q L (R.take j)))
  ap : v.ownBlock ≠ some bp
  box : W.heap[bp]? = some (.cells #[.int .i64 p.f, .int .i64 p.t] 24 (0, 0))
  row : W.ownsRow w1.heap.size 3 1 VR R.length (R.map (Value.int .i64))
  bel : Below w.heap.size w W
theorem CiR.keep {q : Int} {L : List P2} {R : List Int} {bp : Nat} {p : P2} {VR v : Value} {j : Nat} {w w1 W W' : World} (f : CiR q L R bp p VR j w w1 v W) (b : Below W.heap.size W W') : CiR q L R bp p VR j w w1 v W' :=
  ⟨own_keepP f.own b, f.ap, box_kept f.box b, own_keepP f.row b, f.bel.trans (b.mono f.bel.size)⟩
theorem CiR.more {q x : Int} {L : List P2} {R : List Int} {bp : Nat} {p : P2} {VR v v' : Value} {j : Nat} {w w1 W W' : World} (f : CiR q L R bp p VR j w w1 v W) (hx : R[j]? = some x) (hg : W.grownBy W' v.ownBlock) (ho : W'.ownsRow w.heap.size 24 2 v' ((apL q L (R.take j)).length + 1) (flatP (apL q L (R.take j)) ++ pairL ⟨q, x⟩)) (hat : v'.ownBlock = v.ownBlock ∨ v'.ownBlock = some W.heap.size) : CiR q L R bp p VR (j + 1) w w1 v' W' := by
  have hts : R.take (j + 1) = R.take j ++ [x] := by rw [List.take_add_one, hx]; rfl
  refine ⟨?_, ?_, ?_, ?_, f.bel.grown hg f.bel.size (fun k hk => (f.own.lt k hk).1)⟩
  · rw [hts, apL_snoc, List.length_append, List.length_singleton, flatP_snoc]; exact ho
  · rcases hat with h | h
    · rw [h]; exact f.ap
    · rw [h]
      intro e
      have h1 := Option.some.inj e
      have h2 := lt_of_block f.box
      omega
  · exact (hg.block bp (lt_of_block f.box) (fun e => f.ap e.symm)).trans f.box
  · cases hv : v.ownBlock with
    | none =>
      rw [hv] at hg
      have j : Rdr.Just W.heap.size W W' := ⟨hg.os, hg.tape, hg.output, hg.size, fun k hk _ => hg.block k hk (by simp)⟩
      exact row_just f.row j fun k hk => by have := (f.row.lt k hk).2; omega
    | some k0 =>
      rw [hv] at hg
      exact row_just f.row (just_of_grown hg) fun k hk => row_not_row f.row f.own (by decide) k hk k0 hv
def PClPost (L : List P2) (w : World) (e : Ending) (w' : World) : Prop := ∃ D V, Clo L D ∧ e = .returned V ∧ Prs D V w' ∧ Below w.heap.size w w'
set_option maxRecDepth 8000 in
set_option maxHeartbeats 6400000 in
theorem pclosed_any (A : Option Addr) (n cap : Nat) (L : List P2) (w : World) (hx : PairsAt w A L) (hnil : A = none → cap = 0) (hlc : n ≤ cap) (hn : L.length = n) (hl : n ≤ 24) (hw : ∀ x ∈ L, Wide x) :
    Calls Try.prog 11 #[.slice A n cap] w (PClPost L w) := by
  obtain ⟨i0, hi, hz0, hz1, hz2⟩ := info_parts infoPair
  have HS := Lib.hid (psort_any A cap n L w hx hnil hlc hn (by omega))
  have HW := Lib.hid hw
  have HN : Hid (L.length ≤ 24) := by show _ ≤ _; omega
  unfold PClPost
  clear hx hnil hlc hn hl hw
  go_enter Try.func11, Try.ntmps11
  go_wp2_with fail
  refine HS.out.mono ?_
  rintro e w1 ⟨C, A1, n1, c1, ho, rfl, hown, hb⟩
  have HO := Lib.hid ho
  have HB := Lib.hid hb
  have HP := Lib.hid hown.at_
  have HCL : Hid (C.length = n1 ∧ n1 ≤ 24) := by have := ho.len; have := HN.out; have := hown.1; exact ⟨hown.1, by omega⟩
  have HRC : Hid (∀ (v : Int) W, Below w1.heap.size w1 W → Calls Try.prog 34 #[.slice A1 n1 c1, .int .i64 v] W (RcPost C v W)) := fun v W b => reach_any A1 n1 c1 C v W (hown.at_.kept b) hown.1 (by have := HCL.out; omega) hown.2.1 hown.nil_ hown.zero ho.rise (ho.wide HW.out)
  have HI0 : Hid (CoRel C w1 (.slice none 0 0) (.int .i64 0) w1) := ⟨0, [], Nat.zero_le _, rfl, Acc.start C, World.ownsRow_nil _ _ _ _, Below.refl _ _⟩
  clear ho hb hown HS
  go_wp2_with fail
  go_loopw [4, 13] (fun v i W => CoRel C w1 v i W) (fun _ i _ => n1 - (intOf i).toNat)
  case atStart => exact HI0.out
  case round =>
    rename World => W
    clear HI0
    obtain ⟨k, AL, hk, rfl, hacc, how, hbw⟩ := hrel
    have HACC := Lib.hid hacc
    have HOW := Lib.hid how
    have HBW := Lib.hid hbw
    have HAL : Hid (AL.length ≤ 576) := Nat.le_trans hacc.len (sq_576 (by have := HCL.out; omega))
    clear hacc how hbw
    have hcl := HCL.out
    by_cases hlt : k < n1
    · obtain ⟨q, hq⟩ : ∃ q, C[k]? = some q := ⟨_, List.getElem?_eq_getElem (by omega)⟩
      obtain ⟨g, rfl, c0, c1'⟩ := (HP.out.kept HBW.out) k q hq
      have HQ := Lib.hid hq
      have hki : (0 : Int) ≤ k := by omega
      have hkb : (k : Int) < n1 := by omega
      have hk1 : IntKind.i64.wrap ((k : Int) + 1) = (k : Int) + 1 := IntWalk.i64_in _ (by omega)
      have HKN : Hid (k + 1 ≤ C.length ∧ k < n1) := ⟨by omega, hlt⟩
      have hba : Below W.heap.size W (W.alloc (.cells #[.int .i64 q.f, .int .i64 q.t] 24)) := (Below.refl _ _).alloc (Nat.le_refl _) _
      have hrow := heap_alloc_new W (.cells #[.int .i64 q.f, .int .i64 q.t] 24)
      obtain ⟨W4, hW4⟩ : ∃ W4, W.alloc (.cells #[.int .i64 q.f, .int .i64 q.t] 24) = W4 := ⟨_, rfl⟩
      rw [hW4] at hba hrow
      obtain ⟨bq, hbq⟩ : ∃ bq, W.heap.size = bq := ⟨_, rfl⟩
      have HAP : Hid (∀ v : Value, W.ownsRow w1.heap.size 24 2 v AL.length (flatP AL) → v.ownBlock ≠ some bq) := fun v h e => by have := (h.lt _ e).2; omega
      rw [hbq] at hrow
      have HW4 := Lib.hid hW4
      have HBQ := Lib.hid hbq
      have HBA := Lib.hid hba
      have HROW := Lib.hid hrow
      have HB4 := Lib.hid (HBW.out.trans (hba.mono HBW.out.size))
      have HP4 := Lib.hid (HP.out.kept HB4.out)
      clear hba hW4 hbq hcl hlt hrow
      go_upto_region 6 with fail
      rw [HW4.out, HBQ.out]
      clear c0 c1'
      have y0 := cell_of_row _ _ 0 _ _ _ HROW.out
      have y1 := cell_of_row _ _ 1 _ _ _ HROW.out
      simp only [List.getElem?_toArray, List.getElem?_cons_zero, List.getElem?_cons_succ] at y0 y1
      have HCLO := HCL.out
      rcases (show k = 0 ∨ ∃ m, k = m + 1 from by cases k <;> simp) with hk0 | ⟨m, hkm⟩
      rotate_left
      · have t1 : decide ((0 : Int) < (k : Int)) = true := decide_eq_true (by omega)
        have t1n : decide (0 < k) = true := decide_eq_true (by omega)
        have wm : IntKind.i64.wrap ((k : Int) - 1) = (m : Int) := by rw [show (k : Int) - 1 = (m : Int) by omega]; exact IntWalk.i64_in _ (by have := HKN.out; omega)
        have hmi : (0 : Int) ≤ m := by omega
        have hmb : (m : Int) < n1 := by have := HKN.out; omega
        obtain ⟨p, hp⟩ : ∃ p, C[m]? = some p := ⟨_, List.getElem?_eq_getElem (by have := HKN.out; omega)⟩
        obtain ⟨g', hg', c0, c1'⟩ := HP4.out m p hp
        obtain rfl : g = g' := by injection hg' with e; injection e
        have HPP : Hid (C[m]? = some p ∧ k = m + 1) := ⟨hp, hkm⟩
        obtain ⟨d, hd⟩ : ∃ d, (p.f == q.f) = d := ⟨_, rfl⟩
        have HD := Lib.hid hd
        clear hp hg' hkm HCLO
        cases d with
        | true =>
          have HNX : Hid (∀ nn, CoRel C w1 u4 (.int .i64 ((k : Int) + 1)) (W4.drewN nn)) := fun nn => by
            obtain ⟨hp, hkm⟩ := HPP.out
            subst hkm
            have he : p.f = q.f := by simpa using HD.out
            exact ⟨m + 1 + 1, AL, HKN.out.1, by go_num, HACC.out.stay hp HQ.out he, own_keepP (own_keepP HOW.out HBA.out) ⟨rfl, rfl, rfl, Nat.le_refl _, fun _ _ => rfl⟩, below_drewN HB4.out nn⟩
          clear HACC HOW
          go_wp2
          go_quiet (fail)
          go_wp2
          go_roundw
          case rel => exact HNX.out _
          case measure => have := HKN.out; simp [intOf]; omega
        | false =>
          have HKX : Hid (∀ p, k ≠ 0 → C[k - 1]? = some p → p.f ≠ q.f) := fun z hz hz2 => by
            obtain ⟨hp, hkm⟩ := HPP.out
            rw [hkm, Nat.add_sub_cancel, hp] at hz2
            obtain rfl := Option.some.inj hz2
            have h := HD.out
            intro e
            rw [e] at h
            simp at h
          go_wp2
          go_quiet (fail)
          have HB5' := below_drewN HB4.out nq
          have HOW5' := own_keepP HOW.out HBA.out
          have HROW5' : (W4.drewN nq).heap[bq]? = some (.cells #[.int .i64 q.f, .int .i64 q.t] 24 (0, 0)) := HROW.out
          have HOW6' : (W4.drewN nq).ownsRow w1.heap.size 24 2 u4 AL.length (flatP AL) := own_keepP HOW5' ⟨rfl, rfl, rfl, Nat.le_refl _, fun _ _ => rfl⟩
          obtain ⟨W5, hW5⟩ : ∃ W5, W4.drewN nq = W5 := ⟨_, rfl⟩
          rw [hW5] at HB5' HROW5' HOW6'
          rw [hW5]
          have HB5 := Lib.hid HB5'
          have HROW5 := Lib.hid HROW5'
          have HOW5 := Lib.hid HOW6'
          have HAPV : Hid (u4.ownBlock ≠ some bq) := HAP.out u4 HOW.out
          clear HB5' HOW5' HROW5' HOW6' hW5 y0 y1
          have y0 := cell_of_row _ _ 0 _ _ _ HROW5.out
          have y1 := cell_of_row _ _ 1 _ _ _ HROW5.out
          simp only [List.getElem?_toArray, List.getElem?_cons_zero, List.getElem?_cons_succ] at y0 y1
          go_wp2_with fail
          refine (HRC.out q.f W5 HB5.out).mono ?_
          rintro e w6 ⟨VR, R, rfl, hrc, hor, hb6⟩
          obtain ⟨AR, cR, rfl⟩ := Cel.own_slice hor
          have HRCH := Lib.hid hrc
          have HRL : Hid (R.length ≤ 24) := by have h1 := hrc.len; have h2 := HCL.out; show _ ≤ _; omega
          have HC0 : Hid (CiR q.f AL R bq q (.slice AR R.length cR) 0 w1 W5 u4 w6) := ⟨by
            show World.ownsRow _ _ _ _ _ _ _
            have h := own_keepP HOW5.out hb6
            simpa [apL] using h, HAPV.out, box_kept HROW5.out hb6, hor, HB5.out.trans (hb6.mono HB5.out.size)⟩
          obtain ⟨nR, hnR⟩ : ∃ nR, R.length = nR := ⟨_, rfl⟩
          have HNR := Lib.hid hnR
          rw [hnR] at HC0
          rw [hnR]
          have HST : Hid (∃ j : Nat, j ≤ nR ∧ Value.int .i64 0 = .int .i64 (j : Int) ∧ CiR q.f AL R bq q (.slice AR nR cR) j w1 W5 u4 w6) := ⟨0, Nat.zero_le _, rfl, HC0.out⟩
          clear hrc hor hb6 hnR HC0 y0 y1 HOW HOW5 HROW5
          go_wp2_with fail
          go_loopw [4, 36] (fun v i W7 => ∃ j : Nat, j ≤ nR ∧ i = .int .i64 (j : Int) ∧ CiR q.f AL R bq q (.slice AR nR cR) j w1 W5 v W7) (fun _ i _ => nR - (intOf i).toNat)
          case atStart => exact HST.out
          case round =>
            rename World => W7
            clear HST
            obtain ⟨j, hj, rfl, hci⟩ := hrel
            have HCI := Lib.hid hci
            clear hci
            have hnr := HNR.out
            have hrl := HRL.out
            by_cases hlt7 : j < nR
            · obtain ⟨x, hx⟩ : ∃ x, R[j]? = some x := ⟨_, List.getElem?_eq_getElem (by omega)⟩
              have hrr := HCI.out.row
              rw [HNR.out] at hrr
              obtain ⟨gR, cR', eR, _, _, _⟩ := own_some hrr (by omega)
              injection eR with e1 e2 e3
              subst e1 e3
              have r0 : W7.cell? ⟨gR, j, none⟩ = some (.int .i64 x) := by rw [hrr.cellAt j (by omega)]; simp [hx]
              have hji : (0 : Int) ≤ j := by omega
              have hjb : (j : Int) < nR := by omega
              have hj1 : IntKind.i64.wrap ((j : Int) + 1) = (j : Int) + 1 := IntWalk.i64_in _ (by omega)
              have y0 := cell_of_row _ _ 0 _ _ _ HCI.out.box
              simp only [List.getElem?_toArray, List.getElem?_cons_zero, List.getElem?_cons_succ] at y0
              have HCA := Lib.hid (HCI.out.keep ((Below.refl _ _).alloc (Nat.le_refl _) (.cells #[.int .i64 q.f, .int .i64 x] 24)))
              have HLN : Hid ((apL q.f AL (R.take j)).length ≤ 600) := by
                show _ ≤ _
                rw [apL_len, List.length_take]
                have := HAL.out
                omega
              have HX := Lib.hid hx
              have HJN : Hid (j + 1 ≤ nR) := hlt7
              clear hx hrr hnr hrl hlt7
              go_wp2_with (at_builtin; refine wpList_append_own_at _ rfl _ _ 22 rfl w1.heap.size 24 i0 (.agg #[.int .i64 0, .int .i64 0]) 2 16 Try.underlying22 hi hz0 hz1 hz2 rfl (by decide) _ _ _ rfl HCA.out.own ⟨W7.heap.size, 0, none⟩ 1 1 [.int .i64 q.f, .int .i64 x] rfl rfl ?g1 ?g2 ?g3 ?g4 ?g5 ?_)
              case g2 => first | (intro u hu; simp at hu; rcases hu with rfl | rfl <;> rfl) | exact ⟨rfl, rfl⟩
              case g3 => have := HLN.out; unfold maxLen; omega
              case g4 => have := HLN.out; omega
              case g5 => have h := HCA.out.bel.size; rw [World.size_alloc] at h; exact h
              intro v8 w8 ho8 hg8 _ hat8
              have HC8 := Lib.hid (HCA.out.more HX.out hg8 ho8 (by rw [World.size_alloc]; exact hat8))
              clear ho8 hg8 hat8 y0 r0
              go_wp2
              go_roundw
              case rel => exact ⟨j + 1, HJN.out, by go_num, HC8.out⟩
              case measure => have := HJN.out; simp [intOf]; omega
            · obtain rfl : j = nR := by omega
              have hcf := HCI.out.own
              rw [List.take_of_length_le (by omega)] at hcf
              have HNX : Hid (CoRel C w1 u4 (.int .i64 ((k : Int) + 1)) W7) := ⟨k + 1, _, HKN.out.1, by go_num, HACC.out.more HO.out.rise HQ.out HKX.out HRCH.out, hcf, HCI.out.bel⟩
              clear hcf hnr hrl
              go_wp2
              go_roundw
              case rel => exact HNX.out
              case measure => have := HKN.out; simp [intOf]; omega
      · have t1 : decide ((0 : Int) < (k : Int)) = false := decide_eq_false (by omega)
        have t1n : decide (0 < k) = false := decide_eq_false (by omega)
        have HKX : Hid (∀ p, k ≠ 0 → C[k - 1]? = some p → p.f ≠ q.f) := fun z hz _ => absurd hk0 hz
        clear hk0 HCLO
        go_wp2
        go_quiet (fail)
        have HB5' := below_drewN HB4.out nq
        have HOW5' := own_keepP HOW.out HBA.out
        have HROW5' : (W4.drewN nq).heap[bq]? = some (.cells #[.int .i64 q.f, .int .i64 q.t] 24 (0, 0)) := HROW.out
        have HOW6' : (W4.drewN nq).ownsRow w1.heap.size 24 2 u4 AL.length (flatP AL) := own_keepP HOW5' ⟨rfl, rfl, rfl, Nat.le_refl _, fun _ _ => rfl⟩
        obtain ⟨W5, hW5⟩ : ∃ W5, W4.drewN nq = W5 := ⟨_, rfl⟩
        rw [hW5] at HB5' HROW5' HOW6'
        rw [hW5]
        have HB5 := Lib.hid HB5'
        have HROW5 := Lib.hid HROW5'
        have HOW5 := Lib.hid HOW6'
        have HAPV : Hid (u4.ownBlock ≠ some bq) := HAP.out u4 HOW.out
        clear HB5' HOW5' HROW5' HOW6' hW5 y0 y1
        have y0 := cell_of_row _ _ 0 _ _ _ HROW5.out
        have y1 := cell_of_row _ _ 1 _ _ _ HROW5.out
        simp only [List.getElem?_toArray, List.getElem?_cons_zero, List.getElem?_cons_succ] at y0 y1
        go_wp2_with fail
        refine (HRC.out q.f W5 HB5.out).mono ?_
        rintro e w6 ⟨VR, R, rfl, hrc, hor, hb6⟩
        obtain ⟨AR, cR, rfl⟩ := Cel.own_slice hor
        have HRCH := Lib.hid hrc
        have HRL : Hid (R.length ≤ 24) := by have h1 := hrc.len; have h2 := HCL.out; show _ ≤ _; omega
        have HC0 : Hid (CiR q.f AL R bq q (.slice AR R.length cR) 0 w1 W5 u4 w6) := ⟨by
          show World.ownsRow _ _ _ _ _ _ _
          have h := own_keepP HOW5.out hb6
          simpa [apL] using h, HAPV.out, box_kept HROW5.out hb6, hor, HB5.out.trans (hb6.mono HB5.out.size)⟩
        obtain ⟨nR, hnR⟩ : ∃ nR, R.length = nR := ⟨_, rfl⟩
        have HNR := Lib.hid hnR
        rw [hnR] at HC0
        rw [hnR]
        have HST : Hid (∃ j : Nat, j ≤ nR ∧ Value.int .i64 0 = .int .i64 (j : Int) ∧ CiR q.f AL R bq q (.slice AR nR cR) j w1 W5 u4 w6) := ⟨0, Nat.zero_le _, rfl, HC0.out⟩
        clear hrc hor hb6 hnR HC0 y0 y1 HOW HOW5 HROW5
        go_wp2_with fail
        go_loopw [4, 36] (fun v i W7 => ∃ j : Nat, j ≤ nR ∧ i = .int .i64 (j : Int) ∧ CiR q.f AL R bq q (.slice AR nR cR) j w1 W5 v W7) (fun _ i _ => nR - (intOf i).toNat)
        case atStart => exact HST.out
        case round =>
          rename World => W7
          clear HST
          obtain ⟨j, hj, rfl, hci⟩ := hrel
          have HCI := Lib.hid hci
          clear hci
          have hnr := HNR.out
          have hrl := HRL.out
          by_cases hlt7 : j < nR
          · obtain ⟨x, hx⟩ : ∃ x, R[j]? = some x := ⟨_, List.getElem?_eq_getElem (by omega)⟩
            have hrr := HCI.out.row
            rw [HNR.out] at hrr
            obtain ⟨gR, cR', eR, _, _, _⟩ := own_some hrr (by omega)
            injection eR with e1 e2 e3
            subst e1 e3
            have r0 : W7.cell? ⟨gR, j, none⟩ = some (.int .i64 x) := by rw [hrr.cellAt j (by omega)]; simp [hx]
            have hji : (0 : Int) ≤ j := by omega
            have hjb : (j : Int) < nR := by omega
            have hj1 : IntKind.i64.wrap ((j : Int) + 1) = (j : Int) + 1 := IntWalk.i64_in _ (by omega)
            have y0 := cell_of_row _ _ 0 _ _ _ HCI.out.box
            simp only [List.getElem?_toArray, List.getElem?_cons_zero, List.getElem?_cons_succ] at y0
            have HCA := Lib.hid (HCI.out.keep ((Below.refl _ _).alloc (Nat.le_refl _) (.cells #[.int .i64 q.f, .int .i64 x] 24)))
            have HLN : Hid ((apL q.f AL (R.take j)).length ≤ 600) := by
              show _ ≤ _
              rw [apL_len, List.length_take]
              have := HAL.out
              omega
            have HX := Lib.hid hx
            have HJN : Hid (j + 1 ≤ nR) := hlt7
            clear hx hrr hnr hrl hlt7
            go_wp2_with (at_builtin; refine wpList_append_own_at _ rfl _ _ 22 rfl w1.heap.size 24 i0 (.agg #[.int .i64 0, .int .i64 0]) 2 16 Try.underlying22 hi hz0 hz1 hz2 rfl (by decide) _ _ _ rfl HCA.out.own ⟨W7.heap.size, 0, none⟩ 1 1 [.int .i64 q.f, .int .i64 x] rfl rfl ?h1 ?h2 ?h3 ?h4 ?h5 ?_)
            case h2 => first | (intro u hu; simp at hu; rcases hu with rfl | rfl <;> rfl) | exact ⟨rfl, rfl⟩
            case h3 => have := HLN.out; unfold maxLen; omega
            case h4 => have := HLN.out; omega
            case h5 => have h := HCA.out.bel.size; rw [World.size_alloc] at h; exact h
            intro v8 w8 ho8 hg8 _ hat8
            have HC8 := Lib.hid (HCA.out.more HX.out hg8 ho8 (by rw [World.size_alloc]; exact hat8))
            clear ho8 hg8 hat8 y0 r0
            go_wp2
            go_roundw
            case rel => exact ⟨j + 1, HJN.out, by go_num, HC8.out⟩
            case measure => have := HJN.out; simp [intOf]; omega
          · obtain rfl : j = nR := by omega
            have hcf := HCI.out.own
            rw [List.take_of_length_le (by omega)] at hcf
            have HNX : Hid (CoRel C w1 u4 (.int .i64 ((k : Int) + 1)) W7) := ⟨k + 1, _, HKN.out.1, by go_num, HACC.out.more HO.out.rise HQ.out HKX.out HRCH.out, hcf, HCI.out.bel⟩
            clear hcf hnr hrl
            go_wp2
            go_roundw
            case rel => exact HNX.out
            case measure => have := HKN.out; simp [intOf]; omega
    · obtain rfl : k = n1 := by omega
      have hac := HACC.out
      rw [← hcl.1] at hac
      have HCLO := Lib.hid (hac.clo HO.out)
      have HPR : Hid (Prs AL u4 W) := own_at HOW.out
      clear hcl hac
      go_wp2
      go_ret
      exact ⟨AL, _, HCLO.out, rfl, HPR.out, HB.out.trans (HBW.out.mono HB.out.size)⟩
end Go.Proofs.Ytnngldkpkhabeaa.Pai

namespace Go.Proofs.Ytnngldkpkhabeaa.Pai

open Go.RowKit Go.PlainAid Go.Proofs.Ytnngldkpkhabeaa.Args

theorem OwnP.pairs {B n c : Nat} {A : Option Addr} {C : List P2} {W : World} (h : OwnP B A n c C W) : PairsAt W A C := fun i x hx => by
  obtain ⟨g, rfl, c0, c1⟩ := h.at_ i x hx
  have e : (Addr.mk g 0 none).add (i * 2) = ⟨g, i * 2, none⟩ := by unfold Addr.add; split <;> simp_all
  exact ⟨_, rfl, by rw [e]; exact c0, by rw [e]; exact c1⟩
end Go.Proofs.Ytnngldkpkhabeaa.Pai
