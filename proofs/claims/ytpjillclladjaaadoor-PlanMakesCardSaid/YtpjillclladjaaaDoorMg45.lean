/- What the document says is wrong first with windows. Condition: at most 1,000 windows. -/
import Derived.Test.YtpjillclladjaaaDoorMg28
namespace Go.Proofs.YtpjillclladjaaaDoor.Win

open Go.RowKit Go.PlainAid Go.Proofs.YtpjillclladjaaaDoor.Oct Go.Proofs.YtpjillclladjaaaDoor.Flt Go.Proofs.YtpjillclladjaaaDoor.Rdr Go.Proofs.YtpjillclladjaaaDoor.Args

open Go.Proofs.YtpjillclladjaaaDoor.Act (A3 actL flatA ActsAt I64 Wide)

set_option linter.unusedVariables false

set_option linter.unusedSimpArgs false

theorem mem_snoc (ids : List Int) (k : Nat) (hk : k < ids.length) (v : Int) (h : memB (ids.take k) v = false) : memB (ids.take (k + 1)) v = (ids[k]?.getD 0 == v) := by
  have e0 : ids.take (k + 1) = ids.take k ++ [ids[k]] := by
    rw [List.take_add_one, List.getElem?_eq_getElem hk]; rfl
  have e1 : ids[k]?.getD 0 = ids[k] := by rw [List.getElem?_eq_getElem hk]; rfl
  unfold memB at h ⊢
  rw [e0, e1]
  have h' : ¬ v ∈ ids.take k := by simpa using h
  by_cases e : ids[k] = v
  · rw [decide_eq_true (List.mem_append_right _ (by rw [e]; exact List.mem_singleton.2 rfl)), e]; simp
  · rw [decide_eq_false (fun hm => by
      rcases List.mem_append.1 hm with hm | hm
      · exact h' hm
      · exact e (List.mem_singleton.1 hm).symm)]
    simp [e]
theorem in_far (n₀ : Nat) (I : Option Addr) (li ci : Nat) (ids : List Int) (v : Int) (w : World) (hI : IntsBelow n₀ w (.slice I li ci) ids) (hl : ids.length ≤ 9223372036854775807) :
    Calls Tryd.prog 43 #[.slice I li ci, .int .i64 v] w fun e w' => e = .returned (.bool (memB ids v)) ∧ w = w' := by
  have hli : li = ids.length := by
    rcases hI with ⟨e, rfl⟩ | ⟨y, cap, e, _, _⟩
    · cases e; rfl
    · cases e; rfl
  have hc : ∀ j, j < li → ∃ y, I = some y ∧ w.cell? (y.add j) = some (.int .i64 (ids[j]?.getD 0)) := by
    rcases hI with ⟨e, rfl⟩ | ⟨y, cap, e, _, hc⟩
    · cases e; intro j hj; omega
    · cases e; exact fun j hj => ⟨y, rfl, hc j hj⟩
  obtain ⟨r, hr⟩ : ∃ r, memB ids v = r := ⟨_, rfl⟩
  have HR := Lib.hid hr
  have HL := Lib.hid hli
  have HC := Lib.hid hc
  rw [hr]
  rw [← hli] at hl
  clear hI hr hli hc
  go_enter Tryd.func43, Tryd.ntmps43
  go_wp2
  go_loop [5] (fun i => ∃ k : Nat, k ≤ li ∧ i = .int .i64 k ∧ memB (ids.take k) v = false) (fun i => li - (intOf i).toNat)
  case atStart => exact ⟨0, Nat.zero_le _, rfl, by simp [memB]⟩
  case round =>
    obtain ⟨k, hk, rfl, hm⟩ := hrel
    have HM := Lib.hid hm
    clear hm
    by_cases hlt : k < li
    · obtain ⟨y, rfl, hcell⟩ := HC.out k hlt
      have hms := mem_snoc ids k (by rw [← HL.out]; exact hlt) v HM.out
      obtain ⟨z, hz⟩ : ∃ z, ids[k]?.getD 0 = z := ⟨_, rfl⟩
      rw [hz] at hcell hms
      have HMS := Lib.hid hms
      have HZ := Lib.hid hz
      clear hms hz
      have hki : (0 : Int) ≤ k := by omega
      have hkb : (k : Int) < li := by omega
      cases hzv : (z == v) with
      | true =>
        have hrt : r = true := by
          rw [← HR.out]
          have h := HMS.out
          rw [hzv] at h
          unfold memB at *
          simp at h ⊢
          exact List.mem_of_mem_take h
        subst hrt
        go_wp2
        go_ret
        exact ⟨rfl, rfl⟩
      | false =>
        go_wp2
        go_round
        case rel => exact ⟨k + 1, by omega, by go_num, by rw [HMS.out, hzv]⟩
        case measure => simp [intOf]; omega
    · obtain rfl : k = li := by omega
      have hrf : r = false := by
        rw [← HR.out]
        have h := HM.out
        rw [HL.out, List.take_length] at h
        exact h
      subst hrf
      go_wp2
      go_ret
      exact ⟨rfl, rfl⟩
theorem in_any (n₀ : Nat) (I : Option Addr) (li ci : Nat) (ids : List Int) (v : Int) (w : World) (hI : IntsBelow n₀ w (.slice I li ci) ids) (hl : ids.length ≤ 1099511627776) :
    Calls Tryd.prog 43 #[.slice I li ci, .int .i64 v] w fun e w' => e = .returned (.bool (memB ids v)) ∧ w = w' := in_far n₀ I li ci ids v w hI (by omega)
theorem below_dn {B : Nat} {a w : World} (h : Below B a w) (n : Nat) : Below B a (w.drewN n) := ⟨h.os, h.tape, h.output, h.size, h.block⟩
/-- Within the document's Check: the schedule's box. -/
def RKRel (b : Nat) (xs : Array Value) (ids : List Int) (fr : Int) (l : List A3) (q : Nat × Int) (w : World) (i : Value) (wr : World) : Prop :=
  ∃ k : Nat, k ≤ l.length ∧ i = .int .i64 k ∧ q = chkW ids fr (lastW (l.take k)) k (l.drop k) ∧ Ahead (lastW (l.take k)) ∧ wr.heap[b]? = some (.cells xs 31 (0, 0)) ∧ Below w.heap.size w wr
theorem bad_first {ids : List Int} {fr : Int} {x : A3} (h1 : memB ids x.s = true) (h2 : okW fr x = true) : bad1W ids fr ⟨0, 0, 0⟩ x = 0 := by
  unfold bad1W
  rw [h1, h2]
  have : 0 ≤ x.p := by
    unfold okW at h2
    split at h2
    · simp at h2
    · split at h2
      · simp at h2
      · omega
  simp [show ¬ x.p < 0 by omega]
set_option maxRecDepth 8000 in
set_option maxHeartbeats 6400000 in
theorem rcheck_far (id fr : Int) (P : Option Addr) (pc : Nat) (l : List A3) (C : Option Addr) (nn cc : Nat) (I : Option Addr) (li ci : Nat) (ids : List Int) (w : World) (hI : IntsBelow w.heap.size w (.slice I li ci) ids)
    (h1 : ActsAt w P l) (hw : ∀ x ∈ l, Wide x) (hf : I64 fr) (hl : l.length ≤ 1000) (hids : ids.length ≤ 9223372036854775807) :
    Calls Tryd.prog 19 #[.agg #[.int .i64 id, .int .i64 fr, .slice P l.length pc, .slice C nn cc], .slice I li ci] w fun e w' => e = .returned (.tuple #[.int .i64 (chkW ids fr ⟨0, 0, 0⟩ 0 l).2, .int .i64 (chkW ids fr ⟨0, 0, 0⟩ 0 l).1]) ∧ Below w.heap.size w w' := by
  obtain ⟨q, hq⟩ : ∃ q, chkW ids fr ⟨0, 0, 0⟩ 0 l = q := ⟨_, rfl⟩
  have HQ := Lib.hid hq
  rw [hq]
  obtain ⟨a, ha⟩ : ∃ a, l.length = a := ⟨_, rfl⟩
  have HA := Lib.hid ha
  rw [ha] at hl
  rw [ha]
  have H1 := Lib.hid h1
  have HW := Lib.hid hw
  have HF := Lib.hid hf
  have HIN : Hid (∀ v W, Below w.heap.size w W → Calls Tryd.prog 43 #[.slice I li ci, .int .i64 v] W fun e w' => e = .returned (.bool (memB ids v)) ∧ W = w') := fun v W b => in_far w.heap.size I li ci ids v W (hI.below b) hids
  have hb0 : Below w.heap.size w (w.alloc (.cells #[.int .i64 id, .int .i64 fr, .slice P a pc, .slice C nn cc] 31)) := (Below.refl _ _).alloc (Nat.le_refl _) _
  have HB0 := Lib.hid hb0
  have HBX := Lib.hid (heap_alloc_new w (.cells #[.int .i64 id, .int .i64 fr, .slice P a pc, .slice C nn cc] 31))
  clear hq ha h1 hw hf hids hI hb0
  go_enter Tryd.func19, Tryd.ntmps19
  go_wp2_with fail
  go_loopw [6] (fun i wr => RKRel w.heap.size #[.int .i64 id, .int .i64 fr, .slice P a pc, .slice C nn cc] ids fr l q w i wr) (fun i _ => a - (intOf i).toNat)
  case atStart => exact ⟨0, Nat.zero_le _, rfl, HQ.out.symm, ahead_no, HBX.out, HB0.out⟩
  case round =>
    obtain ⟨k, hk, rfl, hq, hah, hbx, hbe⟩ := hrel
    have HQK := Lib.hid hq
    have HAH := Lib.hid hah
    have HBW := Lib.hid hbx
    have HBE := Lib.hid hbe
    have hka : k ≤ a := by rw [← HA.out]; exact hk
    have b2 := cell_of_row _ _ 2 _ _ _ hbx
    simp only [List.getElem?_toArray, List.getElem?_cons_zero, List.getElem?_cons_succ] at b2
    clear hk hq hah hbx hbe HB0 HBX
    by_cases hlt : k < a
    · obtain ⟨x, hx⟩ : ∃ x, l[k]? = some x := ⟨_, List.getElem?_eq_getElem (by rw [HA.out]; exact hlt)⟩
      obtain ⟨ax, rfl, c1, c2, c3⟩ := (H1.out.kept HBE.out) k x hx
      have HWX := Lib.hid (HW.out x (List.mem_of_getElem? hx))
      have hdr : l.drop k = x :: l.drop (k + 1) := by
        rw [List.drop_eq_getElem_cons (by rw [HA.out]; exact hlt)]
        congr 1
        rw [List.getElem?_eq_getElem (by rw [HA.out]; exact hlt)] at hx
        exact Option.some.inj hx
      have hst := HQK.out
      rw [hdr, chkW] at hst
      have HST := Lib.hid hst
      have HLT := Lib.hid (last_takeW l k x hx)
      have hb5 : Below wr.heap.size wr (wr.alloc (.cells (winC x) 82)) := (Below.refl _ _).alloc (Nat.le_refl _) _
      have HB5 := Lib.hid (HBE.out.trans (hb5.mono HBE.out.size))
      have HX5 := Lib.hid (heap_alloc_new wr (.cells (winC x) 82))
      have HBW5 := Lib.hid ((hb5.block _ (lt_of_block HBW.out)).trans HBW.out)
      obtain ⟨s1, p1, a1⟩ := x
      unfold winC at HX5 HB5 HBW5
      dsimp only at c1 c2 c3 HX5 HB5 HBW5
      have HI1 := Lib.hid (HIN.out s1 _ HB5.out)
      obtain ⟨mb, hmb⟩ : ∃ m, memB ids s1 = m := ⟨_, rfl⟩
      have HMB := Lib.hid hmb
      rw [hmb] at HI1
      have hki : (0 : Int) ≤ k := by omega
      have hkb : (k : Int) < a := by omega
      clear hst hdr hb5 HQK hmb hx
      go_wp2_with fail
      refine HI1.out.mono ?_
      rintro e w6 ⟨rfl, rfl⟩
      obtain ⟨W, hW⟩ : ∃ W, wr.alloc (.cells #[.int .i64 s1, .int .i64 p1, .int .i64 a1] 82) = W := ⟨_, rfl⟩
      obtain ⟨X, hX⟩ : ∃ X, wr.heap.size = X := ⟨_, rfl⟩
      have hsz : w.heap.size ≤ X := by rw [← hX]; exact HBE.out.size
      rw [hW] at HX5 HB5 HBW5
      rw [hX] at HX5
      rw [hW, hX]
      have HBW6 : Hid (Below w.heap.size w W) := HB5.out
      have c1' := (H1.out.kept HBW6.out) k ⟨s1, p1, a1⟩
      have x0 := cell_of_row _ _ 0 _ _ _ HX5.out
      have x1 := cell_of_row _ _ 1 _ _ _ HX5.out
      have x2 := cell_of_row _ _ 2 _ _ _ HX5.out
      have y1 := cell_of_row _ _ 1 _ _ _ HBW5.out
      have y2 := cell_of_row _ _ 2 _ _ _ HBW5.out
      simp only [List.getElem?_toArray, List.getElem?_cons_zero, List.getElem?_cons_succ] at x0 x1 x2 y1 y2
      clear c1 c2 c3 b2 hW hX c1' HI1
      cases mb with
      | false =>
        obtain rfl : q = (10, (k : Int)) := by
          rw [HST.out, show bad1W ids fr (lastW (l.take k)) ⟨s1, p1, a1⟩ = 10 from by unfold bad1W; rw [HMB.out]; rfl, if_neg (by omega)]
        go_wp2
        go_ret2
        exact ⟨rfl, HBW6.out⟩
      | true =>
        by_cases t1 : a1 < 1
        · have HOK : Hid (okW fr ⟨s1, p1, a1⟩ = false) := by show _ = _; unfold okW; rw [if_pos t1]
          obtain rfl : q = (11, (k : Int)) := by
            rw [HST.out, show bad1W ids fr (lastW (l.take k)) ⟨s1, p1, a1⟩ = 11 from by unfold bad1W; rw [HMB.out, HOK.out]; rfl, if_neg (by omega)]
          go_wp2
          go_ret2
          exact ⟨rfl, HBW6.out⟩
        · by_cases t2 : p1 < 0
          · have HOK : Hid (okW fr ⟨s1, p1, a1⟩ = false) := by show _ = _; unfold okW; rw [if_neg t1, if_pos t2]
            obtain rfl : q = (11, (k : Int)) := by
              rw [HST.out, show bad1W ids fr (lastW (l.take k)) ⟨s1, p1, a1⟩ = 11 from by unfold bad1W; rw [HMB.out, HOK.out]; rfl, if_neg (by omega)]
            go_wp2
            go_ret2
            exact ⟨rfl, HBW6.out⟩
          · by_cases t3 : fr < p1
            · have HOK : Hid (okW fr ⟨s1, p1, a1⟩ = false) := by show _ = _; unfold okW; rw [if_neg t1, if_neg t2, if_pos t3]
              obtain rfl : q = (11, (k : Int)) := by
                rw [HST.out, show bad1W ids fr (lastW (l.take k)) ⟨s1, p1, a1⟩ = 11 from by unfold bad1W; rw [HMB.out, HOK.out]; rfl, if_neg (by omega)]
              go_wp2
              go_ret2
              exact ⟨rfl, HBW6.out⟩
            · have hwf : IntKind.i64.wrap (fr - p1) = fr - p1 := IntWalk.i64_in _ (by have := HF.out; unfold I64 at this; omega)
              by_cases t4 : fr - p1 < a1
              · have HOK : Hid (okW fr ⟨s1, p1, a1⟩ = false) := by show _ = _; unfold okW; rw [if_neg t1, if_neg t2, if_neg t3]; simp; omega
                obtain rfl : q = (11, (k : Int)) := by
                  rw [HST.out, show bad1W ids fr (lastW (l.take k)) ⟨s1, p1, a1⟩ = 11 from by unfold bad1W; rw [HMB.out, HOK.out]; rfl, if_neg (by omega)]
                go_wp2
                go_ret2
                exact ⟨rfl, HBW6.out⟩
              · have HOK : Hid (okW fr ⟨s1, p1, a1⟩ = true) := by show _ = _; unfold okW; rw [if_neg t1, if_neg t2, if_neg t3]; simp; omega
                have HT2 := Lib.hid t2
                have HRW : Hid (Ahead ⟨s1, p1, a1⟩) := by
                  have h1 := HF.out
                  unfold I64 at h1
                  exact ⟨by show 0 ≤ p1; omega, by show 0 ≤ a1; omega, by show p1 + a1 ≤ _; omega⟩
                have hk1 : IntKind.i64.wrap ((k : Int) + 1) = (k : Int) + 1 := IntWalk.i64_in _ (by omega)
                rcases Nat.eq_zero_or_pos k with hz | hz
                · subst hz
                  have HBD : Hid (bad1W ids fr (lastW (l.take 0)) ⟨s1, p1, a1⟩ = 0) := bad_first HMB.out HOK.out
                  go_wp2
                  go_quiet (fail)
                  go_wp2
                  go_quiet (fail)
                  go_wp2
                  go_roundw
                  case rel =>
                    refine ⟨0 + 1, by have := HA.out; omega, by go_num, ?_, ?_, ?_, ?_⟩
                    · rw [HLT.out, HST.out, HBD.out]; simp
                    · rw [HLT.out]; exact HRW.out
                    · exact HBW5.out
                    · exact below_dn HBW6.out _
                  case measure => simp [intOf]; omega
                · obtain ⟨j, hkj⟩ : ∃ j, k = j + 1 := ⟨k - 1, by omega⟩
                  obtain ⟨y, hy⟩ : ∃ y, l[j]? = some y := ⟨_, List.getElem?_eq_getElem (by have := HA.out; omega)⟩
                  obtain ⟨ay, hay, _, e2, e3⟩ := (H1.out.kept HBW6.out) j y hy
                  obtain rfl := Option.some.inj hay
                  have hla : lastW (l.take k) = y := by rw [hkj]; exact last_takeW l j y hy
                  have HLA := Lib.hid hla
                  obtain ⟨s2, p2, a2⟩ := y
                  dsimp only at e2 e3
                  have hg := HAH.out
                  rw [hla] at hg
                  obtain ⟨g1, g2, g3⟩ := hg
                  dsimp only at g1 g2 g3
                  have hws : IntKind.i64.wrap (p2 + a2) = p2 + a2 := IntWalk.i64_in _ (by omega)
                  have hbd : bad1W ids fr (lastW (l.take k)) ⟨s1, p1, a1⟩ = (if p1 < p2 then 9 else if p1 < p2 + a2 then 12 else 0) := by
                    unfold bad1W
                    rw [HMB.out, HOK.out, hla]
                    simp
                  have HBD := Lib.hid hbd
                  have tkk : decide ((0 : Int) < (k : Int)) = true := decide_eq_true (by omega)
                  have tkk2 : decide (0 < k) = true := decide_eq_true (by omega)
                  have hj1 : IntKind.i64.wrap ((k : Int) - 1) = (j : Int) := by rw [IntKind.wrap_i64]; omega
                  have hj0 : (0 : Int) ≤ (j : Int) := by omega
                  have hja : (j : Int) < a := by omega
                  clear hla hay hy g1 g2 g3 hbd hz hkj
                  by_cases u1 : p1 < p2
                  · have tu1 : decide (p1 < p2) = true := decide_eq_true u1
                    obtain rfl : q = (9, (k : Int)) := by
                      rw [HST.out, HBD.out, if_pos u1]; rfl
                    go_wp2
                    go_quiet (fail)
                    go_wp2
                    go_ret2
                    exact ⟨rfl, below_dn HBW6.out _⟩
                  · have tu1 : decide (p1 < p2) = false := decide_eq_false u1
                    by_cases u2 : p1 < p2 + a2
                    · have tu2 : decide (p1 < p2 + a2) = true := decide_eq_true u2
                      obtain rfl : q = (12, (k : Int)) := by
                        rw [HST.out, HBD.out, if_neg u1, if_pos u2]; rfl
                      go_wp2
                      go_quiet (fail)
                      go_wp2
                      go_quiet (fail)
                      go_wp2
                      go_ret2
                      exact ⟨rfl, below_dn HBW6.out _⟩
                    · have tu2 : decide (p1 < p2 + a2) = false := decide_eq_false u2
                      have HB0 : Hid (bad1W ids fr (lastW (l.take k)) ⟨s1, p1, a1⟩ = 0) := by
                        show _ = _
                        rw [HBD.out, if_neg u1, if_neg u2]
                      go_wp2
                      go_quiet (fail)
                      go_wp2
                      go_quiet (fail)
                      go_wp2
                      go_roundw
                      case rel =>
                        refine ⟨k + 1, by have := HA.out; omega, by go_num, ?_, ?_, ?_, ?_⟩
                        · rw [HLT.out, HST.out, HB0.out]; simp
                        · rw [HLT.out]; exact HRW.out
                        · exact HBW5.out
                        · exact below_dn HBW6.out _
                      case measure => simp [intOf]; omega
    · obtain rfl : k = a := by omega
      have hqe : q = (0, 0) := by
        rw [HQK.out, List.drop_eq_nil_of_le (by rw [HA.out]; exact Nat.le_refl _)]; rfl
      subst hqe
      clear HBW HQK
      go_wp2
      go_ret2
      exact ⟨rfl, HBE.out⟩
theorem rcheck_any (id fr : Int) (P : Option Addr) (pc : Nat) (l : List A3) (C : Option Addr) (nn cc : Nat) (I : Option Addr) (li ci : Nat) (ids : List Int) (w : World) (hI : IntsBelow w.heap.size w (.slice I li ci) ids)
    (h1 : ActsAt w P l) (hw : ∀ x ∈ l, Wide x) (hf : I64 fr) (hl : l.length ≤ 1000) (hids : ids.length ≤ 1099511627776) :
    Calls Tryd.prog 19 #[.agg #[.int .i64 id, .int .i64 fr, .slice P l.length pc, .slice C nn cc], .slice I li ci] w fun e w' => e = .returned (.tuple #[.int .i64 (chkW ids fr ⟨0, 0, 0⟩ 0 l).2, .int .i64 (chkW ids fr ⟨0, 0, 0⟩ 0 l).1]) ∧ Below w.heap.size w w' := rcheck_far id fr P pc l C nn cc I li ci ids w hI h1 hw hf hl (by omega)
end Go.Proofs.YtpjillclladjaaaDoor.Win
