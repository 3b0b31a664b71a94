/- Windows: whose a tick is, as the document tells it. Condition: at most 1,000 windows of plain numbers, a frame of 0 to 1,048,576, a tick of 64 bits. Windows: whose all ticks are, as the document tells it. Condition: at most 1,000 windows of plain numbers, a frame of 0 to 1,048,576. -/
import Derived.Test.YtpjillclladjaaaDoorMg39
import Derived.OwnWalk
import Derived.Test.YtpjillclladjaaaDoorMg40
namespace Go.Proofs.YtpjillclladjaaaDoor.Win

open Go.RowKit Go.PlainAid Go.Proofs.YtpjillclladjaaaDoor.Oct Go.Proofs.YtpjillclladjaaaDoor.Flt Go.Proofs.YtpjillclladjaaaDoor.Rdr Go.Proofs.YtpjillclladjaaaDoor.Args

open Go.Proofs.YtpjillclladjaaaDoor.Act (A3 actL flatA ActsAt I64 Wide row_beside row_base)

set_option linter.unusedVariables false

set_option linter.unusedSimpArgs false

theorem has_plain {fr t : Int} {x : A3} (hx : Num x) (h0 : 0 ≤ t) (h1 : t < fr) : hasB fr x t = (decide (x.p ≤ t) && decide (t < x.p + x.a)) := by
  obtain ⟨a1, a2, a3, a4⟩ := hx
  unfold hasB fW tW
  by_cases c1 : x.a < 1
  · rw [if_pos c1, if_pos c1, decide_eq_false (show ¬ t < 0 by omega), Bool.and_false]
    by_cases c2 : x.p ≤ t
    · rw [decide_eq_false (show ¬ t < x.p + x.a by omega), Bool.and_false]
    · rw [decide_eq_false c2, Bool.false_and]
  · rw [if_neg c1, if_neg c1]
    by_cases c2 : fr ≤ x.p
    · rw [if_pos c2, if_pos c2, decide_eq_false (show ¬ t < 0 by omega), Bool.and_false, decide_eq_false (show ¬ x.p ≤ t by omega), Bool.false_and]
    · rw [if_neg c2, if_neg c2]
      by_cases c3 : fr < x.p + x.a
      · rw [if_pos c3, decide_eq_true h1, decide_eq_true (show t < x.p + x.a by omega)]
      · rw [if_neg c3]
theorem own_out {fr t : Int} (hf : 0 ≤ fr) (l : List A3) (hn : ∀ x ∈ l, Num x) (ht : t < 0 ∨ fr ≤ t) : ownT fr l t = -1 := by
  apply own_none
  unfold covB
  rw [List.any_eq_false]
  intro x hx
  have h1 := fW_in (hn x hx) hf
  have h2 := tW_in (hn x hx) hf
  unfold hasB
  rcases ht with h | h
  · rw [decide_eq_false (show ¬ fW fr x ≤ t by omega)]; simp
  · rw [decide_eq_false (show ¬ t < tW fr x by omega)]; simp
set_option maxRecDepth 8000 in
set_option maxHeartbeats 3200000 in
theorem rowner_any (id fr t : Int) (P : Option Addr) (pc : Nat) (l : List A3) (C : Option Addr) (nn cc : Nat) (w : World) (h1 : ActsAt w P l) (hnum : ∀ x ∈ l, Num x) (hf : 0 ≤ fr ∧ fr ≤ 1048576) (hl : l.length ≤ 1000) :
    Calls Tryd.prog 61 #[.agg #[.int .i64 id, .int .i64 fr, .slice P l.length pc, .slice C nn cc], .int .i64 t] w fun e w' => e = .returned (.int .i64 (ownT fr l t)) ∧ Below w.heap.size w w' := by
  obtain ⟨r, hr⟩ : ∃ r, ownT fr l t = r := ⟨_, rfl⟩
  have HR := Lib.hid hr
  have HOUT : Hid (t < 0 ∨ fr ≤ t → r = -1) := fun h => by rw [← hr]; exact own_out hf.1 l hnum h
  rw [hr]
  obtain ⟨a, ha⟩ : ∃ a, l.length = a := ⟨_, rfl⟩
  have HA := Lib.hid ha
  rw [ha] at hl
  rw [ha]
  have H1 := Lib.hid h1
  have HNUM := Lib.hid hnum
  have HF := Lib.hid hf
  have HL : Hid (a ≤ 1000) := hl
  have hb0 : Below w.heap.size w (w.alloc (.cells #[.int .i64 id, .int .i64 fr, .slice P a pc, .slice C nn cc] 31)) := (Below.refl _ _).alloc (Nat.le_refl _) _
  have HB0 := Lib.hid hb0
  have HX0 := Lib.hid (heap_alloc_new w (.cells #[.int .i64 id, .int .i64 fr, .slice P a pc, .slice C nn cc] 31))
  clear hr ha h1 hnum hf hl hb0
  by_cases h0 : t < 0
  · obtain rfl := HOUT.out (.inl h0)
    go_enter Tryd.func61, Tryd.ntmps61
    go_wp2
    go_ret
    exact ⟨rfl, HB0.out⟩
  · by_cases h2 : fr ≤ t
    · obtain rfl := HOUT.out (.inr h2)
      go_enter Tryd.func61, Tryd.ntmps61
      go_wp2
      go_ret
      exact ⟨rfl, HB0.out⟩
    · have HT : Hid (0 ≤ t ∧ t < fr) := ⟨by omega, by omega⟩
      go_enter Tryd.func61, Tryd.ntmps61
      go_wp2
      clear h0 h2 HOUT
      go_loopw [5] (fun i wr => OnRel #[.int .i64 id, .int .i64 fr, .slice P a pc, .slice C nn cc] fr t r l w i wr) (fun i _ => a - (intOf i).toNat)
      case atStart => exact ⟨0, Nat.zero_le _, rfl, HR.out, HX0.out, HB0.out⟩
      case round =>
        obtain ⟨k, hk, rfl, hown, hbx, hb⟩ := hrel
        have HOWN := Lib.hid hown
        have HBX := Lib.hid hbx
        have HB := Lib.hid hb
        have hka : k ≤ a := by rw [← HA.out]; exact hk
        have b2 := cell_of_row _ _ 2 _ _ _ hbx
        simp only [List.getElem?_toArray, List.getElem?_cons_zero, List.getElem?_cons_succ] at b2
        clear hk hown hbx hb HB0 HX0
        by_cases hlt : k < a
        · obtain ⟨x, hx⟩ : ∃ x, l[k]? = some x := ⟨_, List.getElem?_eq_getElem (by rw [HA.out]; exact hlt)⟩
          obtain ⟨ax, rfl, c1, c2, c3⟩ := (H1.out.kept HB.out) k x hx
          have hnx := HNUM.out x (List.mem_of_getElem? hx)
          have hdr : l.drop k = x :: l.drop (k + 1) := by
            rw [List.drop_eq_getElem_cons (by rw [HA.out]; exact hlt)]
            congr 1
            rw [List.getElem?_eq_getElem (by rw [HA.out]; exact hlt)] at hx
            exact Option.some.inj hx
          have hst := HOWN.out
          rw [hdr, ownT, has_plain hnx HT.out.1 HT.out.2] at hst
          have hb5 : Below wr.heap.size wr (wr.alloc (.cells (winC x) 82)) := (Below.refl _ _).alloc (Nat.le_refl _) _
          have HB5 := Lib.hid (HB.out.trans (hb5.mono HB.out.size))
          have HBX5 := Lib.hid ((hb5.block _ (lt_of_block HBX.out)).trans HBX.out)
          obtain ⟨s1, p1, a1⟩ := x
          obtain ⟨n1, n2, n3, n4⟩ := hnx
          unfold winC at HB5 HBX5
          dsimp only at c1 c2 c3 HB5 HBX5 hst n1 n2 n3 n4
          have HST := Lib.hid hst
          have hki : (0 : Int) ≤ k := by omega
          have hkb : (k : Int) < a := by omega
          have hal := HL.out
          have hwp : IntKind.i64.wrap (p1 + a1) = p1 + a1 := IntWalk.i64_in _ (by omega)
          have hk1 : IntKind.i64.wrap ((k : Int) + 1) = (k : Int) + 1 := IntWalk.i64_in _ (by omega)
          clear hx hdr hst hb5 n1 n2 n3 n4
          cases d1 : decide (p1 ≤ t) with
          | false =>
            have hst : ownT fr (l.drop (k + 1)) t = r := by have h := HST.out; rw [d1] at h; simpa using h
            have HST2 := Lib.hid hst
            clear hst HST
            go_wp2
            go_roundw
            case rel => exact ⟨k + 1, by rw [HA.out]; omega, by go_num, HST2.out, HBX5.out, HB5.out⟩
            case measure => simp [intOf]; omega
          | true =>
            cases d2 : decide (t < p1 + a1) with
            | false =>
              have hst : ownT fr (l.drop (k + 1)) t = r := by have h := HST.out; rw [d1, d2] at h; simpa using h
              have HST2 := Lib.hid hst
              clear hst HST
              go_wp2
              go_roundw
              case rel => exact ⟨k + 1, by rw [HA.out]; omega, by go_num, HST2.out, HBX5.out, HB5.out⟩
              case measure => simp [intOf]; omega
            | true =>
              have hst : s1 = r := by have h := HST.out; rw [d1, d2] at h; simpa using h
              subst hst
              go_wp2
              go_ret
              exact ⟨rfl, HB5.out⟩
        · obtain rfl : k = a := by omega
          have hrr : r = -1 := by
            have h := HOWN.out
            rw [List.drop_eq_nil_of_le (by rw [HA.out]; exact Nat.le_refl _)] at h
            rw [← h]; rfl
          subst hrr
          have HBF := Lib.hid HB.out
          clear HB
          go_wp2
          go_ret
          exact ⟨rfl, HBF.out⟩
end Go.Proofs.YtpjillclladjaaaDoor.Win

namespace Go.Proofs.YtpjillclladjaaaDoor.Win

open Go.RowKit Go.PlainAid Go.Proofs.YtpjillclladjaaaDoor.Oct Go.Proofs.YtpjillclladjaaaDoor.Flt Go.Proofs.YtpjillclladjaaaDoor.Rdr Go.Proofs.YtpjillclladjaaaDoor.Args

open Go.Proofs.YtpjillclladjaaaDoor.Act (A3 actL flatA ActsAt I64 Wide row_beside row_base)

set_option linter.unusedVariables false

set_option linter.unusedSimpArgs false

def RwdRel (fr : Nat) (xs : Array Value) (l : List A3) (w : World) (i v : Value) (wr : World) : Prop :=
  ∃ (k VB c : Nat), k ≤ fr ∧ i = .int .i64 (k : Int) ∧ v = .slice (some ⟨VB, 0, none⟩) k c ∧ wr.heap[w.heap.size]? = some (.cells xs 31 (0, 0)) ∧ wr.ownsRow (w.heap.size + 1) 3 1 (.slice (some ⟨VB, 0, none⟩) k c) k ((ticksL (ownT (fr : Int) l) 0 k).map (Value.int .i64)) ∧ Below w.heap.size w wr
set_option maxRecDepth 8000 in
set_option maxHeartbeats 3200000 in
theorem rword_any (id : Int) (fr : Nat) (P : Option Addr) (pc : Nat) (l : List A3) (C : Option Addr) (nn cc : Nat) (w : World) (h1 : ActsAt w P l) (hnum : ∀ x ∈ l, Num x) (hf : fr ≤ 1048576) (hl : l.length ≤ 1000) :
    Calls Tryd.prog 44 #[.agg #[.int .i64 id, .int .i64 (fr : Int), .slice P l.length pc, .slice C nn cc]] w fun e w' => ∃ VB c, e = .returned (.slice (some ⟨VB, 0, none⟩) fr c) ∧ w'.ownsRow w.heap.size 3 1 (.slice (some ⟨VB, 0, none⟩) fr c) fr ((ticksL (ownT (fr : Int) l) 0 fr).map (Value.int .i64)) ∧ Below w.heap.size w w' := by
  obtain ⟨i0, hi, hz0, hz1, hz2⟩ := info_parts infoInt
  have HOWN : Hid (∀ t W, Below w.heap.size w W → _) := fun t W b => rowner_any id (fr : Int) t P pc l C nn cc W (h1.kept b) hnum ⟨by omega, by omega⟩ hl
  obtain ⟨a, ha⟩ : ∃ a, l.length = a := ⟨_, rfl⟩
  rw [ha] at HOWN
  rw [ha]
  have HF : Hid (fr ≤ 1048576) := hf
  have hb0 := two_below w (.cells #[.int .i64 id, .int .i64 (fr : Int), .slice P a pc, .slice C nn cc] 31) (.cells #[] 3)
  have HS0 : Hid (RwdRel fr #[.int .i64 id, .int .i64 (fr : Int), .slice P a pc, .slice C nn cc] l w (.int .i64 0) (.slice (some ⟨w.heap.size + 1, 0, none⟩) 0 0) ((w.alloc (.cells #[.int .i64 id, .int .i64 (fr : Int), .slice P a pc, .slice C nn cc] 31)).alloc (.cells #[] 3))) := by
    have h := heap_alloc_new (w.alloc (.cells #[.int .i64 id, .int .i64 (fr : Int), .slice P a pc, .slice C nn cc] 31)) (.cells #[] 3)
    rw [World.size_alloc] at h
    refine ⟨0, w.heap.size + 1, 0, Nat.zero_le _, rfl, rfl, (heap_alloc_old _ _ (by simp)).trans (heap_alloc_new _ _), ⟨by simp [ticksL], .inr ⟨w.heap.size + 1, 0, _, rfl, Nat.le_refl _, h, Nat.le_refl _, by unfold maxLen; omega, rfl, by simp [ticksL]⟩⟩, hb0⟩
  clear h1 hnum hf hl ha hb0
  go_enter Tryd.func44, Tryd.ntmps44
  go_wp2_with fail
  go_loopw [4, 3] (fun i v wr => RwdRel fr #[.int .i64 id, .int .i64 (fr : Int), .slice P a pc, .slice C nn cc] l w i v wr) (fun i _ _ => fr - (intOf i).toNat)
  case atStart => exact HS0.out
  case round =>
    obtain ⟨k, VB, c, hk, rfl, rfl, hbx, hown, hb⟩ := hrel
    have HBX := Lib.hid hbx
    have HO := Lib.hid hown
    have HB := Lib.hid hb
    have hff := HF.out
    have y0 := cell_of_row _ _ 0 _ _ _ hbx
    have y1 := cell_of_row _ _ 1 _ _ _ hbx
    have y2 := cell_of_row _ _ 2 _ _ _ hbx
    have y3 := cell_of_row _ _ 3 _ _ _ hbx
    simp only [List.getElem?_toArray, List.getElem?_cons_zero, List.getElem?_cons_succ] at y0 y1 y2 y3
    clear hbx hown hb HS0
    by_cases hlt : k < fr
    · have HC := Lib.hid (HOWN.out (k : Int) wr HB.out)
      have htk := ticks_succ (ownT (fr : Int) l) 0 k
      rw [show (0 : Int) + (k : Int) = (k : Int) by omega] at htk
      obtain ⟨o, ho⟩ : ∃ o, ownT (fr : Int) l (k : Int) = o := ⟨_, rfl⟩
      rw [ho] at HC htk
      have HTK := Lib.hid htk
      have hki : (0 : Int) ≤ k := by omega
      have hkb : (k : Int) < fr := by omega
      clear ho htk
      go_wp2_with fail
      refine HC.out.mono ?_
      rintro e w6 ⟨rfl, hb6⟩
      have hb7 : Below w6.heap.size w6 (w6.alloc (.cells #[.int .i64 o] 3)) := (Below.refl _ _).alloc (Nat.le_refl _) _
      have hb67 := hb6.trans (hb7.mono hb6.size)
      have HB7 := Lib.hid (HB.out.trans (hb67.mono HB.out.size))
      have HBX7 := Lib.hid ((hb67.block _ (lt_of_block HBX.out)).trans HBX.out)
      have HO7 := Lib.hid (owns_kept HO.out hb67)
      have HN7 := Lib.hid (heap_alloc_new w6 (.cells #[.int .i64 o] 3))
      clear hb6 hb7 hb67 HB HBX HO HC y0 y1 y2 y3
      go_wp2_with (at_builtin; refine wpList_append_own _ rfl _ _ 24 rfl (w.heap.size + 1) 3 i0 (.int .i64 0) 1 8 Tryd.underlying24 hi hz0 hz1 hz2 rfl (by decide) _ k _ rfl HO7.out ⟨w6.heap.size, 0, none⟩ 1 1 [.int .i64 o] rfl rfl ?d1 ?d2 ?d3 ?d4 ?d5 ?_)
      case d1 =>
        intro j u hj
        have e : (Addr.mk w6.heap.size 0 none).add j = ⟨w6.heap.size, j, none⟩ := by cases j <;> simp [Addr.add]
        rw [e, cell_of_row _ _ _ _ _ _ HN7.out, ← hj]
        simp
      case d2 => intro u hu; simp at hu; rw [hu]; rfl
      case d3 => unfold maxLen; omega
      case d4 => omega
      case d5 =>
        have h2 := HO7.out.lt VB rfl
        omega
      intro v' w8 ho8 hg8 _
      obtain ⟨g', c', rfl⟩ := ownsRow_succ (k := k) ho8
      have hgv := (HO7.out.lt VB rfl).1
      have HB8 : Hid (Below w.heap.size w w8) := HB7.out.grown hg8 HB7.out.size (fun q hq => by cases hq; exact Nat.le_of_succ_le hgv)
      have HBX8 := Lib.hid ((hg8.block _ (lt_of_block HBX7.out) (fun e => by have e1 : w.heap.size = VB := Option.some.inj e; omega)).trans HBX7.out)
      have HO8 : Hid (w8.ownsRow (w.heap.size + 1) 3 1 (.slice (some ⟨g', 0, none⟩) (k + 1) c') (k + 1) ((ticksL (ownT (fr : Int) l) 0 (k + 1)).map (Value.int .i64))) := by
        show World.ownsRow _ _ _ _ _ _ _
        rw [HTK.out, List.map_append]
        exact ho8
      clear ho8 hg8 hgv HB7 HBX7 HO7 HN7
      go_wp2
      go_roundw
      case rel => exact ⟨k + 1, g', c', by omega, by go_num, rfl, HBX8.out, HO8.out, HB8.out⟩
      case measure => simp [intOf]; omega
    · obtain rfl : k = fr := by omega
      have HOF := Lib.hid (row_base HO.out (show w.heap.size ≤ w.heap.size + 1 by omega))
      have HBF := Lib.hid HB.out
      clear HO HB
      go_wp2
      go_ret
      exact ⟨VB, c, rfl, HOF.out, HBF.out⟩
end Go.Proofs.YtpjillclladjaaaDoor.Win
