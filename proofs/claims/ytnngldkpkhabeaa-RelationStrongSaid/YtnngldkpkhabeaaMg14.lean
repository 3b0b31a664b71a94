/- Pairs: sorting the two pairs of the chapter's example. No condition. Pairs: a clone of pairs; the chapter's example, sorted. No condition. Pairs: the pairs from an id, at the chapter's example. No condition. Pairs: a look-up in a map of the call's own whose elements are truths; the empty row of rows. No condition. Pairs: what stands in memory within reach, at the chapter's example; a look-up at the operation. No condition. Pairs: where rows of pairs lead to, at the chapter's example. No condition. -/
import Derived.Test.YtnngldkpkhabeaaMg13
import Derived.Maps.OwnOps
import Derived.Laws.OwnMore
import Derived.WalkMore
import Derived.LoopN
import Derived.Sort.OwnSortedInts
import Derived.Test.YtnngldkpkhabeaaMg05
namespace Go.Proofs.Ytnngldkpkhabeaa.Pai

open Go.RowKit Go.PlainAid Go.Proofs.Ytnngldkpkhabeaa.Oct Go.Proofs.Ytnngldkpkhabeaa.Flt Go.Proofs.Ytnngldkpkhabeaa.Rdr Go.Proofs.Ytnngldkpkhabeaa.Args

set_option linter.unusedVariables false

set_option linter.unusedSimpArgs false

/-- The example's pairs lie in block G. -/
def Two (w : World) (G : Nat) : Prop := w.cell? ⟨G, 0, none⟩ = some (.int .i64 1) ∧ w.cell? ⟨G, 1, none⟩ = some (.int .i64 2) ∧ w.cell? ⟨G, 2, none⟩ = some (.int .i64 2) ∧ w.cell? ⟨G, 3, none⟩ = some (.int .i64 3)
theorem Two.kept {w w' : World} {G : Nat} (h : Two w G) (b : Below w.heap.size w w') : Two w' G := kept4 h b
def cmpV : Value := .func (.func 32) #[] #[]
set_option maxRecDepth 4000 in
set_option maxHeartbeats 1600000 in
theorem ins_two (G c : Nat) (w : World) (h : Two w G) :
    Calls Try.prog 67 #[.slice (some ⟨G, 0, none⟩) 2 c, .int .i64 0, .int .i64 2, cmpV] w fun e w' => e = .returned (.tuple #[]) ∧ Below w.heap.size w w' := by
  have H := Lib.hid h
  have HCM : Hid (∀ W, Calls Try.prog 32 #[.agg #[.int .i64 2, .int .i64 3], .agg #[.int .i64 1, .int .i64 2]] W fun e w' => e = .returned (.int .i64 1) ∧ Below W.heap.size W w') := fun W => compare_any ⟨2, 3⟩ ⟨1, 2⟩ W
  unfold cmpV
  clear h
  go_enter Try.func67, Try.ntmps67
  go_wp2
  go_loopw [8] (fun i wr => (i = .int .i64 1 ∨ i = .int .i64 2) ∧ Below w.heap.size w wr) (fun i _ => 3 - (intOf i).toNat)
  case atStart => exact ⟨.inl rfl, Below.refl _ _⟩
  case round =>
    obtain ⟨hi, hb⟩ := hrel
    have HB := Lib.hid hb
    clear hb
    rcases hi with rfl | rfl
    · go_wp2
      go_loopw [9] (fun j wr2 => j = .int .i64 1 ∧ wr2 = wr) (fun j _ => (intOf j).toNat)
      case atStart => exact ⟨rfl, rfl⟩
      case round =>
        obtain ⟨rfl, rfl⟩ := hrel
        have ht := H.out.kept HB.out
        have HT : Hid (Two wr.drew G) := ht
        clear ht
        have hw0 : IntKind.i64.wrap ((1 : Int) - 1) = 0 := by rw [IntKind.wrap_i64]; omega
        have hw1 : IntKind.i64.wrap 0 = 0 := by rw [IntKind.wrap_i64]; omega
        obtain ⟨c0, c1, c2, c3⟩ := H.out.kept HB.out
        have HBD : Hid (Below w.heap.size w wr.drew) := HB.out.drew
        go_wp2
        go_region_held3 (fun wx => wx.cell? ⟨G, 0, none⟩ = some (.int .i64 1) ∧ wx.cell? ⟨G, 1, none⟩ = some (.int .i64 2) ∧ wx.cell? ⟨G, 2, none⟩ = some (.int .i64 2) ∧ wx.cell? ⟨G, 3, none⟩ = some (.int .i64 3)) (first | (go_keep; done) | exact HT.out | exact HK.out | (refine ⟨?_, ?_, ?_, ?_⟩ <;> assumption))
          ((go_at_call 32; refine (HCM.out _).mono ?_; rintro e w2 ⟨rfl, hb2⟩; have HB2 := Lib.hid (HBD.out.trans (hb2.mono HBD.out.size)); have HK := Lib.hid (kept4 HT.out hb2); clear hb2))
        go_wp2
        go_roundw
        case rel => exact ⟨.inr rfl, HB2.out⟩
        case measure => simp [intOf]
    · go_wp2
      simp [bodyPost, results, Try.results67, go_sem]
      exact HB.out
set_option maxRecDepth 4000 in
set_option maxHeartbeats 1600000 in
theorem pdq_two (G c : Nat) (x : Int) (w : World) (h : Two w G) :
    Calls Try.prog 50 #[.slice (some ⟨G, 0, none⟩) 2 c, .int .i64 0, .int .i64 2, .int .i64 x, cmpV] w fun e w' => e = .returned (.tuple #[]) ∧ Below w.heap.size w w' := by
  have H := Lib.hid (ins_two G c w h)
  unfold cmpV at H ⊢
  clear h
  go_enter Try.func50, Try.ntmps50
  go_wp2
  go_loopw [1, 2, 3, 10, 11] (fun a b c d e wr => a = .int .i64 0 ∧ b = .int .i64 2 ∧ c = .int .i64 x ∧ d = .bool true ∧ e = .bool true ∧ wr = w) (fun _ _ _ _ _ _ => 0)
  case atStart => exact ⟨rfl, rfl, rfl, rfl, rfl, rfl⟩
  case round =>
    obtain ⟨rfl, rfl, rfl, rfl, rfl, rfl⟩ := hrel
    go_wp2_with (go_at_call 67; refine H.out.mono ?_; rintro e w2 ⟨rfl, hb2⟩)
    simp [bodyPost, results, Try.results50, go_sem]
    exact hb2
theorem sortf_two (G c : Nat) (w : World) (h : Two w G) :
    Calls Try.prog 31 #[.slice (some ⟨G, 0, none⟩) 2 c, cmpV] w fun e w' => e = .returned (.tuple #[]) ∧ Below w.heap.size w w' := by
  have H := Lib.hid (fun x => pdq_two G c x w h)
  have HL := Lib.hid (Try.bits_Len 2 w (by omega) (by omega))
  unfold cmpV at H ⊢
  clear h
  go_enter Try.func31, Try.ntmps31
  go_wp2_with (first
    | (go_at_call 51; refine HL.out.mono ?_; rintro e w2 ⟨rfl, rfl⟩)
    | (go_at_call 50; refine (H.out _).mono ?_; rintro e w2 ⟨rfl, hb2⟩))
  simp [bodyPost, results, Try.results31, go_sem]
  exact hb2
end Go.Proofs.Ytnngldkpkhabeaa.Pai

namespace Go.Proofs.Ytnngldkpkhabeaa.Pai

open Go.RowKit Go.PlainAid Go.Proofs.Ytnngldkpkhabeaa.Oct Go.Proofs.Ytnngldkpkhabeaa.Flt Go.Proofs.Ytnngldkpkhabeaa.Rdr Go.Proofs.Ytnngldkpkhabeaa.Args

set_option linter.unusedVariables false

set_option linter.unusedSimpArgs false

theorem add_more2 (y : Addr) (n k : Nat) (h : 0 < k) : (⟨(y.add n).block, (y.add n).off + k, none⟩ : Addr) = y.add (n + k) := by
  cases n with
  | zero =>
    obtain ⟨m, rfl⟩ : ∃ m, k = m + 1 := ⟨k - 1, by omega⟩
    simp [Addr.add]
  | succ n =>
    obtain ⟨m, rfl⟩ : ∃ m, k = m + 1 := ⟨k - 1, by omega⟩
    simp [Addr.add]; omega
theorem pairs_flat {w : World} {y : Addr} {l : List P2} (h : PairsAt w (some y) l) : ∀ (j : Nat) (v : Value), (flatP l)[j]? = some v → w.cell? (y.add j) = some v := by
  intro j v hj
  have hjl : j < l.length * 2 := by rw [← flatP_len]; exact (List.getElem?_eq_some_iff.1 hj).1
  obtain ⟨x, hx⟩ : ∃ x, l[j / 2]? = some x := ⟨_, List.getElem?_eq_getElem (by omega)⟩
  obtain ⟨y', hy, c1, c2⟩ := h (j / 2) x hx
  obtain rfl := Option.some.inj hy
  rw [add_more2 _ _ _ (by omega)] at c2
  have hg := flatP_get l (j / 2) x (j % 2) hx (by omega)
  rw [show j / 2 * 2 + j % 2 = j by omega, hj] at hg
  rcases (show j % 2 = 0 ∨ j % 2 = 1 by omega) with h0 | h0
  · rw [h0] at hg; rw [show j = j / 2 * 2 by omega, c1]; exact hg.symm
  · rw [h0] at hg; rw [show j = j / 2 * 2 + 1 by omega, c2]; exact hg.symm
theorem flatP_one (l : List P2) : ∀ v ∈ flatP l, v.oneCell' = true := by
  intro v hv
  obtain ⟨x, _, hx⟩ := List.mem_flatMap.1 hv
  simp [pairL] at hx
  rcases hx with rfl | rfl <;> rfl
def CRPost (l : List P2) (w : World) (e : Ending) (w' : World) : Prop := ∃ V, e = .returned V ∧ w'.ownsRow w.heap.size 24 2 V l.length (flatP l) ∧ Below w.heap.size w w'
set_option maxRecDepth 4000 in
set_option maxHeartbeats 800000 in
theorem clone2_any (A : Option Addr) (cap : Nat) (l : List P2) (w : World) (hx : PairsAt w A l) (hnil : A = none → cap = 0) (hlc : l.length ≤ cap) (hl : l.length ≤ 1099511627776) :
    Calls Try.prog 30 #[.slice A l.length cap] w (CRPost l w) := by
  obtain ⟨i0, hi, hz0, hz1, hz2⟩ := info_parts infoPair
  cases A with
  | none =>
    obtain rfl := hnil rfl
    obtain rfl : l = [] := List.eq_nil_of_length_eq_zero (by omega)
    have he : ∀ W, (binOp .eql 22 (.slice none 0 0) (.slice none 0 0)).run Try.prog W = .ok (.bool true) W := fun W => Lib.run_eql_slice_nil W _ _ none 0 0 0 0 Try.underlying22
    clear hx hnil hl hi
    go_enter Try.func30, Try.ntmps30
    go_wp2
    go_ret
    exact ⟨_, rfl, World.ownsRow_nil _ _ _ _, Below.refl _ _⟩
  | some a =>
    have hb0 : Below w.heap.size w (w.alloc (.cells #[] 24)) := (Below.refl _ _).alloc (Nat.le_refl _) _
    have HX := Lib.hid (pairs_flat (hx.kept hb0))
    have HB := Lib.hid hb0
    have HO : Hid ((w.alloc (.cells #[] 24)).ownsRow w.heap.size 24 2 (.slice (some ⟨w.heap.size, 0, none⟩) 0 0) 0 []) := World.ownsRow_lit w #[] 0 (Nat.le_refl _) (Nat.zero_le _) rfl
    have HFL := Lib.hid (flatP_len l)
    have HON := Lib.hid (flatP_one l)
    obtain ⟨LL, hLL⟩ : ∃ LL, l.length = LL := ⟨_, rfl⟩
    have HLL := Lib.hid hLL
    rw [hLL] at hl hlc HFL
    rw [hLL]
    clear hx hnil hb0 hLL
    obtain ⟨ab, ao, asp⟩ := a
    have he : ∀ W, (binOp .eql 22 (.slice (some ⟨ab, ao, asp⟩) LL cap) (.slice none 0 0)).run Try.prog W = .ok (.bool false) W := fun W => Lib.run_eql_slice_nil W _ _ (some ⟨ab, ao, asp⟩) LL cap 0 0 Try.underlying22
    go_enter Try.func30, Try.ntmps30
    go_wp2_with (at_builtin; refine wpList_append_own _ rfl _ _ 22 rfl w.heap.size 24 i0 (.agg #[.int .i64 0, .int .i64 0]) 2 16 Try.underlying22 hi hz0 hz1 hz2 rfl (by decide) _ 0 [] rfl HO.out ⟨ab, ao, asp⟩ LL cap (flatP l) rfl ?c1 ?c2 ?c3 ?c4 ?c5 ?c6 ?_)
    case c1 => exact HFL.out
    case c2 => exact HX.out
    case c3 => exact HON.out
    case c4 => unfold maxLen; omega
    case c5 => omega
    case c6 => simp
    intro v' w2 ho2 hg2 _
    have hb2 := HB.out.grown hg2 (by simp) (fun j hj => by first | (simp [Value.ownBlock] at hj; omega) | exact (ho2.lt j hj).1)
    clear hg2
    go_wp2
    go_ret
    exact ⟨v', rfl, by rw [HLL.out]; simpa using ho2, hb2⟩
theorem eq_no (w : World) : (Op.equalIn 10000 24 (.agg #[.int .i64 2, .int .i64 3]) (.agg #[.int .i64 1, .int .i64 2])).run Try.prog w = .ok false w := by
  have hS : Try.prog.underlying 24 = some (.struct (Try.prog.fieldsOf 24)) := by kernel_rfl
  rw [show (10000 : Nat) = 9999 + 1 from rfl, run_equalIn_agg w 9999 24 _ _ hS (by kernel_rfl)]
  simp only [Program.fieldsOf, Try.underlying24]
  go_simp
set_option maxRecDepth 4000 in
set_option maxHeartbeats 1600000 in
theorem compact_two (G c : Nat) (w : World) (h : Two w G) :
    Calls Try.prog 33 #[.slice (some ⟨G, 0, none⟩) 2 c] w fun e w' => e = .returned (.slice (some ⟨G, 0, none⟩) 2 c) ∧ Below w.heap.size w w' := by
  have H := Lib.hid h
  have heq := eq_no
  have hw0 : IntKind.i64.wrap ((1 : Int) - 1) = 0 := by rw [IntKind.wrap_i64]; omega
  have hw1 : IntKind.i64.wrap 0 = 0 := by rw [IntKind.wrap_i64]; omega
  clear h
  go_enter Try.func33, Try.ntmps33
  go_wp2
  go_loopw [3] (fun i wr => (i = .int .i64 1 ∨ i = .int .i64 2) ∧ ∃ n, wr = w.drewN n) (fun i _ => 3 - (intOf i).toNat)
  case atStart => exact ⟨.inl rfl, 0, rfl⟩
  case round =>
    obtain ⟨hi, n, hw⟩ := hrel
    have HB : Hid (Below w.heap.size w wr) := by show Below _ _ _; rw [hw]; exact below_drewN (Below.refl _ _) n
    have HW := Lib.hid hw
    obtain ⟨c0, c1, c2, c3⟩ := H.out.kept HB.out
    clear hw
    rcases hi with rfl | rfl
    · go_wp2
      go_quiet (fail)
      go_wp2
      go_roundw
      case rel => exact ⟨.inr rfl, n + nq, by rw [HW.out, World.drewN_drewN]⟩
      case measure => simp [intOf]
    · go_wp2
      go_ret
      exact ⟨rfl, HB.out⟩
theorem two_at {w : World} {c n B : Nat} {A : Option Addr} (h : w.ownsRow B 24 2 (.slice A n c) 2 (flatP [⟨1, 2⟩, ⟨2, 3⟩])) : ∃ g, A = some ⟨g, 0, none⟩ ∧ n = 2 ∧ Two w g ∧ B ≤ g ∧ g < w.heap.size := by
  rcases h.2 with ⟨_, h0⟩ | ⟨g, c', cur, e, h2, h3, h4⟩
  · cases h0
  · simp only [Value.slice.injEq] at e
    obtain ⟨rfl, rfl, rfl⟩ := e
    exact ⟨g, rfl, rfl, ⟨h.cellAt 0 (by omega), h.cellAt 1 (by omega), h.cellAt 2 (by omega), h.cellAt 3 (by omega)⟩, h2, lt_of_block h3⟩
theorem two_pairs {w : World} {G : Nat} (h : Two w G) : PairsAt w (some ⟨G, 0, none⟩) [⟨1, 2⟩, ⟨2, 3⟩] := by
  intro i x hx
  match i, hx with
  | 0, hx => obtain rfl : (⟨1, 2⟩ : P2) = x := by simpa using hx
             exact ⟨_, rfl, h.1, h.2.1⟩
  | 1, hx => obtain rfl : (⟨2, 3⟩ : P2) = x := by simpa using hx
             exact ⟨_, rfl, h.2.2.1, h.2.2.2⟩
  | n + 2, hx => simp at hx
def SPost (w : World) (e : Ending) (w' : World) : Prop := ∃ g c : Nat, e = .returned (.slice (some ⟨g, 0, none⟩) 2 c) ∧ 2 ≤ c ∧ Two w' g ∧ Below w.heap.size w w'
set_option maxRecDepth 4000 in
theorem sort_two (G c : Nat) (w : World) (h : Two w G) (hc : 2 ≤ c) :
    Calls Try.prog 10 #[.slice (some ⟨G, 0, none⟩) 2 c] w (SPost w) := by
  have HC := Lib.hid (clone2_any (some ⟨G, 0, none⟩) c [⟨1, 2⟩, ⟨2, 3⟩] w (two_pairs h) (fun e => nomatch e) hc (by decide))
  have HS := Lib.hid (fun g c w h => sortf_two g c w h)
  unfold cmpV at HS
  clear h hc
  go_enter Try.func10, Try.ntmps10
  go_wp2_with fail
  refine HC.out.mono ?_
  rintro e w1 ⟨V, rfl, ho, hb1⟩
  obtain ⟨A, c1, rfl, _, _, hc1⟩ := own_at ho
  obtain ⟨g, rfl, _, ht, _⟩ := two_at ho
  have HT := Lib.hid ht
  have HB1 := Lib.hid hb1
  have HC1 := Lib.hid hc1
  clear ho hb1 ht hc1
  go_wp2_with fail
  refine (HS.out _ _ _ HT.out).mono ?_
  rintro e w2 ⟨rfl, hb2⟩
  have HT2 := Lib.hid (HT.out.kept hb2)
  have HB2 := Lib.hid (HB1.out.trans (hb2.mono HB1.out.size))
  clear hb2
  go_wp2_with fail
  refine (compact_two _ _ _ HT2.out).mono ?_
  rintro e w3 ⟨rfl, hb3⟩
  go_wp2
  go_ret
  exact ⟨g, c1, rfl, HC1.out, HT2.out.kept hb3, HB2.out.trans (hb3.mono HB2.out.size)⟩
end Go.Proofs.Ytnngldkpkhabeaa.Pai

namespace Go.Proofs.Ytnngldkpkhabeaa.Pai

open Go.RowKit Go.PlainAid Go.Proofs.Ytnngldkpkhabeaa.Oct Go.Proofs.Ytnngldkpkhabeaa.Flt Go.Proofs.Ytnngldkpkhabeaa.Rdr Go.Proofs.Ytnngldkpkhabeaa.Args

set_option linter.unusedVariables false

set_option linter.unusedSimpArgs false

def leavV : Value := .func (.func 56) #[] #[]
theorem by_from (x : P2) (v : Int) (w : World) : Calls Try.prog 56 #[.agg (pairC x), .int .i64 v] w fun e w' => e = .returned (.int .i64 (Lib.compareInt x.f v)) ∧ Below w.heap.size w w' := by
  have H := Lib.hid (fun w => Try.cmp_Compare_int x.f v w)
  obtain ⟨a, ha⟩ : ∃ a, Lib.compareInt x.f v = a := ⟨_, rfl⟩
  rw [ha] at H ⊢
  have HB : Hid (∀ o n, Below w.heap.size w ((w.alloc o).drewN n)) := fun o n => below_drewN ((Below.refl w.heap.size w).alloc (Nat.le_refl _) o) n
  unfold pairC
  clear ha
  go_enter Try.func56, Try.ntmps56
  go_wp2_with (go_at_call 53; refine (H.out _).mono ?_; rintro e w' ⟨rfl, rfl⟩)
  go_ret
  exact ⟨rfl, HB.out _ 0⟩
set_option maxRecDepth 4000 in
set_option maxHeartbeats 1600000 in
theorem bs_1 (G c : Nat) (w : World) (h : Two w G) :
    Calls Try.prog 55 #[.slice (some ⟨G, 0, none⟩) 2 c, .int .i64 1, leavV] w fun e w' => e = .returned (.tuple #[.int .i64 0, .bool true]) ∧ Below w.heap.size w w' := by
  have H := Lib.hid h
  have HC : Hid (∀ (f t : Int) W, Calls Try.prog 56 #[.agg #[.int .i64 f, .int .i64 t], .int .i64 1] W fun e w' => e = .returned (.int .i64 (Lib.compareInt f 1)) ∧ Below W.heap.size W w') := fun f t W => by_from ⟨f, t⟩ 1 W
  have k1 : Lib.compareInt 1 1 = 0 := rfl
  have k2 : Lib.compareInt 2 1 = 1 := rfl
  have HC1 := Lib.hid (fun W => HC.out 1 2 W)
  have HC2 := Lib.hid (fun W => HC.out 2 3 W)
  rw [k1] at HC1
  rw [k2] at HC2
  clear k1 k2
  unfold leavV
  clear h HC
  go_enter Try.func55, Try.ntmps55
  go_wp2
  go_loopw [9, 10] (fun i j wr => ((i = .int .i64 0 ∧ j = .int .i64 2) ∨ (i = .int .i64 0 ∧ j = .int .i64 1) ∨ (i = .int .i64 0 ∧ j = .int .i64 0)) ∧ Below w.heap.size w wr) (fun i j _ => (intOf j - intOf i).toNat)
  case atStart => exact ⟨.inl ⟨rfl, rfl⟩, Below.refl _ _⟩
  case round =>
    obtain ⟨hi, hb⟩ := hrel
    have HB := Lib.hid hb
    obtain ⟨c0, c1, c2, c3⟩ := H.out.kept hb
    clear hb
    rcases hi with ⟨rfl, rfl⟩ | ⟨rfl, rfl⟩ | ⟨rfl, rfl⟩
    · go_wp2_with fail
      refine (HC2.out _).mono ?_
      rintro e w2 ⟨rfl, hb2⟩
      have HB2 := Lib.hid (HB.out.trans (hb2.mono HB.out.size))
      clear hb2
      go_wp2
      go_roundw
      case rel => exact ⟨.inr (.inl ⟨rfl, rfl⟩), HB2.out⟩
      case measure => simp [intOf]
    · go_wp2_with fail
      refine (HC1.out _).mono ?_
      rintro e w2 ⟨rfl, hb2⟩
      have HB2 := Lib.hid (HB.out.trans (hb2.mono HB.out.size))
      clear hb2
      go_wp2
      go_roundw
      case rel => exact ⟨.inr (.inr (⟨rfl, rfl⟩)), HB2.out⟩
      case measure => simp [intOf]
    · go_wp2_with fail
      refine (HC1.out _).mono ?_
      rintro e w2 ⟨rfl, hb2⟩
      have HB2 := Lib.hid (HB.out.trans (hb2.mono HB.out.size))
      clear hb2
      go_wp2
      go_ret2
      exact ⟨rfl, HB2.out⟩
set_option maxRecDepth 4000 in
set_option maxHeartbeats 1600000 in
theorem bs_2 (G c : Nat) (w : World) (h : Two w G) :
    Calls Try.prog 55 #[.slice (some ⟨G, 0, none⟩) 2 c, .int .i64 2, leavV] w fun e w' => e = .returned (.tuple #[.int .i64 1, .bool true]) ∧ Below w.heap.size w w' := by
  have H := Lib.hid h
  have HC : Hid (∀ (f t : Int) W, Calls Try.prog 56 #[.agg #[.int .i64 f, .int .i64 t], .int .i64 2] W fun e w' => e = .returned (.int .i64 (Lib.compareInt f 2)) ∧ Below W.heap.size W w') := fun f t W => by_from ⟨f, t⟩ 2 W
  have k1 : Lib.compareInt 1 2 = -1 := rfl
  have k2 : Lib.compareInt 2 2 = 0 := rfl
  have HC1 := Lib.hid (fun W => HC.out 1 2 W)
  have HC2 := Lib.hid (fun W => HC.out 2 3 W)
  rw [k1] at HC1
  rw [k2] at HC2
  clear k1 k2
  unfold leavV
  clear h HC
  go_enter Try.func55, Try.ntmps55
  go_wp2
  go_loopw [9, 10] (fun i j wr => ((i = .int .i64 0 ∧ j = .int .i64 2) ∨ (i = .int .i64 0 ∧ j = .int .i64 1) ∨ (i = .int .i64 1 ∧ j = .int .i64 1)) ∧ Below w.heap.size w wr) (fun i j _ => (intOf j - intOf i).toNat)
  case atStart => exact ⟨.inl ⟨rfl, rfl⟩, Below.refl _ _⟩
  case round =>
    obtain ⟨hi, hb⟩ := hrel
    have HB := Lib.hid hb
    obtain ⟨c0, c1, c2, c3⟩ := H.out.kept hb
    clear hb
    rcases hi with ⟨rfl, rfl⟩ | ⟨rfl, rfl⟩ | ⟨rfl, rfl⟩
    · go_wp2_with fail
      refine (HC2.out _).mono ?_
      rintro e w2 ⟨rfl, hb2⟩
      have HB2 := Lib.hid (HB.out.trans (hb2.mono HB.out.size))
      clear hb2
      go_wp2
      go_roundw
      case rel => exact ⟨.inr (.inl ⟨rfl, rfl⟩), HB2.out⟩
      case measure => simp [intOf]
    · go_wp2_with fail
      refine (HC1.out _).mono ?_
      rintro e w2 ⟨rfl, hb2⟩
      have HB2 := Lib.hid (HB.out.trans (hb2.mono HB.out.size))
      clear hb2
      go_wp2
      go_roundw
      case rel => exact ⟨.inr (.inr (⟨rfl, rfl⟩)), HB2.out⟩
      case measure => simp [intOf]
    · go_wp2_with fail
      refine (HC2.out _).mono ?_
      rintro e w2 ⟨rfl, hb2⟩
      have HB2 := Lib.hid (HB.out.trans (hb2.mono HB.out.size))
      clear hb2
      go_wp2
      go_ret2
      exact ⟨rfl, HB2.out⟩
set_option maxRecDepth 4000 in
set_option maxHeartbeats 1600000 in
theorem bs_3 (G c : Nat) (w : World) (h : Two w G) :
    Calls Try.prog 55 #[.slice (some ⟨G, 0, none⟩) 2 c, .int .i64 3, leavV] w fun e w' => e = .returned (.tuple #[.int .i64 2, .bool false]) ∧ Below w.heap.size w w' := by
  have H := Lib.hid h
  have HC : Hid (∀ (f t : Int) W, Calls Try.prog 56 #[.agg #[.int .i64 f, .int .i64 t], .int .i64 3] W fun e w' => e = .returned (.int .i64 (Lib.compareInt f 3)) ∧ Below W.heap.size W w') := fun f t W => by_from ⟨f, t⟩ 3 W
  have k1 : Lib.compareInt 1 3 = -1 := rfl
  have k2 : Lib.compareInt 2 3 = -1 := rfl
  have HC1 := Lib.hid (fun W => HC.out 1 2 W)
  have HC2 := Lib.hid (fun W => HC.out 2 3 W)
  rw [k1] at HC1
  rw [k2] at HC2
  clear k1 k2
  unfold leavV
  clear h HC
  go_enter Try.func55, Try.ntmps55
  go_wp2
  go_loopw [9, 10] (fun i j wr => ((i = .int .i64 0 ∧ j = .int .i64 2) ∨ (i = .int .i64 2 ∧ j = .int .i64 2)) ∧ Below w.heap.size w wr) (fun i j _ => (intOf j - intOf i).toNat)
  case atStart => exact ⟨.inl ⟨rfl, rfl⟩, Below.refl _ _⟩
  case round =>
    obtain ⟨hi, hb⟩ := hrel
    have HB := Lib.hid hb
    obtain ⟨c0, c1, c2, c3⟩ := H.out.kept hb
    clear hb
    rcases hi with ⟨rfl, rfl⟩ | ⟨rfl, rfl⟩
    · go_wp2_with fail
      refine (HC2.out _).mono ?_
      rintro e w2 ⟨rfl, hb2⟩
      have HB2 := Lib.hid (HB.out.trans (hb2.mono HB.out.size))
      clear hb2
      go_wp2
      go_roundw
      case rel => exact ⟨.inr (⟨rfl, rfl⟩), HB2.out⟩
      case measure => simp [intOf]
    · go_wp2
      go_ret2
      exact ⟨rfl, HB.out⟩
set_option maxRecDepth 4000 in
set_option maxHeartbeats 1600000 in
theorem leav_1 (G c : Nat) (w : World) (h : Two w G) (hc : 2 ≤ c) :
    Calls Try.prog 35 #[.slice (some ⟨G, 0, none⟩) 2 c, .int .i64 1] w fun e w' => (e = .returned (.slice (some ⟨G, 0, none⟩) 1 c)) ∧ Below w.heap.size w w' := by
  have H := Lib.hid h
  have HB := Lib.hid (bs_1 G c w h)
  have hci : (2 : Int) ≤ c := by omega
  unfold leavV at HB
  clear h
  go_enter Try.func35, Try.ntmps35
  go_wp2_with fail
  refine HB.out.mono ?_
  rintro e w1 ⟨rfl, hb1⟩
  have HB1 := Lib.hid hb1
  clear hb1
  go_wp2
  go_loopw [7] (fun i wr => (i = .int .i64 0 ∨ i = .int .i64 1) ∧ ∃ n, wr = w1.drewN n) (fun i _ => 3 - (intOf i).toNat)
  case atStart => exact ⟨.inl rfl, 0, rfl⟩
  case round =>
    obtain ⟨hi, n, hw⟩ := hrel
    have HE : Hid (Below w.heap.size w wr) := by show Below _ _ _; rw [hw]; exact below_drewN HB1.out n
    have HW := Lib.hid hw
    obtain ⟨c0, c1, c2, c3⟩ := H.out.kept HE.out
    clear hw
    rcases hi with rfl | rfl
    · go_wp2
      go_roundw
      case rel => exact ⟨.inr rfl, n, HW.out⟩
      case measure => simp [intOf]
    · go_wp2
      go_ret
      exact ⟨rfl, HE.out⟩
set_option maxRecDepth 4000 in
set_option maxHeartbeats 1600000 in
theorem leav_2 (G c : Nat) (w : World) (h : Two w G) (hc : 2 ≤ c) :
    Calls Try.prog 35 #[.slice (some ⟨G, 0, none⟩) 2 c, .int .i64 2] w fun e w' => (e = .returned (.slice (some ⟨G, 2, none⟩) 1 (c - 1))) ∧ Below w.heap.size w w' := by
  have H := Lib.hid h
  have HB := Lib.hid (bs_2 G c w h)
  have hci : (2 : Int) ≤ c := by omega
  unfold leavV at HB
  clear h
  go_enter Try.func35, Try.ntmps35
  go_wp2_with fail
  refine HB.out.mono ?_
  rintro e w1 ⟨rfl, hb1⟩
  have HB1 := Lib.hid hb1
  clear hb1
  go_wp2
  go_loopw [7] (fun i wr => (i = .int .i64 1 ∨ i = .int .i64 2) ∧ ∃ n, wr = w1.drewN n) (fun i _ => 3 - (intOf i).toNat)
  case atStart => exact ⟨.inl rfl, 0, rfl⟩
  case round =>
    obtain ⟨hi, n, hw⟩ := hrel
    have HE : Hid (Below w.heap.size w wr) := by show Below _ _ _; rw [hw]; exact below_drewN HB1.out n
    have HW := Lib.hid hw
    obtain ⟨c0, c1, c2, c3⟩ := H.out.kept HE.out
    clear hw
    rcases hi with rfl | rfl
    · go_wp2
      go_roundw
      case rel => exact ⟨.inr rfl, n, HW.out⟩
      case measure => simp [intOf]
    · go_wp2
      go_ret
      exact ⟨rfl, HE.out⟩
set_option maxRecDepth 4000 in
set_option maxHeartbeats 1600000 in
theorem leav_3 (G c : Nat) (w : World) (h : Two w G) (hc : 2 ≤ c) :
    Calls Try.prog 35 #[.slice (some ⟨G, 0, none⟩) 2 c, .int .i64 3] w fun e w' => (∃ A k, e = .returned (.slice A 0 k)) ∧ Below w.heap.size w w' := by
  have H := Lib.hid h
  have HB := Lib.hid (bs_3 G c w h)
  have hci : (2 : Int) ≤ c := by omega
  unfold leavV at HB
  clear h
  go_enter Try.func35, Try.ntmps35
  go_wp2_with fail
  refine HB.out.mono ?_
  rintro e w1 ⟨rfl, hb1⟩
  have HB1 := Lib.hid hb1
  clear hb1
  go_wp2
  go_loopw [7] (fun i wr => (i = .int .i64 2) ∧ ∃ n, wr = w1.drewN n) (fun i _ => 3 - (intOf i).toNat)
  case atStart => exact ⟨rfl, 0, rfl⟩
  case round =>
    obtain ⟨hi, n, hw⟩ := hrel
    have HE : Hid (Below w.heap.size w wr) := by show Below _ _ _; rw [hw]; exact below_drewN HB1.out n
    have HW := Lib.hid hw
    obtain ⟨c0, c1, c2, c3⟩ := H.out.kept HE.out
    clear hw
    rcases hi with rfl
    · go_wp2
      all_goals first
        | (go_ret; exact ⟨⟨_, _, rfl⟩, HE.out⟩)
        | (go_wp2; go_ret; exact ⟨⟨_, _, rfl⟩, HE.out⟩)
        | skip
end Go.Proofs.Ytnngldkpkhabeaa.Pai

namespace Go.Proofs.Ytnngldkpkhabeaa.Pai

open Go.RowKit Go.PlainAid Go.Proofs.Ytnngldkpkhabeaa.Oct Go.Proofs.Ytnngldkpkhabeaa.Flt Go.Proofs.Ytnngldkpkhabeaa.Rdr Go.Proofs.Ytnngldkpkhabeaa.Args

open Go.Maps (Keyed)

set_option linter.unusedVariables false

set_option linter.unusedSimpArgs false

theorem plainElem_bool_inv {H : Type} {P : Program} {e : TypeId} (he : P.underlying e = some .bool) {v : Value} {z : DataW H × List MemPlace} (h : plainElem P e v = some z) : ∃ x, v = .bool x ∧ z = (.lit (.bool x), []) := by
  unfold plainElem at h
  rw [he] at h
  cases v <;> simp at h
  exact ⟨_, rfl, h.symm⟩
/-- 'm[k]' at elements that are truths. -/
theorem lookup_bool {H : Type} {P : Program} {w : World} {k e t : TypeId} {b n : Nat} {D : DataW H} (h : w.ownsMap P k (plainElem P e) b n D) (K : Keyed P k) (ht : P.underlying t = some (.map k e)) (he : P.underlying e = some .bool) (hz : (zeroValue e).run P w = .ok (.bool false) w)
    {key : Value} {kl : Lit} (hkey : keyOf P k key = some kl) : ∃ c, (Instr.lookup t (.map (some b)) key false).run P w = .ok (.bool c) w ∧ D.atKey kl (.lit (.bool false)) = .lit (.bool c) := by
  obtain ⟨v, ps, hrun, hv⟩ := h.lookup K ht hz (plainElem_bool he false) hkey
  obtain ⟨c, rfl, hc⟩ := plainElem_bool_inv he hv
  simp only [Prod.mk.injEq] at hc
  exact ⟨c, hrun, hc.1⟩
/-- The map's datum behind so many numbers. -/
abbrev D0 : DataW Unit := .map []
abbrev D1 : DataW Unit := D0.put (.int .i64 2) (.lit (.bool true))
def SetAt (w : World) (b n : Nat) (D : DataW Unit) : Prop := w.ownsMap Try.prog 3 (plainElem Try.prog 4) b n D
theorem SetAt.below {w w' : World} {b n : Nat} {D : DataW Unit} (h : SetAt w b n D) (hb : Below w.heap.size w w') : SetAt w' b n D := by
  obtain ⟨es, clock, h1, h2⟩ := h
  exact ⟨es, clock, (hb.block _ (lt_of_block h1)).trans h1, h2⟩
theorem set_no2 {w : World} {b n : Nat} (h : SetAt w b n D0) : (Instr.lookup 51 (.map (some b)) (.int .i64 2) false).run Try.prog w = .ok (.bool false) w := by
  obtain ⟨c, h1, h2⟩ := lookup_bool h (Maps.int_keyed Try.underlying3) Try.underlying51 Try.underlying4 (by go_simp) (kl := .int .i64 2) (Maps.keyOf_int_mk Try.underlying3 (by decide))
  rw [h1]
  have : c = false := by simpa [D0, DataW.atKey] using h2.symm
  rw [this]
theorem set_no3 {w : World} {b n : Nat} (h : SetAt w b n D1) : (Instr.lookup 51 (.map (some b)) (.int .i64 3) false).run Try.prog w = .ok (.bool false) w := by
  obtain ⟨c, h1, h2⟩ := lookup_bool h (Maps.int_keyed Try.underlying3) Try.underlying51 Try.underlying4 (by go_simp) (kl := .int .i64 3) (Maps.keyOf_int_mk Try.underlying3 (by decide))
  rw [h1]
  have : c = false := by
    have e : D1.atKey (.int .i64 3) (.lit (.bool false)) = .lit (.bool false) := by rfl
    rw [e] at h2
    simpa using h2.symm
  rw [this]
end Go.Proofs.Ytnngldkpkhabeaa.Pai

namespace Go.Proofs.Ytnngldkpkhabeaa.Pai

open Go.RowKit Go.PlainAid Go.Proofs.Ytnngldkpkhabeaa.Oct Go.Proofs.Ytnngldkpkhabeaa.Flt Go.Proofs.Ytnngldkpkhabeaa.Rdr Go.Proofs.Ytnngldkpkhabeaa.Args

open Go.Proofs.Ytnngldkpkhabeaa.Act (row_beside)

set_option linter.unusedVariables false

set_option linter.unusedSimpArgs false

/-- 'm[k]' at the operation, by its run's equation. -/
theorem wpList_lookup_run {P : Program} (w : World) {ops : Array Oper} {rest : List Oper} {o : Oper} {a : Act} {Q : Exit → Act → World → Prop}
    (hg : o.guard = none) (m x : Operand) (t : TypeId) (hop : o.op = Op.lookup t m x false) (v key mv : Value) (hm : a.eval m = mv) (hx : a.eval x = key)
    (hrun : (Instr.lookup t mv key false).run P w = .ok v w) (hK : wpList P ops Q rest (a.put o.dst v) w) : wpList P ops Q (o :: rest) a w := by
  refine wpList_plain hg fun K' hK' => ?_
  unfold Oper.wp
  simp [execOp, hop, hm, hx, hrun, Result.andThen]
  exact hK' _ _ hK
/-- Within reach: what is found, what is still to be tried, the map. -/
structure RF (G b n : Nat) (D : DataW Unit) (V : Value) (xs : List Value) (R : Value) (L : List Value) (w W : World) : Prop where
  two : Two W G
  set : SetAt W b n D
  fnd : W.ownsRow w.heap.size 3 1 V xs.length xs
  rst : W.ownsRow w.heap.size 22 1 R L.length L
  bel : Below w.heap.size w W
  gl : G < w.heap.size
  bl : w.heap.size ≤ b
theorem SetAt.blk {w : World} {b n : Nat} {D : DataW Unit} (h : SetAt w b n D) : ∃ es clock, w.heap[b]? = some (.map es clock) := by
  obtain ⟨es, clock, h1, _⟩ := h
  exact ⟨es, clock, h1⟩
theorem just_of_grown {w w' : World} {b : Nat} (h : w.grownBy w' (some b)) : Just b w w' := ⟨h.os, h.tape, h.output, h.size, fun k hk hne => h.block k hk (fun e => hne (Option.some.inj e))⟩
theorem cell_block {w w' : World} {k o : Nat} (h : w'.heap[k]? = w.heap[k]?) : w'.cell? ⟨k, o, none⟩ = w.cell? ⟨k, o, none⟩ := by
  unfold World.cell?
  simp only [h]
theorem two_just {w w' : World} {G b : Nat} (h : Two w G) (j : Just b w w') (hne : G ≠ b) : Two w' G := by
  obtain ⟨h0, h1, h2, h3⟩ := h
  have e := j.block G (Go.block_lt_of_cell h0) hne
  exact ⟨(cell_block e).trans h0, (cell_block e).trans h1, (cell_block e).trans h2, (cell_block e).trans h3⟩
theorem row_not_map {w : World} {B m b n : Nat} {T : TypeId} {s : Nat} {V : Value} {xs : List Value} {D : DataW Unit} (h : w.ownsRow B T s V m xs) (hs : SetAt w b n D) : ∀ k, V.ownBlock = some k → k ≠ b := by
  rintro k hk rfl
  obtain ⟨cur, hc⟩ := Prt.own_block h hk
  obtain ⟨es, clock, hm⟩ := hs.blk
  rw [hc] at hm
  cases hm
theorem row_not_row {w : World} {B B' m m' : Nat} {T T' : TypeId} {s s' : Nat} {V V' : Value} {xs ys : List Value} (h : w.ownsRow B T s V m xs) (h' : w.ownsRow B' T' s' V' m' ys) (hT : T ≠ T') : ∀ k, V.ownBlock = some k → ∀ k', V'.ownBlock = some k' → k ≠ k' := by
  rintro k hk k' hk' rfl
  obtain ⟨cur, hc⟩ := Prt.own_block h hk
  obtain ⟨cur', hc'⟩ := Prt.own_block h' hk'
  rw [hc] at hc'
  simp only [Option.some.injEq, Obj.cells.injEq] at hc'
  exact hT hc'.2.1
theorem RF.keep {G b n : Nat} {D : DataW Unit} {V R : Value} {xs L : List Value} {w W W' : World} (f : RF G b n D V xs R L w W) (hb : Below W.heap.size W W') : RF G b n D V xs R L w W' :=
  ⟨f.two.kept hb, f.set.below hb, row_beside (b := W.heap.size) f.fnd (Just.of_below hb) fun k hk => by have := (f.fnd.lt k hk).2; omega, row_beside (b := W.heap.size) f.rst (Just.of_below hb) fun k hk => by have := (f.rst.lt k hk).2; omega, f.bel.trans (hb.mono f.bel.size), f.gl, f.bl⟩
/-- The map is stored into. -/
theorem RF.put {G b n n' : Nat} {D D' : DataW Unit} {V R : Value} {xs L : List Value} {w W W' : World} (f : RF G b n D V xs R L w W) (hg : W.grownBy W' (some b)) (hs : SetAt W' b n' D') : RF G b n' D' V xs R L w W' := by
  have h1 := f.gl
  have h2 := f.bl
  have j := just_of_grown hg
  exact ⟨two_just f.two j (by omega), hs, row_beside f.fnd j (row_not_map f.fnd f.set), row_beside f.rst j (row_not_map f.rst f.set), f.bel.grown hg f.bel.size (fun k hk => by simp at hk; omega), f.gl, f.bl⟩
/-- Found once more. -/
theorem RF.found {G b n : Nat} {D : DataW Unit} {V V' R : Value} {xs xs' L : List Value} {w W W' : World} (f : RF G b n D V xs R L w W) (hg : W.grownBy W' V.ownBlock) (ho : W'.ownsRow w.heap.size 3 1 V' xs'.length xs') : RF G b n D V' xs' R L w W' := by
  have h1 := f.gl
  have h2 := f.bl
  have hb := f.bel.grown hg f.bel.size (fun k hk => (f.fnd.lt k hk).1)
  cases hv : V.ownBlock with
  | none =>
    have j : Just W.heap.size W W' := ⟨hg.os, hg.tape, hg.output, hg.size, fun k hk _ => hg.block k hk (by rw [hv]; simp)⟩
    have hlt := f.set.blk
    obtain ⟨es, clock, hm⟩ := hlt
    have hml := lt_of_block hm
    refine ⟨two_just f.two j (by have := f.bel.size; omega), ?_, ho, row_beside f.rst j fun k hk => by have := (f.rst.lt k hk).2; omega, hb, f.gl, f.bl⟩
    obtain ⟨es, clock, q1, q2⟩ := f.set
    exact ⟨es, clock, (j.block _ (lt_of_block q1) (by have := lt_of_block q1; omega)).trans q1, q2⟩
  | some k0 =>
    rw [hv] at hg
    have j := just_of_grown hg
    have hk0 := f.fnd.lt k0 hv
    refine ⟨two_just f.two j (by omega), ?_, ho, row_beside f.rst j fun k hk => Ne.symm (row_not_row f.fnd f.rst (by decide) k0 hv k hk), hb, f.gl, f.bl⟩
    obtain ⟨es, clock, q1, q2⟩ := f.set
    exact ⟨es, clock, (j.block _ (lt_of_block q1) (Ne.symm (row_not_map f.fnd f.set k0 hv))).trans q1, q2⟩
/-- The rows that are still to be tried change, or are more. -/
theorem RF.rest {G b n : Nat} {D : DataW Unit} {V R R' : Value} {xs L L' : List Value} {w W W' : World} (f : RF G b n D V xs R L w W) (k0 : Nat) (hv : R.ownBlock = some k0) (hg : W.grownBy W' (some k0)) (ho : W'.ownsRow w.heap.size 22 1 R' L'.length L') : RF G b n D V xs R' L' w W' := by
  have h1 := f.gl
  have j := just_of_grown hg
  have hk0 := f.rst.lt k0 hv
  refine ⟨two_just f.two j (by omega), ?_, row_beside f.fnd j fun k hk => row_not_row f.fnd f.rst (by decide) k hk k0 hv, ho, f.bel.grown hg f.bel.size (fun k hk => by simp at hk; omega), f.gl, f.bl⟩
  obtain ⟨es, clock, q1, q2⟩ := f.set
  exact ⟨es, clock, (j.block _ (lt_of_block q1) (Ne.symm (row_not_map f.rst f.set k0 hv))).trans q1, q2⟩
end Go.Proofs.Ytnngldkpkhabeaa.Pai

namespace Go.Proofs.Ytnngldkpkhabeaa.Pai

open Go.RowKit Go.PlainAid Go.Proofs.Ytnngldkpkhabeaa.Oct Go.Proofs.Ytnngldkpkhabeaa.Flt Go.Proofs.Ytnngldkpkhabeaa.Rdr Go.Proofs.Ytnngldkpkhabeaa.Args

set_option linter.unusedVariables false

set_option linter.unusedSimpArgs false

theorem infoInt : (Try.prog.info? 3).map (fun i => (i.zero, i.size, i.bytes)) = some (some (.int .i64 0), 1, 8) := by kernel_rfl
theorem infoRows : (Try.prog.info? 22).map (fun i => (i.zero, i.size, i.bytes)) = some (some (.slice none 0 0), 1, 24) := by kernel_rfl
theorem own_some {w : World} {B n : Nat} {T : TypeId} {R : Value} {L : List Value} (h : w.ownsRow B T 1 R n L) (hn : 0 < n) : ∃ g cap, R = .slice (some ⟨g, 0, none⟩) n cap ∧ n ≤ cap ∧ cap ≤ maxLen ∧ B ≤ g := by
  rcases h.2 with ⟨_, h0⟩ | ⟨g, cap, cur, rfl, hb, _, h1, h2, _⟩
  · omega
  · exact ⟨g, cap, rfl, h1, h2, hb⟩
theorem own_cut {w : World} {B n g cap : Nat} {T : TypeId} {L : List Value} (h : w.ownsRow B T 1 (.slice (some ⟨g, 0, none⟩) n cap) n L) (m : Nat) (hm : m ≤ n) : w.ownsRow B T 1 (.slice (some ⟨g, 0, none⟩) m cap) m (L.take m) := by
  rcases h.2 with ⟨h0, _⟩ | ⟨g', cap', cur, e, hb, hg, h1, h2, h3, h4⟩
  · cases h0
  · cases e
    refine ⟨by rw [List.length_take, h.1]; omega, .inr ⟨g, cap, cur, rfl, hb, hg, by omega, h2, h3, ?_⟩⟩
    rw [← h4, List.take_take]; congr 1; omega
theorem RF.cut {G b n m g cap : Nat} {D : DataW Unit} {V : Value} {xs L : List Value} {w W : World} (f : RF G b n D V xs (.slice (some ⟨g, 0, none⟩) m cap) L w W) (hL : L.length = m) (k : Nat) (hk : k ≤ m) : RF G b n D V xs (.slice (some ⟨g, 0, none⟩) k cap) (L.take k) w W := by
  have h := f.rst
  rw [hL] at h
  refine ⟨f.two, f.set, f.fnd, ?_, f.bel, f.gl, f.bl⟩
  have := own_cut h k hk
  rw [show (L.take k).length = k by rw [List.length_take]; omega]
  exact this
theorem cut_one (G c : Nat) (hc : 2 ≤ c) : ∃ A k, ∀ wx : World, (Instr.slice 22 (.slice (some ⟨G, 2, none⟩) 1 (c - 1)) (some (.int .i64 1)) none none).run Try.prog wx = .ok (.slice A 0 k) wx := by
  have h1 : (1 : Int) ≤ ((c - 1 : Nat) : Int) := by omega
  by_cases h2 : c - 1 = 1
  · refine ⟨some ⟨G, 2, none⟩, 0, fun wx => ?_⟩
    rw [h2]
    simp [Instr.slice, go_sem, run_underlying Try.underlying22]
  · refine ⟨some ⟨G, 4, none⟩, c - 1 - 1, fun wx => ?_⟩
    simp [Instr.slice, go_sem, h1, h2]
/-- Two and three, in a row of the call's own. -/
def TPost (w : World) (e : Ending) (w' : World) : Prop := ∃ g c : Nat, e = .returned (.slice (some ⟨g, 0, none⟩) 2 c) ∧ w'.ownsRow w.heap.size 3 1 (.slice (some ⟨g, 0, none⟩) 2 c) 2 [.int .i64 2, .int .i64 3] ∧ Below w.heap.size w w'
/-- Numbers of the call's own, sorted. -/
theorem sort_own (g cap B : Nat) (zs : List Int) (w : World) (h : w.ownsRow B 3 1 (.slice (some ⟨g, 0, none⟩) zs.length cap) zs.length (zs.map (Value.int .i64))) (hl : zs.length < 4611686018427387904) :
    Calls Try.prog 54 #[.slice (some ⟨g, 0, none⟩) zs.length cap] w fun e w' => e = .returned (.tuple #[]) ∧ w'.ownsRow B 3 1 (.slice (some ⟨g, 0, none⟩) zs.length cap) zs.length ((zs.mergeSort fun x y => decide (x ≤ y)).map (Value.int .i64)) ∧ w.grownBy w' (some g) := by
  rcases h.2 with ⟨h0, _⟩ | ⟨g', cap', cur, e, hb, hg, h1, h2, h3, h4⟩
  · cases h0
  · cases e
    refine (Try.slices_Sort_int g 0 cap zs w (Go.holds_of_blockI hg (by rw [← h4, Nat.mul_one])) (lt_of_block hg) hl).mono ?_
    rintro e w' ⟨rfl, n, os, rfl⟩
    exact ⟨rfl, Go.ownsRow_sortedI (List.length_mergeSort zs) hb hg h1 h2 h3, Go.grownBy_sortedI _⟩
theorem sorted_two : ([2, 3] : List Int).mergeSort (fun x y => decide (x ≤ y)) = [2, 3] := List.mergeSort_of_pairwise (by decide)
set_option maxRecDepth 8000 in
set_option maxHeartbeats 3200000 in
theorem reach_two (G c : Nat) (w : World) (h : Two w G) (hc : 2 ≤ c) :
    Calls Try.prog 34 #[.slice (some ⟨G, 0, none⟩) 2 c, .int .i64 1] w (TPost w) := by
  obtain ⟨i1, hi1, hy0, hy1, hy2⟩ := info_parts infoInt
  obtain ⟨i2, hi2, hx0, hx1, hx2⟩ := info_parts infoRows
  have H := Lib.hid h
  have HC := Lib.hid hc
  obtain ⟨A8, k8, hsl⟩ := cut_one G c hc
  have HSL := Lib.hid hsl
  clear hsl
  have hmm := @run_makeMap Try.prog
  have HGL : Hid (G < w.heap.size) := Go.block_lt_of_cell h.1
  have HB0 : Hid (Below w.heap.size w (w.alloc (.map #[] 0))) := (Below.refl _ _).alloc (Nat.le_refl _) _
  have HS0 : Hid (SetAt (w.alloc (.map #[] 0)) w.heap.size 0 D0) := World.ownsMap_made _ _ _ _
  have HL1 : Hid (∀ W, Below w.heap.size w W → Calls Try.prog 35 #[.slice (some ⟨G, 0, none⟩) 2 c, .int .i64 1] W fun e w' => (e = .returned (.slice (some ⟨G, 0, none⟩) 1 c)) ∧ Below W.heap.size W w') := fun W b => leav_1 G c W (h.kept b) hc
  have HL2 : Hid (∀ W, Below w.heap.size w W → Calls Try.prog 35 #[.slice (some ⟨G, 0, none⟩) 2 c, .int .i64 2] W fun e w' => (e = .returned (.slice (some ⟨G, 2, none⟩) 1 (c - 1))) ∧ Below W.heap.size W w') := fun W b => leav_2 G c W (h.kept b) hc
  have HL3 : Hid (∀ W, Below w.heap.size w W → Calls Try.prog 35 #[.slice (some ⟨G, 0, none⟩) 2 c, .int .i64 3] W fun e w' => (∃ A k, e = .returned (.slice A 0 k)) ∧ Below W.heap.size W w') := fun W b => leav_3 G c W (h.kept b) hc
  clear h hc
  go_enter Try.func34, Try.ntmps34
  go_wp2
  go_step3
  go_wp2_with fail
  refine (HL1.out _ HB0.out).mono ?_
  rintro e w1 ⟨rfl, hb1⟩
  have hb2 : Below w.heap.size w (w1.alloc (.cells #[.slice (some ⟨G, 0, none⟩) 1 c] 22)) := (HB0.out.trans (hb1.mono HB0.out.size)).alloc (HB0.out.trans (hb1.mono HB0.out.size)).size _
  have hf0 : RF G w.heap.size 0 D0 (.slice none 0 0) [] (.slice (some ⟨w1.heap.size, 0, none⟩) 1 1) [.slice (some ⟨G, 0, none⟩) 1 c] w (w1.alloc (.cells #[.slice (some ⟨G, 0, none⟩) 1 c] 22)) :=
    ⟨H.out.kept hb2, (HS0.out.below hb1).below ((Below.refl _ _).alloc (Nat.le_refl _) _), World.ownsRow_nil _ _ _ _, World.ownsRow_lit w1 #[.slice (some ⟨G, 0, none⟩) 1 c] 1 (HB0.out.trans (hb1.mono HB0.out.size)).size (by decide) rfl, hb2, HGL.out, Nat.le_refl _⟩
  go_wp2
  try go_step3
  try go_wp2
  obtain ⟨W0, hW0⟩ : ∃ W, w1.alloc (.cells #[.slice (some ⟨G, 0, none⟩) 1 c] 22) = W := ⟨_, rfl⟩
  obtain ⟨r, hr⟩ : ∃ r, w1.heap.size = r := ⟨_, rfl⟩
  obtain ⟨b, hb⟩ : ∃ b, w.heap.size = b := ⟨_, rfl⟩
  rw [hW0, hr] at hf0
  rw [hW0, hr]
  have HF0 := Lib.hid hf0
  have HWB : Hid (w.heap.size < W0.heap.size) := by obtain ⟨es, clock, h1⟩ := HF0.out.set.blk; exact lt_of_block h1
  clear hf0 hW0 hr hb1 hb2 HS0 hb
  have s0 : W0.cell? ⟨r, 0, none⟩ = some (.slice (some ⟨G, 0, none⟩) 1 c) := HF0.out.rst.cellAt 0 (by simp)
  obtain ⟨c0, c1, c2, c3⟩ := HF0.out.two
  have HF1 := Lib.hid (HF0.out.keep ((Below.refl _ _).alloc (Nat.le_refl _) (.cells #[.int .i64 1, .int .i64 2] 24)))
  have HP1 := Lib.hid (heap_alloc_new W0 (.cells #[.int .i64 1, .int .i64 2] 24))
  refine wp_loop_rounds 6 ?_
  rw [rounds_succ]
  go_wp2
  refine wp_loop_rounds 2 ?_
  rw [rounds_succ]
  go_wp2_with (first
    | (at_lookup; refine wpList_lookup_run _ rfl _ _ 51 rfl (.bool false) _ _ rfl rfl (set_no2 HF1.out.set) ?_)
    | (at_mapUpdate; refine wpList_mapUpdate_own _ rfl _ _ _ 51 rfl 3 4 (Maps.int_keyed Try.underlying3) Try.underlying51 (plainElem Try.prog 4) w.heap.size 0 D0 rfl HF1.out.set (by decide) _ _ (.int .i64 2) rfl rfl (Maps.keyOf_int_mk Try.underlying3 (by decide)) (.lit (.bool true)) [] (plainElem_bool Try.underlying4 true) ?_; intro w2 hs2 hg2; have HF2 := Lib.hid (HF1.out.put hg2 hs2); have hp2 := (hg2.block W0.heap.size (by simp) (fun e => by have h1 := HWB.out; have h2 := Option.some.inj e; omega)).trans HP1.out; have HP2 := Lib.hid hp2; have e1 := cell_of_row w2 _ 1 _ _ _ hp2; simp only [List.getElem?_toArray, List.getElem?_cons_zero, List.getElem?_cons_succ] at e1; clear hs2 hg2 hp2)
    | (at_builtin; have hf3 := HF2.out.keep ((Below.refl _ _).alloc (Nat.le_refl _) (.cells #[.int .i64 2] 3)); refine wpList_append_own _ rfl _ _ 29 rfl w.heap.size 3 i1 (.int .i64 0) 1 8 Try.underlying29 hi1 hy0 hy1 hy2 rfl (by decide) _ 0 _ rfl hf3.fnd ⟨w2.heap.size, 0, none⟩ 1 1 [.int .i64 2] rfl rfl ?c1 ?c2 ?c3 ?c4 ?c5 ?_))
  case c1 =>
    intro j u hj
    have hrow := heap_alloc_new w2 (.cells #[.int .i64 2] 3)
    have e : (Addr.mk w2.heap.size 0 none).add j = ⟨w2.heap.size, j, none⟩ := by cases j <;> simp [Addr.add]
    rw [e, cell_of_row _ _ _ _ _ _ hrow, ← hj]
    simp
  case c2 => intro u hu; simp at hu; rcases hu with rfl; rfl
  case c3 => decide
  case c4 => decide
  case c5 => have := HF2.out.bel.size; have := HF2.out.gl; simp; omega
  intro v' w3 ho3 hg3 _
  have HF3 := Lib.hid (hf3.found (V' := v') (xs' := [.int .i64 2]) hg3 (by exact ho3))
  have HW3 : Hid (w2.heap.size < w3.heap.size) := by have := hg3.size; simp at this; show _ < _; omega
  have HP3 := Lib.hid ((hg3.block W0.heap.size (by have := lt_of_block HP2.out; simp; omega) (fun e => nomatch e)).trans ((heap_alloc_old _ _ (lt_of_block HP2.out)).trans HP2.out))
  clear ho3 hg3 hf3 e1
  have s3 : w3.cell? ⟨r, 0, none⟩ = some (.slice (some ⟨G, 0, none⟩) 1 c) := HF3.out.rst.cellAt 0 (by simp)
  have hc1 : (1 : Int) ≤ c := by have := HC.out; omega
  have hcn : ¬ c = 1 := by have := HC.out; omega
  have z3 : w3.frozen? ⟨r, 0, none⟩ = false := HF3.out.rst.frozenAt 0
  have e3 := cell_of_row w3 _ 1 _ _ _ HP3.out
  simp only [List.getElem?_toArray, List.getElem?_cons_zero, List.getElem?_cons_succ] at e3
  have hr0 : r < W0.heap.size := Go.block_lt_of_cell s0
  have hnr : ¬ W0.heap.size = r := by omega
  have hnr2 : ¬ r = W0.heap.size := by omega
  clear hr0
  go_wp2_with fail
  have hst := HF3.out.rst.stored 0 (.slice (some ⟨G, 2, none⟩) 0 (c - 1))
  have hf4 := HF3.out.rest (R' := .slice (some ⟨r, 0, none⟩) 1 1) (L' := [.slice (some ⟨G, 2, none⟩) 0 (c - 1)]) r rfl hst.2 hst.1
  have HF4 := Lib.hid hf4
  clear hst hf4 s3 z3 e3 HP1 HP2 HP3 HF0 HF1 HF2 HF3
  refine (HL2.out _ HF4.out.bel).mono ?_
  rintro e w5 ⟨rfl, hb5⟩
  have HF5 := Lib.hid (HF4.out.keep hb5)
  clear hb5 HF4
  go_wp2_with (at_builtin; have hf6 := HF5.out.keep ((Below.refl _ _).alloc (Nat.le_refl _) (.cells #[.slice (some ⟨G, 2, none⟩) 1 (c - 1)] 22)); refine wpList_append_own _ rfl _ _ 67 rfl w.heap.size 22 i2 (.slice none 0 0) 1 24 Try.underlying67 hi2 hx0 hx1 hx2 rfl (by decide) _ 1 _ rfl hf6.rst ⟨w5.heap.size, 0, none⟩ 1 1 [.slice (some ⟨G, 2, none⟩) 1 (c - 1)] rfl rfl ?d1 ?d2 ?d3 ?d4 ?d5 ?_)
  case d1 =>
    intro j u hj
    have hrow := heap_alloc_new w5 (.cells #[.slice (some ⟨G, 2, none⟩) 1 (c - 1)] 22)
    have e : (Addr.mk w5.heap.size 0 none).add j = ⟨w5.heap.size, j, none⟩ := by cases j <;> simp [Addr.add]
    rw [e, cell_of_row _ _ _ _ _ _ hrow, ← hj]
    simp
  case d2 => intro u hu; simp at hu; rcases hu with rfl; rfl
  case d3 => decide
  case d4 => decide
  case d5 => have := hf6.bel.size; exact this
  intro v7 w7 ho7 hg7 _
  obtain ⟨r7, c7, rfl, hc7, hm7, _⟩ := own_some ho7 (by omega)
  have hf7 := hf6.rest (R' := .slice (some ⟨r7, 0, none⟩) (1 + 1) c7) (L' := [.slice (some ⟨G, 2, none⟩) 0 (c - 1), .slice (some ⟨G, 2, none⟩) 1 (c - 1)]) r rfl hg7 ho7
  have HF7 := Lib.hid hf7
  have s7 : w7.cell? ⟨r7, 1, none⟩ = some (.slice (some ⟨G, 2, none⟩) 1 (c - 1)) := HF7.out.rst.cellAt 1 (by simp)
  have HS7 := Lib.hid s7
  clear hf6 hf7 ho7 hg7 HF5 s0 c0 c1 c2 c3 hnr hnr2
  obtain ⟨c0, c1, c2, c3⟩ := HF7.out.two
  go_wp2
  rw [rounds_succ]
  go_wp2
  have HF8 := Lib.hid (HF7.out.keep ((Below.refl _ _).alloc (Nat.le_refl _) (.cells #[.int .i64 2, .int .i64 3] 24)))
  have HP8 := Lib.hid (heap_alloc_new w7 (.cells #[.int .i64 2, .int .i64 3] 24))
  have HWB7 : Hid (w.heap.size < w7.heap.size) := by obtain ⟨es, clock, h1⟩ := HF7.out.set.blk; exact lt_of_block h1
  refine wp_loop_rounds 2 ?_
  rw [rounds_succ]
  go_wp2_with (first
    | (at_lookup; refine wpList_lookup_run _ rfl _ _ 51 rfl (.bool false) _ _ rfl rfl (set_no3 HF8.out.set) ?_)
    | (at_mapUpdate; refine wpList_mapUpdate_own _ rfl _ _ _ 51 rfl 3 4 (Maps.int_keyed Try.underlying3) Try.underlying51 (plainElem Try.prog 4) w.heap.size (0 + 1) D1 rfl HF8.out.set (by decide) _ _ (.int .i64 3) rfl rfl (Maps.keyOf_int_mk Try.underlying3 (by decide)) (.lit (.bool true)) [] (plainElem_bool Try.underlying4 true) ?_; intro w9 hs9 hg9; have HF9 := Lib.hid (HF8.out.put hg9 hs9); have hp9 := (hg9.block w7.heap.size (by simp) (fun e => by have h1 := HWB7.out; have h2 := Option.some.inj e; omega)).trans HP8.out; have HP9 := Lib.hid hp9; have e1 := cell_of_row w9 _ 1 _ _ _ hp9; simp only [List.getElem?_toArray, List.getElem?_cons_zero, List.getElem?_cons_succ] at e1; clear hs9 hg9 hp9)
    | (at_builtin; have hf10 := HF9.out.keep ((Below.refl _ _).alloc (Nat.le_refl _) (.cells #[.int .i64 3] 3)); refine wpList_append_own _ rfl _ _ 29 rfl w.heap.size 3 i1 (.int .i64 0) 1 8 Try.underlying29 hi1 hy0 hy1 hy2 rfl (by decide) _ 1 _ rfl hf10.fnd ⟨w9.heap.size, 0, none⟩ 1 1 [.int .i64 3] rfl rfl ?c1 ?c2 ?c3 ?c4 ?c5 ?_))
  case c1 =>
    intro j u hj
    have hrow := heap_alloc_new w9 (.cells #[.int .i64 3] 3)
    have e : (Addr.mk w9.heap.size 0 none).add j = ⟨w9.heap.size, j, none⟩ := by cases j <;> simp [Addr.add]
    rw [e, cell_of_row _ _ _ _ _ _ hrow, ← hj]
    simp
  case c2 => intro u hu; simp at hu; rcases hu with rfl; rfl
  case c3 => decide
  case c4 => decide
  case c5 => exact hf10.bel.size
  intro V w11 ho11 hg11 _
  obtain ⟨gV, cV, rfl, _, hmV, _⟩ := own_some ho11 (by omega)
  have HF11 := Lib.hid (hf10.found (V' := .slice (some ⟨gV, 0, none⟩) (1 + 1) cV) (xs' := [.int .i64 2, .int .i64 3]) hg11 ho11)
  have hgP : Hid (w11.heap[w7.heap.size]? = some (.cells #[.int .i64 2, .int .i64 3] 24 (0, 0))) := by
    refine (hg11.block _ (by have := lt_of_block HP9.out; simp; omega) (fun e => ?_)).trans ((heap_alloc_old _ _ (lt_of_block HP9.out)).trans HP9.out)
    obtain ⟨c2, e2⟩ := Prt.own_block hf10.fnd e.symm
    have e3 := (heap_alloc_old w9 (.cells #[.int .i64 3] 3) (lt_of_block HP9.out)).trans HP9.out
    rw [e3] at e2
    simp only [Option.some.injEq, Obj.cells.injEq] at e2
    exact absurd e2.2.1 (by decide)
  clear ho11 hg11 hf10 e1
  have s11 : w11.cell? ⟨r7, 1, none⟩ = some (.slice (some ⟨G, 2, none⟩) 1 (c - 1)) := HF11.out.rst.cellAt 1 (by simp)
  have hc1 : (1 : Int) ≤ c := by have := HC.out; omega
  have z11 : w11.frozen? ⟨r7, 1, none⟩ = false := HF11.out.rst.frozenAt 1
  have e11 := cell_of_row w11 _ 1 _ _ _ hgP.out
  simp only [List.getElem?_toArray, List.getElem?_cons_zero, List.getElem?_cons_succ] at e11
  have hr7 : r7 < w7.heap.size := Go.block_lt_of_cell s7
  have hnr : ¬ w7.heap.size = r7 := by omega
  have hnr2 : ¬ r7 = w7.heap.size := by omega
  clear hr7
  have hsl := HSL.out
  go_wp2_with fail
  have hst := HF11.out.rst.stored 1 (.slice A8 0 k8)
  have hf12 := HF11.out.rest (R' := .slice (some ⟨r7, 0, none⟩) (1 + 1) c7) (L' := [.slice (some ⟨G, 2, none⟩) 0 (c - 1), .slice A8 0 k8]) r7 rfl hst.2 hst.1
  have HF12 := Lib.hid hf12
  clear hst hf12 s11 z11 e11 hsl s7 HS7 HP8 HP9 HF7 HF8 HF9 HF11 hgP
  refine (HL3.out _ HF12.out.bel).mono ?_
  rintro e w13 ⟨⟨A9, k9, rfl⟩, hb13⟩
  have HF13 := Lib.hid (HF12.out.keep hb13)
  clear hb13 HF12
  go_wp2_with (at_builtin; have hf14 := HF13.out.keep ((Below.refl _ _).alloc (Nat.le_refl _) (.cells #[.slice A9 0 k9] 22)); refine wpList_append_own _ rfl _ _ 67 rfl w.heap.size 22 i2 (.slice none 0 0) 1 24 Try.underlying67 hi2 hx0 hx1 hx2 rfl (by decide) _ 2 _ rfl hf14.rst ⟨w13.heap.size, 0, none⟩ 1 1 [.slice A9 0 k9] rfl rfl ?d1 ?d2 ?d3 ?d4 ?d5 ?_)
  case d1 =>
    intro j u hj
    have hrow := heap_alloc_new w13 (.cells #[.slice A9 0 k9] 22)
    have e : (Addr.mk w13.heap.size 0 none).add j = ⟨w13.heap.size, j, none⟩ := by cases j <;> simp [Addr.add]
    rw [e, cell_of_row _ _ _ _ _ _ hrow, ← hj]
    simp
  case d2 => intro u hu; simp at hu; rcases hu with rfl; rfl
  case d3 => decide
  case d4 => decide
  case d5 => exact hf14.bel.size
  intro v15 w15 ho15 hg15 _
  obtain ⟨r15, c15, rfl, hc15, hm15, _⟩ := own_some ho15 (by omega)
  have hf15 := hf14.rest (R' := .slice (some ⟨r15, 0, none⟩) (2 + 1) c15) (L' := [.slice (some ⟨G, 2, none⟩) 0 (c - 1), .slice A8 0 k8, .slice A9 0 k9]) r7 rfl hg15 ho15
  have HF15 := Lib.hid hf15
  have s0 : w15.cell? ⟨r15, 0, none⟩ = some (.slice (some ⟨G, 2, none⟩) 0 (c - 1)) := HF15.out.rst.cellAt 0 (by simp)
  have s1 : w15.cell? ⟨r15, 1, none⟩ = some (.slice A8 0 k8) := HF15.out.rst.cellAt 1 (by simp)
  have s2 : w15.cell? ⟨r15, 2, none⟩ = some (.slice A9 0 k9) := HF15.out.rst.cellAt 2 (by simp)
  have q2 : (2 : Int) ≤ c15 := by omega
  have q1 : (1 : Int) ≤ c15 := by omega
  have q0 : (0 : Int) ≤ c15 := by omega
  clear hf14 hf15 ho15 hg15 HF13 c0 c1 c2 c3 hnr hnr2
  go_wp2
  rw [rounds_succ]
  go_wp2
  refine wp_loop_rounds 1 ?_
  rw [rounds_succ]
  go_wp2
  rw [rounds_succ]
  go_wp2
  refine wp_loop_rounds 1 ?_
  rw [rounds_succ]
  go_wp2
  rw [rounds_succ]
  go_wp2
  refine wp_loop_rounds 1 ?_
  rw [rounds_succ]
  go_wp2
  rw [rounds_succ]
  go_wp2_with fail
  have hso := sort_own gV cV w.heap.size [2, 3] w15 HF15.out.fnd (by decide)
  rw [sorted_two] at hso
  refine hso.mono ?_
  rintro e w17 ⟨rfl, ho17, hg17⟩
  have HO17 := Lib.hid ho17
  have HB17 : Hid (Below w.heap.size w w17) := HF15.out.bel.grown hg17 HF15.out.bel.size (fun k hk => by have h1 := (HF15.out.fnd.lt gV rfl).1; cases hk; exact h1)
  clear ho17 hg17 hso s0 s1 s2
  go_wp2
  rw [Exit.noGoto_ret]
  go_ret
  exact ⟨gV, cV, rfl, HO17.out, HB17.out⟩
set_option maxRecDepth 4000 in
theorem Reach_two (G : Nat) (w : World) (h : Two w G) :
    Calls Try.prog 15 #[.slice (some ⟨G, 0, none⟩) 2 2, .int .i64 1] w (TPost w) := by
  have HS := Lib.hid (sort_two G 2 w h (Nat.le_refl _))
  clear h
  go_enter Try.func15, Try.ntmps15
  go_wp2_with fail
  refine HS.out.mono ?_
  rintro e w1 ⟨g, c, rfl, hc, ht, hb⟩
  have HB := Lib.hid hb
  have HR := Lib.hid (reach_two g c w1 ht hc)
  clear hc ht hb
  go_wp2_with fail
  refine HR.out.mono ?_
  rintro e w2 ⟨g2, c2, rfl, ho, hb2⟩
  have HO := Lib.hid ho
  have HB2 := Lib.hid (HB.out.trans (hb2.mono HB.out.size))
  have HBS := Lib.hid HB.out.size
  clear ho hb2
  go_wp2
  go_ret
  exact ⟨g2, c2, rfl, Go.Proofs.Ytnngldkpkhabeaa.Act.row_base HO.out HBS.out, HB2.out⟩
set_option maxRecDepth 4000 in
theorem awake_any (w : World) : Calls Try.prog 6 #[] w fun e w' => e = .returned (.bool true) ∧ Below w.heap.size w w' := by
  have hrow := heap_alloc_new w (.cells #[.int .i64 1, .int .i64 2, .int .i64 2, .int .i64 3] 24)
  have HR := Lib.hid (Reach_two w.heap.size (w.alloc (.cells #[.int .i64 1, .int .i64 2, .int .i64 2, .int .i64 3] 24)) ⟨(cell_of_row _ _ _ _ _ _ hrow).trans rfl, (cell_of_row _ _ _ _ _ _ hrow).trans rfl, (cell_of_row _ _ _ _ _ _ hrow).trans rfl, (cell_of_row _ _ _ _ _ _ hrow).trans rfl⟩)
  have HB : Hid (Below w.heap.size w (w.alloc (.cells #[.int .i64 1, .int .i64 2, .int .i64 2, .int .i64 3] 24))) := (Below.refl _ _).alloc (Nat.le_refl _) _
  clear hrow
  go_enter Try.func6, Try.ntmps6
  go_wp2_with fail
  refine HR.out.mono ?_
  rintro e w2 ⟨g2, c2, rfl, ho, hb2⟩
  have HB2 := Lib.hid (HB.out.trans (hb2.mono HB.out.size))
  have s0 := ho.cellAt 0 (by omega)
  have s1 := ho.cellAt 1 (by omega)
  simp only [List.getElem?_cons_zero, List.getElem?_cons_succ] at s0 s1
  clear ho hb2
  go_wp2_with fail
  go_ret
  exact ⟨rfl, HB2.out⟩
end Go.Proofs.Ytnngldkpkhabeaa.Pai
