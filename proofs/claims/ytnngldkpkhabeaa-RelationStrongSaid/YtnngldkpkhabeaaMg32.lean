/- Pairs: sorted, each once (slices.SortFunc, package pairs' Sort). Condition: at most a million pairs. -/
import Derived.Test.YtnngldkpkhabeaaMg17
import Derived.Test.YtnngldkpkhabeaaMg31
namespace Go.Proofs.Ytnngldkpkhabeaa.Pai

open Go.RowKit Go.PlainAid Go.Proofs.Ytnngldkpkhabeaa.Oct Go.Proofs.Ytnngldkpkhabeaa.Flt Go.Proofs.Ytnngldkpkhabeaa.Rdr Go.Proofs.Ytnngldkpkhabeaa.Args

open Go.Proofs.Ytnngldkpkhabeaa.Cel (two_below own_slice)

open Go.Sort (grow putRow putCells Holds)

open Go.Shelf Go.Lib Go.Sort

set_option linter.unusedVariables false

set_option linter.unusedSimpArgs false

instance : Inhabited P2 := ⟨⟨0, 0⟩⟩
theorem flatP_eqK (l : List P2) : flatK pairL 2 l.toArray = (flatP l).toArray := by
  apply Array.ext
  · simp [flatP_len]
  · intro t h1 h2
    have ht : t < l.length * 2 := by simpa using h1
    have hx : l[t / 2]? = some l[t / 2] := List.getElem?_eq_getElem (by omega)
    have hg := flatP_get l (t / 2) _ (t % 2) hx (by omega)
    rw [show t / 2 * 2 + t % 2 = t by omega] at hg
    have e1 := get_flatK pairL 2 l.toArray t (by simpa using ht)
    rw [getElem!_pos _ t h1] at e1
    rw [e1]
    have e2 : (l.toArray)[t / 2]! = l[t / 2] := by rw [getElem!_pos _ _ (by simp; omega)]; simp
    rw [e2]
    have e3 : (pairL l[t / 2])[t % 2]? = some ((flatP l)[t]'(by simpa using h2)) := by rw [← hg, List.getElem?_eq_getElem]
    have e4 : (pairL l[t / 2])[t % 2]! = (flatP l)[t]'(by simpa using h2) := by simp [List.getElem!_eq_getElem?_getD, e3]
    rw [e4]
    simp
theorem ltP_cmp (x y : P2) : ltOf cmpP x y = lessB x y := by
  rw [← cmp_less]; rfl
theorem lessB_not (x y : P2) : lessB x y = false ↔ ¬ Lt x y := by rw [← lt_iff]; simp
theorem swoP : SWO (ltOf cmpP) where
  irrefl x := by rw [ltP_cmp, lessB_not]; exact lt_no x
  trans x y z h1 h2 := by rw [ltP_cmp, lt_iff] at *; exact lt_trans h1 h2
  ntrans x y z h1 h2 := by rw [ltP_cmp, lessB_not] at *; unfold Lt at *; omega
theorem totalP (x y : P2) (h1 : ltOf cmpP x y = false) (h2 : ltOf cmpP y x = false) : x = y := by
  rw [ltP_cmp, lessB_not] at h1 h2
  rcases lt_tri x y with h | h | h
  · exact absurd h h1
  · exact h
  · exact absurd h h2
def msP (l : List P2) : List P2 := l.mergeSort fun x y => !ltOf cmpP y x
theorem ms_len (l : List P2) : (msP l).length = l.length := List.length_mergeSort l
theorem ms_mem (l : List P2) (x : P2) : x ∈ msP l ↔ x ∈ l := List.mem_mergeSort
theorem ms_pair (l : List P2) : (msP l).Pairwise (fun x y => ¬ Lt y x) := by
  have := List.pairwise_mergeSort (le := fun x y : P2 => !ltOf cmpP y x) (fun a b c h1 h2 => by
    simp only [ltP_cmp, Bool.not_eq_true', lessB_not] at *
    unfold Lt at *; omega) (fun a b => by
    simp only [ltP_cmp]
    cases h : lessB b a with
    | false => simp
    | true =>
      have h1 := (lt_iff _ _).1 h
      have h2 : lessB a b = false := (lessB_not _ _).2 (by unfold Lt at *; omega)
      simp [h2]) l
  exact this.imp fun {a b} h => by
    simp only [ltP_cmp, Bool.not_eq_true', lessB_not] at h
    exact h
theorem sortfP_any (g c B : Nat) (l : List P2) (w : World) (h : w.ownsRow B 24 2 (.slice (some ⟨g, 0, none⟩) l.length c) l.length (flatP l)) (hl : l.length ≤ 1099511627776) :
    Calls Try.prog 31 #[.slice (some ⟨g, 0, none⟩) l.length c, cmpV] w fun e w' => e = .returned (.tuple #[]) ∧ w'.ownsRow B 24 2 (.slice (some ⟨g, 0, none⟩) l.length c) l.length (flatP (msP l)) ∧ w.grownBy w' (some g) := by
  have hH : HoldsK pairL 2 w g 0 l.toArray := by
    rcases h.2 with ⟨h0, _⟩ | ⟨g', cap', cur, e', hb, hg, h1, h2, h3, h4⟩
    · cases h0
    · cases e'
      unfold HoldsK
      rw [flatP_eqK]
      exact holdsP_vals hg (by rw [flatP_len]; exact h4)
  have hgl : g < w.heap.size := (h.lt g rfl).2
  have eg : ∀ args w, (callFunc 32 args).run Try.prog w = .ok (.enter 32 args) w := enters_of Try.func32 (by kernel_rfl) rfl
  have hcon := AnyQ.slices_SortFunc_total Try.sortPair 2 Try.isAgg24 Try.sizeOf24 pairL (fun _ => rfl) (fun x v hv => flatP_one [x] v (by simpa [flatP] using hv)) cmpP swoP 32 #[] g 0 c l.toArray w eg (fun _ _ _ _ x y => compareS_any x y _) hH hgl (by simp; omega) totalP
  have e0 : (List.mergeSort l.toArray.toList fun x y => !ltOf cmpP y x) = msP l := by rw [List.toList_toArray]; rfl
  rw [e0] at hcon
  refine hcon.mono ?_
  rintro e w' ⟨rfl, n, os, rfl⟩
  unfold sortWorldK putRowK
  rw [flatP_eqK]
  exact ⟨rfl, ownP_vals h (by rw [flatP_len, flatP_len, ms_len]), grownP_vals _⟩
end Go.Proofs.Ytnngldkpkhabeaa.Pai

namespace Go.Proofs.Ytnngldkpkhabeaa.Pai

open Go.RowKit Go.PlainAid

open Go.Proofs.Ytnngldkpkhabeaa.Cel (two_below own_slice)

set_option linter.unusedVariables false

set_option linter.unusedSimpArgs false

/-- Pairs in their order, each once: a row of the call's own, or nil. -/
def SoPost (L : List P2) (w : World) (e : Ending) (w' : World) : Prop :=
  ∃ C A n c, Ord L C ∧ e = .returned (.slice A n c) ∧ OwnP w.heap.size A n c C w' ∧ Below w.heap.size w w'
theorem psort_any (A : Option Addr) (cap n : Nat) (L : List P2) (w : World) (hx : PairsAt w A L) (hnil : A = none → cap = 0) (hlc : n ≤ cap) (hn : L.length = n) (hl : n ≤ 1000000) :
    Calls Try.prog 10 #[.slice A n cap] w (SoPost L w) := by
  have HC := Lib.hid (clone2_any A cap L w hx hnil (by omega) (by omega))
  have HL : Hid (L.length ≤ 1000000) := by show _ ≤ _; omega
  have HN := Lib.hid hn
  have HOR : Hid (Ord L (compP (msP L))) := compP_ord (ms_pair L) (ms_mem L)
  rw [hn] at HC
  unfold CRPost at HC
  rw [hn] at HC
  clear hx hnil hlc hl hn
  go_enter Try.func10, Try.ntmps10
  go_wp2_with fail
  refine HC.out.mono ?_
  rintro e w1 ⟨V, rfl, ho, hb⟩
  obtain ⟨A1, c1, rfl⟩ := own_slice ho
  have HB := Lib.hid hb
  rcases own_rowP ho HN.out with ⟨rfl, hn0, rfl⟩ | ⟨g, tl, rfl, hg, hnc, hcm, hrow⟩
  · have hL0 : L = [] := List.eq_nil_of_length_eq_zero (by have := HN.out; omega)
    have HL0 := Lib.hid hL0
    have HS := Lib.hid (AnyF.slices_SortFunc_none Try.sortPair none 0 cmpV w1)
    unfold cmpV at HS
    subst hn0
    clear ho hb hL0
    go_wp2_with fail
    refine HS.out.mono ?_
    rintro e w2 ⟨rfl, rfl⟩
    go_wp2_with fail
    refine (compactP_nil _).mono ?_
    rintro e w3 ⟨rfl, rfl⟩
    go_wp2
    go_ret
    exact ⟨[], none, 0, 0, by rw [HL0.out]; exact ⟨List.Pairwise.nil, fun x => Iff.rfl⟩, rfl, ⟨rfl, Nat.le_refl _, Nat.zero_le _, .inl ⟨rfl, rfl, rfl⟩⟩, HB.out⟩
  · have ho' := ho
    rw [← HN.out] at ho'
    have HS := Lib.hid (sortfP_any g c1 w.heap.size L w1 ho' (by have := HL.out; omega))
    rw [HN.out] at HS
    unfold cmpV at HS
    have HG : Hid (w.heap.size ≤ g ∧ n ≤ c1 ∧ c1 ≤ maxLen) := ⟨hg, hnc, hcm⟩
    clear ho ho' hb hg hnc hcm hrow
    go_wp2_with fail
    refine HS.out.mono ?_
    rintro e w2 ⟨rfl, ho2, hg2⟩
    have hb2 := HB.out.grown hg2 HB.out.size (fun j hj => by cases hj; exact HG.out.1)
    rcases own_rowP ho2 (by rw [ms_len]; exact HN.out) with ⟨h0, _⟩ | ⟨g', tl', e', _, _, _, hrow2⟩
    · cases h0
    · obtain rfl : g = g' := by cases e'; rfl
      have HK := Lib.hid (compactP_own (msP L) g _ c1 tl' w2 hrow2 (by rw [ms_len]; exact HN.out) HG.out.2.1 (by have := HN.out; have := HL.out; omega))
      have HB2 := Lib.hid hb2
      clear ho2 hg2 hb2 hrow2 HS e'
      go_wp2_with fail
      refine HK.out.mono ?_
      rintro e w3 ⟨rfl, ⟨tl3, hr3⟩, ht3⟩
      have HR3 := Lib.hid hr3
      have HB3 := Lib.hid (Cel.Two.below HB2.out ht3 HB2.out.size HG.out.1 (fun _ h => by cases h))
      clear hr3 ht3 HK
      go_wp2
      go_ret
      have hlen : (compP (msP L)).length ≤ c1 := Nat.le_trans (compP_len _) (by rw [ms_len]; have := HN.out; have := HG.out.2.1; omega)
      exact ⟨compP (msP L), some ⟨g, 0, none⟩, (compP (msP L)).length, c1, HOR.out, rfl, ⟨rfl, hlen, HG.out.2.2, .inr ⟨g, tl3, rfl, HG.out.1, HR3.out⟩⟩, HB3.out⟩
end Go.Proofs.Ytnngldkpkhabeaa.Pai
