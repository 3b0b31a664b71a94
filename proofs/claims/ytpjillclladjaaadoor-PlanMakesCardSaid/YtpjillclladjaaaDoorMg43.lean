/- Windows: the rows' numbers and the word's. Plain arithmetic: it says nothing of the program. Windows: the gaps of a word are the rows that are nobody's. Plain arithmetic: it says nothing of the program. -/
import Derived.Test.YtpjillclladjaaaDoorMg42
import Derived.Test.YtpjillclladjaaaDoorMg40
import Derived.Test.YtpjillclladjaaaDoorMg16
namespace Go.Proofs.YtpjillclladjaaaDoor.Win

open Go.RowKit Go.PlainAid Go.Proofs.YtpjillclladjaaaDoor.Oct Go.Proofs.YtpjillclladjaaaDoor.Flt Go.Proofs.YtpjillclladjaaaDoor.Rdr Go.Proofs.YtpjillclladjaaaDoor.Args

open Go.Proofs.YtpjillclladjaaaDoor.Act (A3 actL flatA ActsAt I64 Wide)

set_option linter.unusedVariables false

set_option linter.unusedSimpArgs false

theorem word_cons (x : A3) (L : List A3) : wordL (x :: L) = List.replicate x.a.toNat x.s ++ wordL L := by simp [wordL]
theorem cnt_word (z : Int) : ∀ L : List A3, (∀ x ∈ L, 0 ≤ x.a) → ((cntZ z (wordL L) : Nat) : Int) = tickS z L
  | [], _ => by simp [wordL, cntZ, tickS]
  | x :: L, h => by
    have ih := cnt_word z L fun y hy => h y (List.mem_cons_of_mem _ hy)
    have hx := h x (by simp)
    unfold cntZ at ih ⊢
    rw [word_cons, List.countP_append, List.countP_replicate, tickS]
    by_cases e : x.s = z
    · rw [if_pos (by simp [e]), if_pos e]
      omega
    · rw [if_neg (by simp [e]), if_neg e]
      omega
theorem busy_cnt : ∀ L : List A3, (∀ x ∈ L, 0 ≤ x.a) → busyS L = ((wordL L).length : Int) - ((cntZ (-1) (wordL L) : Nat) : Int)
  | [], _ => by simp [wordL, cntZ, busyS]
  | x :: L, h => by
    have ih := busy_cnt L fun y hy => h y (List.mem_cons_of_mem _ hy)
    have hx := h x (by simp)
    unfold cntZ at ih ⊢
    rw [word_cons, List.countP_append, List.countP_replicate, List.length_append, List.length_replicate, busyS]
    by_cases e : x.s = -1
    · rw [if_pos e, if_pos (by simp [e])]
      omega
    · rw [if_neg e, if_neg (by simp [e])]
      omega
theorem rows_pos {cs : List Int} {fr : Int} {l : List A3} {m : Nat} (h : Cuts cs fr) (hm : cs.length = m + 1) : ∀ x ∈ rowsL fr l cs m, 0 < x.a := by
  intro x hx
  unfold rowsL at hx
  obtain ⟨q, hq, rfl⟩ := List.mem_map.1 hx
  have hqm : q < m := List.mem_range.1 hq
  have h1 : cut cs q < cut cs (q + 1) := by
    unfold cut
    rw [List.getElem?_eq_getElem (by omega), List.getElem?_eq_getElem (by omega)]
    exact rising_lt h.1 (Nat.lt_succ_self q) (by omega)
  show 0 < cut cs (q + 1) - cut cs q
  omega
/-- The rows, tick by tick, are whose each tick is. -/
theorem rows_word {cs : List Int} {fr : Int} {l : List A3} {m : Nat} (h : Cuts cs fr) (hm : cs.length = m + 1) (hf : ∀ x ∈ l, fW fr x ∈ cs) (ht : ∀ x ∈ l, tW fr x ∈ cs) : wordL (rowsL fr l cs m) = ticksL (ownT fr l) 0 fr.toNat := by
  have hfirst := cuts_first h
  have hlast := cuts_last h hm
  have hsame := seg_same (l := l) h hf ht
  rcases cs with _ | ⟨a, cs⟩
  · simp at hm
  · obtain rfl : a = 0 := by simpa using hfirst
    rw [word_ticks fr l cs 0 m hm h.1 hsame]
    have hl : (0 :: cs).getLast (by simp) = fr := by
      rw [List.getLast_eq_getElem]
      obtain ⟨h1, h2⟩ := List.getElem?_eq_some_iff.1 hlast
      rw [← h2]
      congr 1
      omega
    rw [hl, Int.sub_zero]
end Go.Proofs.YtpjillclladjaaaDoor.Win

namespace Go.Proofs.YtpjillclladjaaaDoor.Win

open Go.RowKit Go.PlainAid Go.Proofs.YtpjillclladjaaaDoor.Oct Go.Proofs.YtpjillclladjaaaDoor.Flt Go.Proofs.YtpjillclladjaaaDoor.Rdr Go.Proofs.YtpjillclladjaaaDoor.Args

open Go.Proofs.YtpjillclladjaaaDoor.Act (A3 actL flatA ActsAt I64 Wide)

set_option linter.unusedVariables false

set_option linter.unusedSimpArgs false

/-- A row of -1 that ends ahead of a place, n long. -/
def gapE (t n : Nat) : List A3 := if n = 0 then [] else [⟨-1, ((t - n : Nat) : Int), (n : Int)⟩]
/-- The rows of -1 in a word, from a place on, where n of them are ahead of it. -/
def gapG (t n : Nat) : List Int → List A3
  | [] => gapE t n
  | v :: W => if v = -1 then gapG (t + 1) (n + 1) W else gapE t n ++ gapG (t + 1) 0 W
theorem gap_run (W : List Int) : ∀ (a t n : Nat), gapG t n (List.replicate a (-1) ++ W) = gapG (t + a) (n + a) W
  | 0, t, n => by simp
  | a + 1, t, n => by
    rw [List.replicate_succ, List.cons_append, gapG, if_pos rfl, gap_run W a (t + 1) (n + 1)]
    rw [show t + 1 + a = t + (a + 1) by omega, show n + 1 + a = n + (a + 1) by omega]
theorem gap_skip {s : Int} (hs : s ≠ -1) (W : List Int) : ∀ (a t n : Nat), 0 < a → gapG t n (List.replicate a s ++ W) = gapE t n ++ gapG (t + a) 0 W
  | 0, _, _, h => absurd h (Nat.lt_irrefl 0)
  | a + 1, t, n, _ => by
    rw [List.replicate_succ, List.cons_append, gapG, if_neg hs]
    rcases Nat.eq_zero_or_pos a with rfl | hp
    · simp
    · rw [gap_skip hs W a (t + 1) 0 hp]
      rw [show t + 1 + a = t + (a + 1) by omega]
      simp [gapE]
/-- Rows, one behind the other, of which no two side by side are nobody's. -/
def RowsAt : Nat → List A3 → Prop
  | _, [] => True
  | t, x :: L => x.p = (t : Int) ∧ 0 < x.a ∧ (x.s = -1 → ∀ y, L.head? = some y → y.s ≠ -1) ∧ RowsAt (t + x.a.toNat) L
theorem gap_rows : ∀ (L : List A3) (t n : Nat), RowsAt t L → (n = 0 ∨ ∀ y, L.head? = some y → y.s ≠ -1) → gapG t n (wordL L) = gapE t n ++ L.filter (fun x => nobody x.s)
  | [], t, n, _, _ => by simp [wordL, gapG]
  | x :: L, t, n, h, hn => by
    obtain ⟨h1, h2, h3, h4⟩ := h
    rw [word_cons]
    by_cases hs : x.s = -1
    · obtain rfl : n = 0 := by
        rcases hn with hn | hn
        · exact hn
        · exact absurd hs (hn x rfl)
      rw [hs, gap_run, gap_rows L _ _ h4 (.inr (h3 hs))]
      have e1 : gapE (t + x.a.toNat) (0 + x.a.toNat) = [x] := by
        unfold gapE
        rw [if_neg (by omega)]
        obtain ⟨s, p, a⟩ := x
        dsimp only at hs h1 h2 ⊢
        rw [hs, h1, show t + a.toNat - (0 + a.toNat) = t by omega, show ((0 + a.toNat : Nat) : Int) = a by omega]
      rw [e1, List.filter_cons_of_pos (by unfold nobody; simp [hs])]
      simp [gapE]
    · rw [gap_skip hs _ _ _ _ (by omega), gap_rows L _ 0 h4 (.inl rfl)]
      rw [List.filter_cons_of_neg (by unfold nobody; simp [hs])]
      simp [gapE]
theorem cut_rise {cs : List Int} {fr : Int} {m : Nat} (h : Cuts cs fr) (hm : cs.length = m + 1) {q r : Nat} (hq : q < r) (hr : r ≤ m) : cut cs q < cut cs r := by
  unfold cut
  rw [List.getElem?_eq_getElem (by omega), List.getElem?_eq_getElem (by omega)]
  exact rising_lt h.1 hq (by omega)
theorem cut_at_end {cs : List Int} {fr : Int} {m : Nat} (h : Cuts cs fr) (hm : cs.length = m + 1) : cut cs m = fr := by
  unfold cut
  rw [cuts_last h hm]; rfl
/-- Of two rows side by side one is somebody's. -/
theorem no_two {fr : Nat} {l : List A3} {m : Nat} (hn : ∀ x ∈ l, Num x) (hs : ∀ x ∈ l, x.s ≠ -1) (hm : (cutsOf (fr : Int) l).length = m + 1) {q : Nat} (hq : q + 1 < m)
    (h1 : ownT (fr : Int) l (cut (cutsOf (fr : Int) l) q) = -1) (h2 : ownT (fr : Int) l (cut (cutsOf (fr : Int) l) (q + 1)) = -1) : False := by
  have hc := cutsOf_cuts (fr : Int) l (by omega) hn
  have hf : ∀ x ∈ l, fW (fr : Int) x ∈ cutsOf fr l := fun x hx => (cutsOf_mem _ _ _).2 (.inr (.inr ⟨x, hx, .inl rfl⟩))
  have ht : ∀ x ∈ l, tW (fr : Int) x ∈ cutsOf fr l := fun x hx => (cutsOf_mem _ _ _).2 (.inr (.inr ⟨x, hx, .inr rfl⟩))
  have l1 := cut_rise hc hm (show q < q + 1 by omega) (by omega)
  have l2 := cut_rise hc hm hq (Nat.le_refl _)
  rw [cut_at_end hc hm] at l2
  have l0 := (cut_in hc hm (show q ≤ m by omega)).1
  have e0 : (cutsOf (fr : Int) l)[q]? = some (cut (cutsOf fr l) q) := by unfold cut; rw [List.getElem?_eq_getElem (by omega)]; rfl
  have e1 : (cutsOf (fr : Int) l)[q + 1]? = some (cut (cutsOf fr l) (q + 1)) := by unfold cut; rw [List.getElem?_eq_getElem (by omega)]; rfl
  have hsame := seg_same hc hf ht q _ _ e0 e1
  have hmem := List.mem_of_getElem? e1
  generalize cut (cutsOf (fr : Int) l) q = u at *
  generalize cut (cutsOf (fr : Int) l) (q + 1) = v at *
  have cov : ∀ t x, x ∈ l → hasB fr x t = true → ownT fr l t ≠ -1 := fun t x hx hb e => by
    have h := (own_cov l hs).1 e
    unfold covB at h
    rw [List.any_eq_false] at h
    exact h x hx hb
  rcases (cutsOf_mem _ _ _).1 hmem with rfl | rfl | ⟨x, hx, e | e⟩
  · omega
  · omega
  · refine cov v x hx ?_ h2
    obtain ⟨a1, a2, a3, a4⟩ := hn x hx
    unfold hasB
    unfold fW at e
    unfold fW tW
    split at e
    · omega
    · rename_i g1
      split at e
      · omega
      · rename_i g2
        rw [if_neg g1, if_neg g2, if_neg g1, if_neg g2]
        split
        · simp; omega
        · simp; omega
  · refine cov (v - 1) x hx ?_ (by rw [hsame (v - 1) (by omega) (by omega)]; exact h1)
    obtain ⟨a1, a2, a3, a4⟩ := hn x hx
    unfold hasB
    rw [← e]
    unfold tW at e
    unfold fW
    split at e
    · omega
    · rename_i g1
      split at e
      · omega
      · rename_i g2
        rw [if_neg g1, if_neg g2]
        split at e
        · simp; omega
        · simp; omega
theorem rows_at {fr : Nat} {l : List A3} {m : Nat} (hn : ∀ x ∈ l, Num x) (hs : ∀ x ∈ l, x.s ≠ -1) (hm : (cutsOf (fr : Int) l).length = m + 1) :
    ∀ (j q : Nat), q + j = m → RowsAt (cut (cutsOf (fr : Int) l) q).toNat ((rowsL fr l (cutsOf fr l) m).drop q)
  | 0, q, h => by
    rw [List.drop_of_length_le (by rw [rowsL_len]; omega)]
    trivial
  | j + 1, q, h => by
    have hc := cutsOf_cuts (fr : Int) l (by omega) hn
    have ih := rows_at hn hs hm j (q + 1) (by omega)
    have hq : q < m := by omega
    have hg := rowsL_get (fr : Int) l (cutsOf fr l) hq
    have hlt := cut_rise hc hm (show q < q + 1 by omega) (by omega)
    have h0 := (cut_in hc hm (show q ≤ m by omega)).1
    have e : (rowsL fr l (cutsOf fr l) m).drop q = ⟨ownT fr l (cut (cutsOf fr l) q), cut (cutsOf fr l) q, cut (cutsOf fr l) (q + 1) - cut (cutsOf fr l) q⟩ :: (rowsL fr l (cutsOf fr l) m).drop (q + 1) := by
      rw [List.drop_eq_getElem_cons (by rw [rowsL_len]; exact hq)]
      congr 1
      exact (List.getElem?_eq_some_iff.1 hg).2
    rw [e]
    refine ⟨by dsimp only; omega, by dsimp only; omega, fun h1 y hy => ?_, ?_⟩
    · dsimp only at h1
      rw [List.head?_drop] at hy
      rcases Nat.lt_or_ge (q + 1) m with h2 | h2
      · rw [rowsL_get _ _ _ h2] at hy
        obtain rfl := Option.some.inj hy
        exact fun h3 => no_two hn hs hm h2 h1 h3
      · rw [List.getElem?_eq_none (by rw [rowsL_len]; exact h2)] at hy
        cases hy
    · dsimp only
      rw [show (cut (cutsOf (fr : Int) l) q).toNat + (cut (cutsOf (fr : Int) l) (q + 1) - cut (cutsOf fr l) q).toNat = (cut (cutsOf (fr : Int) l) (q + 1)).toNat by omega]
      exact ih
/-- The gaps of a schedule's word are its rows that are nobody's. -/
theorem gaps_rows {fr : Nat} {l : List A3} {m : Nat} (hn : ∀ x ∈ l, Num x) (hs : ∀ x ∈ l, x.s ≠ -1) (hm : (cutsOf (fr : Int) l).length = m + 1) :
    gapG 0 0 (ticksL (ownT (fr : Int) l) 0 fr) = (rowsL fr l (cutsOf fr l) m).filter (fun x => nobody x.s) := by
  have hc := cutsOf_cuts (fr : Int) l (by omega) hn
  have hf : ∀ x ∈ l, fW (fr : Int) x ∈ cutsOf fr l := fun x hx => (cutsOf_mem _ _ _).2 (.inr (.inr ⟨x, hx, .inl rfl⟩))
  have ht : ∀ x ∈ l, tW (fr : Int) x ∈ cutsOf fr l := fun x hx => (cutsOf_mem _ _ _).2 (.inr (.inr ⟨x, hx, .inr rfl⟩))
  have hw := rows_word hc hm hf ht
  rw [show ((fr : Int)).toNat = fr from rfl] at hw
  rw [← hw]
  have h0 := rows_at hn hs hm m 0 (by omega)
  have e : cut (cutsOf (fr : Int) l) 0 = 0 := by unfold cut; rw [cuts_first hc]; rfl
  rw [e, List.drop_zero] at h0
  rw [gap_rows _ 0 0 h0 (.inl rfl)]
  simp [gapE]
end Go.Proofs.YtpjillclladjaaaDoor.Win
