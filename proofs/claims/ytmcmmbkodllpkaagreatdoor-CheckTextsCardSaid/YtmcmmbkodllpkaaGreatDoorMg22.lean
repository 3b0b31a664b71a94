/- Windows that are right: whose their ticks are, and how many. Plain arithmetic: it says nothing of the program. Windows: the rows' numbers and the word's. Plain arithmetic: it says nothing of the program. Windows: the gaps of a word are the rows that are nobody's. Plain arithmetic: it says nothing of the program. -/
import Derived.Test.YtmcmmbkodllpkaaGreatDoorMg17
import Derived.Test.YtmcmmbkodllpkaaGreatDoorMg21
import Derived.Test.YtmcmmbkodllpkaaGreatDoorMg20
import Derived.Test.YtmcmmbkodllpkaaGreatDoorMg18
namespace Go.Proofs.YtmcmmbkodllpkaaGreatDoor.Win

open Go.RowKit Go.PlainAid Go.Proofs.YtmcmmbkodllpkaaGreatDoor.Oct Go.Proofs.YtmcmmbkodllpkaaGreatDoor.Flt Go.Proofs.YtmcmmbkodllpkaaGreatDoor.Rdr Go.Proofs.YtmcmmbkodllpkaaGreatDoor.Args

open Go.Proofs.YtmcmmbkodllpkaaGreatDoor.Act (A3 actL flatA ActsAt I64 Wide)

set_option linter.unusedVariables false

set_option linter.unusedSimpArgs false

/-- Windows of a frame, one behind the other, from a place on. -/
def Chain (fr : Int) : Int → List A3 → Prop
  | _, [] => True
  | s, x :: l => (s ≤ x.p ∧ 0 ≤ x.p ∧ 1 ≤ x.a ∧ x.p + x.a ≤ fr) ∧ Chain fr (x.p + x.a) l
theorem bad_chain {ids : List Int} {fr : Int} {ah x : A3} (h : bad1W ids fr ah x = 0) : ah.p + ah.a ≤ x.p ∧ 0 ≤ x.p ∧ 1 ≤ x.a ∧ x.p + x.a ≤ fr := by
  unfold bad1W at h
  split at h
  · omega
  · split at h
    · omega
    · rename_i h2
      split at h
      · omega
      · split at h
        · omega
        · have h2 : okW fr x = true := by simpa using h2
          unfold okW at h2
          split at h2
          · cases h2
          · split at h2
            · cases h2
            · split at h2
              · cases h2
              · simp at h2; omega
theorem chain_of (ids : List Int) (fr : Int) : ∀ (l : List A3) (ah : A3) (i : Nat), (chkW ids fr ah i l).1 = 0 → Chain fr (ah.p + ah.a) l
  | [], _, _, _ => trivial
  | x :: l, ah, i, h => by
    rw [chkW] at h
    split at h
    · rename_i h1
      exact ⟨bad_chain h1, chain_of ids fr l x (i + 1) h⟩
    · rename_i h1
      exact absurd h h1
theorem has_right {fr : Int} {x : A3} (h1 : 1 ≤ x.a) (h2 : x.p + x.a ≤ fr) (t : Int) : hasB fr x t = (decide (x.p ≤ t) && decide (t < x.p + x.a)) := by
  unfold hasB fW tW
  rw [if_neg (by omega), if_neg (by omega), if_neg (by omega), if_neg (by omega), if_neg (by omega)]
theorem chain_before {fr : Int} {t : Int} : ∀ (l : List A3) (s : Int), Chain fr s l → t < s → covB fr l t = false
  | [], _, _, _ => rfl
  | x :: l, s, h, ht => by
    obtain ⟨⟨h1, h2, h3, h4⟩, h5⟩ := h
    have ih := chain_before l _ h5 (by omega : t < x.p + x.a)
    have e : covB fr (x :: l) t = (hasB fr x t || covB fr l t) := rfl
    rw [e, ih, has_right h3 h4, decide_eq_false (by omega)]; rfl
theorem chain_ge {fr : Int} : ∀ (l : List A3) (s : Int) (k : Nat) (x : A3), Chain fr s l → l[k]? = some x → s ≤ x.p ∧ 0 ≤ x.p ∧ 1 ≤ x.a ∧ x.p + x.a ≤ fr
  | [], _, _, _, _, h => by simp at h
  | y :: l, s, 0, x, hc, h => by
    obtain rfl : y = x := by simpa using h
    exact hc.1
  | y :: l, s, k + 1, x, hc, h => by
    have ih := chain_ge l _ k x hc.2 (by simpa using h)
    have := hc.1
    exact ⟨by omega, ih.2⟩
theorem own_right {fr t : Int} : ∀ (l : List A3) (s : Int) (k : Nat) (x : A3), Chain fr s l → l[k]? = some x → x.p ≤ t → t < x.p + x.a → ownT fr l t = x.s
  | [], _, _, _, _, h, _, _ => by simp at h
  | y :: l, s, 0, x, hc, h, h1, h2 => by
    obtain rfl : y = x := by simpa using h
    rw [ownT, has_right hc.1.2.2.1 hc.1.2.2.2, decide_eq_true h1, decide_eq_true h2]; rfl
  | y :: l, s, k + 1, x, hc, h, h1, h2 => by
    have hx : l[k]? = some x := by simpa using h
    have hg := chain_ge l _ k x hc.2 hx
    rw [ownT, has_right hc.1.2.2.1 hc.1.2.2.2, decide_eq_false (show ¬ t < y.p + y.a by omega), Bool.and_false]
    exact own_right l _ k x hc.2 hx h1 h2
theorem chain_next {fr : Int} : ∀ (l : List A3) (s : Int) (k : Nat) (x y : A3), Chain fr s l → l[k]? = some x → l[k + 1]? = some y → x.p + x.a ≤ y.p
  | [], _, _, _, _, _, h, _ => by simp at h
  | z :: l, s, 0, x, y, hc, h, h2 => by
    obtain rfl : z = x := by simpa using h
    exact (chain_ge l _ 0 y hc.2 (by simpa using h2)).1
  | z :: l, s, k + 1, x, y, hc, h, h2 => chain_next l _ k x y hc.2 (by simpa using h) (by simpa using h2)
def sumA : List A3 → Int
  | [] => 0
  | x :: l => x.a + sumA l
theorem sumA_snoc (x : A3) : ∀ l : List A3, sumA (l ++ [x]) = sumA l + x.a
  | [] => by simp [sumA]
  | y :: l => by simp only [List.cons_append, sumA, sumA_snoc x l]; omega
theorem sumA_in {fr : Int} : ∀ (l : List A3) (s : Int), Chain fr s l → s ≤ fr → 0 ≤ sumA l ∧ sumA l ≤ fr - s
  | [], _, _, h => by simp [sumA]; exact h
  | x :: l, s, h, hs => by
    have ih := sumA_in l _ h.2 h.1.2.2.2
    have := h.1
    rw [sumA]
    omega
theorem chain_take {fr : Int} : ∀ (l : List A3) (s : Int) (k : Nat), Chain fr s l → Chain fr s (l.take k)
  | _, _, 0, _ => trivial
  | [], _, _ + 1, _ => trivial
  | x :: l, s, k + 1, h => ⟨h.1, chain_take l _ k h.2⟩
theorem tick_chain (g : Int → Int) (fr : Int) : ∀ (l : List A3) (s : Int), Chain fr s l → s ≤ fr → (∀ t, s ≤ t → t < fr → g t = if covB fr l t = true then 1 else 0) → tickSum g s (fr - s).toNat = sumA l
  | [], s, _, hs, hg => by
    rw [tick_const g s 0 _ (fun j hj => by rw [hg _ (by omega) (by omega)]; rfl)]
    simp [sumA]
  | x :: l, s, h, hs, hg => by
    obtain ⟨⟨h1, h2, h3, h4⟩, h5⟩ := h
    have hcov : ∀ t, covB fr (x :: l) t = (hasB fr x t || covB fr l t) := fun _ => rfl
    have ih := tick_chain g fr l (x.p + x.a) h5 h4 (fun t ht1 ht2 => by
      rw [hg t (by omega) ht2, hcov, has_right h3 h4, decide_eq_false (show ¬ t < x.p + x.a by omega), Bool.and_false, Bool.false_or])
    have e1 : (fr - s).toNat = (x.p - s).toNat + (x.a.toNat + (fr - (x.p + x.a)).toNat) := by omega
    rw [e1, tick_add, tick_add]
    have e2 : s + ((x.p - s).toNat : Int) = x.p := by omega
    have e3 : x.p + (x.a.toNat : Int) = x.p + x.a := by omega
    rw [e2, e3, ih]
    rw [tick_const g s 0 _ (fun j hj => by
      rw [hg _ (by omega) (by omega), hcov, has_right h3 h4, decide_eq_false (show ¬ x.p ≤ s + (j : Int) by omega), chain_before l _ h5 (by omega)]; rfl)]
    rw [tick_const g x.p 1 _ (fun j hj => by
      rw [hg _ (by omega) (by omega), hcov, has_right h3 h4, decide_eq_true (show x.p ≤ x.p + (j : Int) by omega), decide_eq_true (show x.p + (j : Int) < x.p + x.a by omega)]; rfl)]
    rw [sumA]
    omega
theorem own_cov {fr t : Int} : ∀ l : List A3, (∀ x ∈ l, x.s ≠ -1) → (ownT fr l t = -1 ↔ covB fr l t = false)
  | [], _ => by simp [ownT, covB]
  | x :: l, h => by
    have hcov : covB fr (x :: l) t = (hasB fr x t || covB fr l t) := rfl
    rw [ownT, hcov]
    cases hb : hasB fr x t
    · simp only [Bool.false_eq_true, if_false, Bool.false_or]
      exact own_cov l fun y hy => h y (List.mem_cons_of_mem _ hy)
    · have := h x (by simp)
      simp [this]
theorem own_same {fr t u : Int} : ∀ l : List A3, (∀ x ∈ l, hasB fr x t = hasB fr x u) → ownT fr l t = ownT fr l u
  | [], _ => rfl
  | x :: l, h => by
    rw [ownT, ownT, h x (by simp), own_same l fun y hy => h y (List.mem_cons_of_mem _ hy)]
/-- What somebody has of a tick. -/
def gOwn (fr : Int) (l : List A3) (t : Int) : Int := if ownT fr l t = -1 then 0 else 1
theorem cut_cons (a : Int) (l : List Int) (q : Nat) : cut (a :: l) (q + 1) = cut l q := by unfold cut; simp
theorem busy_seg (fr : Int) (l : List A3) : ∀ (cs : List Int) (m : Nat), cs.length = m + 1 → busyS (rowsL fr l cs m) = segSum (gOwn fr l) cs
  | [], _, h => by simp at h
  | [a], m, h => by
    obtain rfl : m = 0 := by simpa using h.symm
    simp [rowsL, busyS, segSum]
  | a :: b :: cs, m, h => by
    obtain ⟨n, rfl⟩ : ∃ n, m = n + 1 := ⟨m - 1, by simp at h; omega⟩
    have ih := busy_seg fr l (b :: cs) n (by simpa using h)
    have e : rowsL fr l (a :: b :: cs) (n + 1) = ⟨ownT fr l a, a, b - a⟩ :: rowsL fr l (b :: cs) n := by
      unfold rowsL
      rw [List.range_succ_eq_map, List.map_cons, List.map_map]
      congr 1
    rw [e, busyS, ih, segSum]
    dsimp only
    unfold gOwn
    split <;> simp
theorem seg_same {cs : List Int} {fr : Int} {l : List A3} (h : Cuts cs fr) (hf : ∀ x ∈ l, fW fr x ∈ cs) (ht : ∀ x ∈ l, tW fr x ∈ cs) (i : Nat) (u v : Int) (hu : cs[i]? = some u) (hv : cs[i + 1]? = some v) (t : Int) (h1 : u ≤ t) (h2 : t < v) : ownT fr l t = ownT fr l u := by
  have side : ∀ c, c ∈ cs → c ≤ u ∨ v ≤ c := fun c hc => by
    obtain ⟨j, hj, rfl⟩ := List.mem_iff_getElem.1 hc
    obtain ⟨hi1, hu'⟩ := List.getElem?_eq_some_iff.1 hu
    obtain ⟨hi2, hv'⟩ := List.getElem?_eq_some_iff.1 hv
    rcases Nat.lt_or_ge i j with hij | hij
    · right
      rcases Nat.lt_or_ge (i + 1) j with h3 | h3
      · have := rising_lt h.1 h3 hj
        omega
      · obtain rfl : j = i + 1 := by omega
        omega
    · left
      rcases Nat.lt_or_ge j i with h3 | h3
      · have := rising_lt h.1 h3 hi1
        omega
      · obtain rfl : j = i := by omega
        omega
  refine own_same l fun x hx => ?_
  unfold hasB
  rcases side _ (hf x hx) with a1 | a1
  · rw [decide_eq_true (show fW fr x ≤ t by omega), decide_eq_true a1]
    rcases side _ (ht x hx) with a2 | a2
    · rw [decide_eq_false (show ¬ t < tW fr x by omega), decide_eq_false (show ¬ u < tW fr x by omega)]
    · rw [decide_eq_true (show t < tW fr x by omega), decide_eq_true (show u < tW fr x by omega)]
  · rw [decide_eq_false (show ¬ fW fr x ≤ t by omega), decide_eq_false (show ¬ fW fr x ≤ u by omega)]; rfl
/-- Of right windows, the ticks that somebody has are their lengths, together. -/
theorem busy_sum {cs : List Int} {fr : Int} {l : List A3} {m : Nat} (h : Cuts cs fr) (hm : cs.length = m + 1) (hfr : 0 ≤ fr) (hf : ∀ x ∈ l, fW fr x ∈ cs) (ht : ∀ x ∈ l, tW fr x ∈ cs) (hc : Chain fr 0 l) (hs : ∀ x ∈ l, x.s ≠ -1) : busyS (rowsL fr l cs m) = sumA l := by
  rw [busy_seg fr l cs m hm]
  have hfirst := cuts_first h
  have hlast := cuts_last h hm
  have hsame := seg_same (l := l) h hf ht
  rcases cs with _ | ⟨a, cs⟩
  · simp at hm
  · obtain rfl : a = 0 := by simpa using hfirst
    have e := seg_tick (gOwn fr l) cs 0 h.1 (fun i u v hu hv t h1 h2 => by unfold gOwn; rw [hsame i u v hu hv t h1 h2])
    rw [e]
    have hl : (0 :: cs).getLast (by simp) = fr := by
      rw [List.getLast_eq_getElem]
      obtain ⟨h1, h2⟩ := List.getElem?_eq_some_iff.1 hlast
      rw [← h2]
      congr 1
      omega
    rw [hl]
    exact tick_chain (gOwn fr l) fr l 0 hc hfr (fun t _ _ => by
      unfold gOwn
      by_cases hv : covB fr l t = true
      · rw [if_pos hv, if_neg (fun h => by rw [(own_cov l hs).1 h] at hv; cases hv)]
      · rw [if_neg hv, if_pos ((own_cov l hs).2 (by simpa using hv))])
end Go.Proofs.YtmcmmbkodllpkaaGreatDoor.Win
namespace Go.Proofs.YtmcmmbkodllpkaaGreatDoor.Win

open Go.RowKit Go.PlainAid Go.Proofs.YtmcmmbkodllpkaaGreatDoor.Oct Go.Proofs.YtmcmmbkodllpkaaGreatDoor.Flt Go.Proofs.YtmcmmbkodllpkaaGreatDoor.Rdr Go.Proofs.YtmcmmbkodllpkaaGreatDoor.Args

open Go.Proofs.YtmcmmbkodllpkaaGreatDoor.Act (A3 actL flatA ActsAt I64 Wide)

set_option linter.unusedVariables false

set_option linter.unusedSimpArgs false

theorem word_cons (x : A3) (L : List A3) : wordL (x :: L) = List.replicate x.a.toNat x.s ++ wordL L := by simp [wordL]
theorem cnt_word (z : Int) : ∀ L : List A3, (∀ x ∈ L, 0 ≤ x.a) → ((cntZ z (wordL L) : Nat) : Int) = tickS z L
  | [], _ => by simp [wordL, cntZ, tickS]
  | x :: L, h => by
    have ih := cnt_word z L fun y hy => h y (List.mem_cons_of_mem _ hy)
    have hx := h x (by simp)
    unfold cntZ at ih ⊢
    rw [word_cons, List.countP_append, List.countP_replicate, tickS]
    by_cases e : x.s = z
    · rw [if_pos (by simp [e]), if_pos e]
      omega
    · rw [if_neg (by simp [e]), if_neg e]
      omega
theorem busy_cnt : ∀ L : List A3, (∀ x ∈ L, 0 ≤ x.a) → busyS L = ((wordL L).length : Int) - ((cntZ (-1) (wordL L) : Nat) : Int)
  | [], _ => by simp [wordL, cntZ, busyS]
  | x :: L, h => by
    have ih := busy_cnt L fun y hy => h y (List.mem_cons_of_mem _ hy)
    have hx := h x (by simp)
    unfold cntZ at ih ⊢
    rw [word_cons, List.countP_append, List.countP_replicate, List.length_append, List.length_replicate, busyS]
    by_cases e : x.s = -1
    · rw [if_pos e, if_pos (by simp [e])]
      omega
    · rw [if_neg e, if_neg (by simp [e])]
      omega
theorem rows_pos {cs : List Int} {fr : Int} {l : List A3} {m : Nat} (h : Cuts cs fr) (hm : cs.length = m + 1) : ∀ x ∈ rowsL fr l cs m, 0 < x.a := by
  intro x hx
  unfold rowsL at hx
  obtain ⟨q, hq, rfl⟩ := List.mem_map.1 hx
  have hqm : q < m := List.mem_range.1 hq
  have h1 : cut cs q < cut cs (q + 1) := by
    unfold cut
    rw [List.getElem?_eq_getElem (by omega), List.getElem?_eq_getElem (by omega)]
    exact rising_lt h.1 (Nat.lt_succ_self q) (by omega)
  show 0 < cut cs (q + 1) - cut cs q
  omega
/-- The rows, tick by tick, are whose each tick is. -/
theorem rows_word {cs : List Int} {fr : Int} {l : List A3} {m : Nat} (h : Cuts cs fr) (hm : cs.length = m + 1) (hf : ∀ x ∈ l, fW fr x ∈ cs) (ht : ∀ x ∈ l, tW fr x ∈ cs) : wordL (rowsL fr l cs m) = ticksL (ownT fr l) 0 fr.toNat := by
  have hfirst := cuts_first h
  have hlast := cuts_last h hm
  have hsame := seg_same (l := l) h hf ht
  rcases cs with _ | ⟨a, cs⟩
  · simp at hm
  · obtain rfl : a = 0 := by simpa using hfirst
    rw [word_ticks fr l cs 0 m hm h.1 hsame]
    have hl : (0 :: cs).getLast (by simp) = fr := by
      rw [List.getLast_eq_getElem]
      obtain ⟨h1, h2⟩ := List.getElem?_eq_some_iff.1 hlast
      rw [← h2]
      congr 1
      omega
    rw [hl, Int.sub_zero]
end Go.Proofs.YtmcmmbkodllpkaaGreatDoor.Win

namespace Go.Proofs.YtmcmmbkodllpkaaGreatDoor.Win

open Go.RowKit Go.PlainAid Go.Proofs.YtmcmmbkodllpkaaGreatDoor.Oct Go.Proofs.YtmcmmbkodllpkaaGreatDoor.Flt Go.Proofs.YtmcmmbkodllpkaaGreatDoor.Rdr Go.Proofs.YtmcmmbkodllpkaaGreatDoor.Args

open Go.Proofs.YtmcmmbkodllpkaaGreatDoor.Act (A3 actL flatA ActsAt I64 Wide)

set_option linter.unusedVariables false

set_option linter.unusedSimpArgs false

/-- A row of -1 that ends ahead of a place, n long. -/
def gapE (t n : Nat) : List A3 := if n = 0 then [] else [⟨-1, ((t - n : Nat) : Int), (n : Int)⟩]
/-- The rows of -1 in a word, from a place on, where n of them are ahead of it. -/
def gapG (t n : Nat) : List Int → List A3
  | [] => gapE t n
  | v :: W => if v = -1 then gapG (t + 1) (n + 1) W else gapE t n ++ gapG (t + 1) 0 W
theorem gap_run (W : List Int) : ∀ (a t n : Nat), gapG t n (List.replicate a (-1) ++ W) = gapG (t + a) (n + a) W
  | 0, t, n => by simp
  | a + 1, t, n => by
    rw [List.replicate_succ, List.cons_append, gapG, if_pos rfl, gap_run W a (t + 1) (n + 1)]
    rw [show t + 1 + a = t + (a + 1) by omega, show n + 1 + a = n + (a + 1) by omega]
theorem gap_skip {s : Int} (hs : s ≠ -1) (W : List Int) : ∀ (a t n : Nat), 0 < a → gapG t n (List.replicate a s ++ W) = gapE t n ++ gapG (t + a) 0 W
  | 0, _, _, h => absurd h (Nat.lt_irrefl 0)
  | a + 1, t, n, _ => by
    rw [List.replicate_succ, List.cons_append, gapG, if_neg hs]
    rcases Nat.eq_zero_or_pos a with rfl | hp
    · simp
    · rw [gap_skip hs W a (t + 1) 0 hp]
      rw [show t + 1 + a = t + (a + 1) by omega]
      simp [gapE]
/-- Rows, one behind the other, of which no two side by side are nobody's. -/
def RowsAt : Nat → List A3 → Prop
  | _, [] => True
  | t, x :: L => x.p = (t : Int) ∧ 0 < x.a ∧ (x.s = -1 → ∀ y, L.head? = some y → y.s ≠ -1) ∧ RowsAt (t + x.a.toNat) L
theorem gap_rows : ∀ (L : List A3) (t n : Nat), RowsAt t L → (n = 0 ∨ ∀ y, L.head? = some y → y.s ≠ -1) → gapG t n (wordL L) = gapE t n ++ L.filter (fun x => nobody x.s)
  | [], t, n, _, _ => by simp [wordL, gapG]
  | x :: L, t, n, h, hn => by
    obtain ⟨h1, h2, h3, h4⟩ := h
    rw [word_cons]
    by_cases hs : x.s = -1
    · obtain rfl : n = 0 := by
        rcases hn with hn | hn
        · exact hn
        · exact absurd hs (hn x rfl)
      rw [hs, gap_run, gap_rows L _ _ h4 (.inr (h3 hs))]
      have e1 : gapE (t + x.a.toNat) (0 + x.a.toNat) = [x] := by
        unfold gapE
        rw [if_neg (by omega)]
        obtain ⟨s, p, a⟩ := x
        dsimp only at hs h1 h2 ⊢
        rw [hs, h1, show t + a.toNat - (0 + a.toNat) = t by omega, show ((0 + a.toNat : Nat) : Int) = a by omega]
      rw [e1, List.filter_cons_of_pos (by unfold nobody; simp [hs])]
      simp [gapE]
    · rw [gap_skip hs _ _ _ _ (by omega), gap_rows L _ 0 h4 (.inl rfl)]
      rw [List.filter_cons_of_neg (by unfold nobody; simp [hs])]
      simp [gapE]
theorem cut_rise {cs : List Int} {fr : Int} {m : Nat} (h : Cuts cs fr) (hm : cs.length = m + 1) {q r : Nat} (hq : q < r) (hr : r ≤ m) : cut cs q < cut cs r := by
  unfold cut
  rw [List.getElem?_eq_getElem (by omega), List.getElem?_eq_getElem (by omega)]
  exact rising_lt h.1 hq (by omega)
theorem cut_at_end {cs : List Int} {fr : Int} {m : Nat} (h : Cuts cs fr) (hm : cs.length = m + 1) : cut cs m = fr := by
  unfold cut
  rw [cuts_last h hm]; rfl
/-- Of two rows side by side one is somebody's. -/
theorem no_two {fr : Nat} {l : List A3} {m : Nat} (hn : ∀ x ∈ l, Num x) (hs : ∀ x ∈ l, x.s ≠ -1) (hm : (cutsOf (fr : Int) l).length = m + 1) {q : Nat} (hq : q + 1 < m)
    (h1 : ownT (fr : Int) l (cut (cutsOf (fr : Int) l) q) = -1) (h2 : ownT (fr : Int) l (cut (cutsOf (fr : Int) l) (q + 1)) = -1) : False := by
  have hc := cutsOf_cuts (fr : Int) l (by omega) hn
  have hf : ∀ x ∈ l, fW (fr : Int) x ∈ cutsOf fr l := fun x hx => (cutsOf_mem _ _ _).2 (.inr (.inr ⟨x, hx, .inl rfl⟩))
  have ht : ∀ x ∈ l, tW (fr : Int) x ∈ cutsOf fr l := fun x hx => (cutsOf_mem _ _ _).2 (.inr (.inr ⟨x, hx, .inr rfl⟩))
  have l1 := cut_rise hc hm (show q < q + 1 by omega) (by omega)
  have l2 := cut_rise hc hm hq (Nat.le_refl _)
  rw [cut_at_end hc hm] at l2
  have l0 := (cut_in hc hm (show q ≤ m by omega)).1
  have e0 : (cutsOf (fr : Int) l)[q]? = some (cut (cutsOf fr l) q) := by unfold cut; rw [List.getElem?_eq_getElem (by omega)]; rfl
  have e1 : (cutsOf (fr : Int) l)[q + 1]? = some (cut (cutsOf fr l) (q + 1)) := by unfold cut; rw [List.getElem?_eq_getElem (by omega)]; rfl
  have hsame := seg_same hc hf ht q _ _ e0 e1
  have hmem := List.mem_of_getElem? e1
  generalize cut (cutsOf (fr : Int) l) q = u at *
  generalize cut (cutsOf (fr : Int) l) (q + 1) = v at *
  have cov : ∀ t x, x ∈ l → hasB fr x t = true → ownT fr l t ≠ -1 := fun t x hx hb e => by
    have h := (own_cov l hs).1 e
    unfold covB at h
    rw [List.any_eq_false] at h
    exact h x hx hb
  rcases (cutsOf_mem _ _ _).1 hmem with rfl | rfl | ⟨x, hx, e | e⟩
  · omega
  · omega
  · refine cov v x hx ?_ h2
    obtain ⟨a1, a2, a3, a4⟩ := hn x hx
    unfold hasB
    unfold fW at e
    unfold fW tW
    split at e
    · omega
    · rename_i g1
      split at e
      · omega
      · rename_i g2
        rw [if_neg g1, if_neg g2, if_neg g1, if_neg g2]
        split
        · simp; omega
        · simp; omega
  · refine cov (v - 1) x hx ?_ (by rw [hsame (v - 1) (by omega) (by omega)]; exact h1)
    obtain ⟨a1, a2, a3, a4⟩ := hn x hx
    unfold hasB
    rw [← e]
    unfold tW at e
    unfold fW
    split at e
    · omega
    · rename_i g1
      split at e
      · omega
      · rename_i g2
        rw [if_neg g1, if_neg g2]
        split at e
        · simp; omega
        · simp; omega
theorem rows_at {fr : Nat} {l : List A3} {m : Nat} (hn : ∀ x ∈ l, Num x) (hs : ∀ x ∈ l, x.s ≠ -1) (hm : (cutsOf (fr : Int) l).length = m + 1) :
    ∀ (j q : Nat), q + j = m → RowsAt (cut (cutsOf (fr : Int) l) q).toNat ((rowsL fr l (cutsOf fr l) m).drop q)
  | 0, q, h => by
    rw [List.drop_of_length_le (by rw [rowsL_len]; omega)]
    trivial
  | j + 1, q, h => by
    have hc := cutsOf_cuts (fr : Int) l (by omega) hn
    have ih := rows_at hn hs hm j (q + 1) (by omega)
    have hq : q < m := by omega
    have hg := rowsL_get (fr : Int) l (cutsOf fr l) hq
    have hlt := cut_rise hc hm (show q < q + 1 by omega) (by omega)
    have h0 := (cut_in hc hm (show q ≤ m by omega)).1
    have e : (rowsL fr l (cutsOf fr l) m).drop q = ⟨ownT fr l (cut (cutsOf fr l) q), cut (cutsOf fr l) q, cut (cutsOf fr l) (q + 1) - cut (cutsOf fr l) q⟩ :: (rowsL fr l (cutsOf fr l) m).drop (q + 1) := by
      rw [List.drop_eq_getElem_cons (by rw [rowsL_len]; exact hq)]
      congr 1
      exact (List.getElem?_eq_some_iff.1 hg).2
    rw [e]
    refine ⟨by dsimp only; omega, by dsimp only; omega, fun h1 y hy => ?_, ?_⟩
    · dsimp only at h1
      rw [List.head?_drop] at hy
      rcases Nat.lt_or_ge (q + 1) m with h2 | h2
      · rw [rowsL_get _ _ _ h2] at hy
        obtain rfl := Option.some.inj hy
        exact fun h3 => no_two hn hs hm h2 h1 h3
      · rw [List.getElem?_eq_none (by rw [rowsL_len]; exact h2)] at hy
        cases hy
    · dsimp only
      rw [show (cut (cutsOf (fr : Int) l) q).toNat + (cut (cutsOf (fr : Int) l) (q + 1) - cut (cutsOf fr l) q).toNat = (cut (cutsOf (fr : Int) l) (q + 1)).toNat by omega]
      exact ih
/-- The gaps of a schedule's word are its rows that are nobody's. -/
theorem gaps_rows {fr : Nat} {l : List A3} {m : Nat} (hn : ∀ x ∈ l, Num x) (hs : ∀ x ∈ l, x.s ≠ -1) (hm : (cutsOf (fr : Int) l).length = m + 1) :
    gapG 0 0 (ticksL (ownT (fr : Int) l) 0 fr) = (rowsL fr l (cutsOf fr l) m).filter (fun x => nobody x.s) := by
  have hc := cutsOf_cuts (fr : Int) l (by omega) hn
  have hf : ∀ x ∈ l, fW (fr : Int) x ∈ cutsOf fr l := fun x hx => (cutsOf_mem _ _ _).2 (.inr (.inr ⟨x, hx, .inl rfl⟩))
  have ht : ∀ x ∈ l, tW (fr : Int) x ∈ cutsOf fr l := fun x hx => (cutsOf_mem _ _ _).2 (.inr (.inr ⟨x, hx, .inr rfl⟩))
  have hw := rows_word hc hm hf ht
  rw [show ((fr : Int)).toNat = fr from rfl] at hw
  rw [← hw]
  have h0 := rows_at hn hs hm m 0 (by omega)
  have e : cut (cutsOf (fr : Int) l) 0 = 0 := by unfold cut; rw [cuts_first hc]; rfl
  rw [e, List.drop_zero] at h0
  rw [gap_rows _ 0 0 h0 (.inl rfl)]
  simp [gapE]
end Go.Proofs.YtmcmmbkodllpkaaGreatDoor.Win
