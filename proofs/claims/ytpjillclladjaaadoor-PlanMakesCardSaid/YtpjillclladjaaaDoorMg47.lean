/- Plans in plain words: the windows of a word are right, and have that word; needs that a word meets are right. It says nothing of the program. Condition: at most 1,048,576 ticks. -/
import Derived.Test.YtpjillclladjaaaDoorMg31
import Derived.Test.YtpjillclladjaaaDoorMg41
import Derived.Test.YtpjillclladjaaaDoorMg46
namespace Go.Proofs.YtpjillclladjaaaDoor.Pln

open Go.Proofs.YtpjillclladjaaaDoor.Act (A3 I64)

open Go.Proofs.YtpjillclladjaaaDoor.Nee Go.Proofs.YtpjillclladjaaaDoor.Win

set_option linter.unusedVariables false

set_option linter.unusedSimpArgs false

/-- Behind so many places of a word: the windows, and where the open one begins. -/
structure WInv (l : List Int) (i : Nat) (L : List A3) (f : Nat) : Prop where
  fle : f ≤ i
  run : ∀ j, f ≤ j → j ≤ i → j < l.length → vz l j = vz l f
  num : ∀ x ∈ L, 0 ≤ x.p ∧ 1 ≤ x.a ∧ x.p + x.a ≤ (f : Int) ∧ x.s ≠ -1 ∧ ∃ j, j < l.length ∧ vz l j = x.s
  own : ∀ t : Nat, t < f → ownT (l.length : Int) L (t : Int) = vz l t
  ris : L.Pairwise (fun a b => a.p + a.a ≤ b.p)
theorem winv (l : List Int) (hl : l.length ≤ 1048576) : ∀ i, i ≤ l.length → WInv l i (wst l i).1 (wst l i).2
  | 0, _ => ⟨Nat.le_refl _, fun j h1 h2 _ => by
      have : j = 0 := by omega
      subst this; rfl, fun x hx => by simp [wst] at hx, fun t ht => by simp [wst] at ht, List.Pairwise.nil⟩
  | i + 1, hi => by
    have ih := winv l hl i (by omega)
    have hfle := ih.fle
    have hvi : vz l i = vz l (wst l i).2 := ih.run i hfle (Nat.le_refl _) (by omega)
    by_cases hg : goesB l i = true
    · have e : wst l (i + 1) = wst l i := by rw [wst, if_pos hg]
      rw [e]
      unfold goesB at hg
      simp at hg
      refine ⟨by omega, fun j h1 h2 h3 => ?_, ih.num, ih.own, ih.ris⟩
      rcases Nat.lt_or_ge j (i + 1) with h | h
      · exact ih.run j h1 (by omega) h3
      · obtain rfl : j = i + 1 := by omega
        rw [hg.2, hvi]
    · have e : wst l (i + 1) = ((if vz l i = -1 then (wst l i).1 else (wst l i).1 ++ [⟨vz l i, ((wst l i).2 : Int), ((i + 1 : Nat) : Int) - ((wst l i).2 : Int)⟩]), i + 1) := by rw [wst, if_neg hg]
      have hrun : ∀ j, i + 1 ≤ j → j ≤ i + 1 → j < l.length → vz l j = vz l (i + 1) := fun j h1 h2 _ => by
        have : j = i + 1 := by omega
        rw [this]
      have hnum : ∀ x ∈ (wst l i).1, Num x := fun x hx => by
        obtain ⟨h1, h2, h3, _⟩ := ih.num x hx
        exact ⟨h1, by omega, by omega, by omega⟩
      have hcov : ∀ t : Nat, (wst l i).2 ≤ t → t < i + 1 → covB (l.length : Int) (wst l i).1 (t : Int) = false := fun t h1 h2 => by
        unfold covB
        rw [List.any_eq_false]
        intro x hx
        rw [has_plain (hnum x hx) (by omega) (by omega)]
        obtain ⟨_, _, h3, _⟩ := ih.num x hx
        rw [decide_eq_false (show ¬ ((t : Nat) : Int) < x.p + x.a by omega)]; simp
      have hvt : ∀ t : Nat, (wst l i).2 ≤ t → t < i + 1 → vz l t = vz l i := fun t h1 h2 => by
        rw [ih.run t h1 (by omega) (by omega), hvi]
      rw [e]
      by_cases hv : vz l i = -1
      · rw [if_pos hv]
        refine ⟨Nat.le_refl _, hrun, fun x hx => ?_, fun t ht => ?_, ih.ris⟩
        · obtain ⟨h1, h2, h3, h4⟩ := ih.num x hx
          exact ⟨h1, h2, by dsimp only; omega, h4⟩
        · rcases Nat.lt_or_ge t (wst l i).2 with h | h
          · exact ih.own t h
          · have ht2 : t < i + 1 := ht
            show ownT (l.length : Int) (wst l i).1 (t : Int) = _
            rw [own_none _ _ _ (hcov t h ht2), hvt t h ht2, hv]
      · rw [if_neg hv]
        obtain ⟨x0, hx0⟩ : ∃ x : A3, (⟨vz l i, ((wst l i).2 : Int), ((i + 1 : Nat) : Int) - ((wst l i).2 : Int)⟩ : A3) = x := ⟨_, rfl⟩
        have hs0 : x0.s = vz l i := by rw [← hx0]
        have hp0 : x0.p = ((wst l i).2 : Int) := by rw [← hx0]
        have ha0 : x0.a = ((i + 1 : Nat) : Int) - ((wst l i).2 : Int) := by rw [← hx0]
        rw [hx0]
        have hn0 : Num x0 := ⟨by omega, by omega, by omega, by omega⟩
        refine ⟨Nat.le_refl _, hrun, fun x hx => ?_, fun t ht => ?_, ?_⟩
        · rcases List.mem_append.1 hx with hx | hx
          · obtain ⟨h1, h2, h3, h4⟩ := ih.num x hx
            exact ⟨h1, h2, by dsimp only; omega, h4⟩
          · obtain rfl := List.mem_singleton.1 hx
            exact ⟨by omega, by omega, by dsimp only; omega, by rw [hs0]; exact hv, i, by omega, hs0.symm⟩
        · have ht2 : t < i + 1 := ht
          show ownT (l.length : Int) ((wst l i).1 ++ [x0]) (t : Int) = _
          rw [own_snoc, has_plain hn0 (by omega) (by omega)]
          rcases Nat.lt_or_ge t (wst l i).2 with h | h
          · by_cases hc : covB (l.length : Int) (wst l i).1 (t : Int) = true
            · rw [if_pos hc, ih.own t h]
            · rw [if_neg hc, decide_eq_false (show ¬ x0.p ≤ ((t : Nat) : Int) by omega), Bool.false_and, ← ih.own t h, own_none _ _ _ (by simpa using hc)]
              simp
          · rw [if_neg (by rw [hcov t h ht2]; simp), decide_eq_true (show x0.p ≤ ((t : Nat) : Int) by omega), decide_eq_true (show ((t : Nat) : Int) < x0.p + x0.a by omega), Bool.true_and, if_pos rfl, hs0, hvt t h ht2]
        · rw [List.pairwise_append]
          refine ⟨ih.ris, List.pairwise_singleton _ _, fun a ha b hb => ?_⟩
          obtain rfl := List.mem_singleton.1 hb
          obtain ⟨_, _, h3, _⟩ := ih.num a ha
          omega
theorem wst_full (l : List Int) : (wst l l.length).2 = l.length := by
  rcases Nat.eq_zero_or_pos l.length with h | h
  · rw [h]; rfl
  · obtain ⟨n, hn⟩ : ∃ n, l.length = n + 1 := ⟨l.length - 1, by omega⟩
    have hg : goesB l n = false := by unfold goesB; rw [decide_eq_false (by omega), Bool.false_and]
    rw [hn, wst, if_neg (by rw [hg]; simp)]
theorem wins_own (l : List Int) (hl : l.length ≤ 1048576) (t : Nat) (ht : t < l.length) : ownT (l.length : Int) (winsL l) (t : Int) = vz l t :=
  (winv l hl l.length (Nat.le_refl _)).own t (by rw [wst_full]; exact ht)
theorem wins_word (l : List Int) (hl : l.length ≤ 1048576) : ticksL (ownT (l.length : Int) (winsL l)) 0 l.length = l := by
  apply List.ext_getElem?
  intro t
  unfold ticksL
  rcases Nat.lt_or_ge t l.length with h | h
  · rw [List.getElem?_map, List.getElem?_range h, vz_at h]
    show some (ownT (l.length : Int) (winsL l) (0 + (t : Int))) = _
    rw [Int.zero_add, wins_own l hl t h]
  · rw [List.getElem?_eq_none (by simpa using h), List.getElem?_eq_none h]
theorem wins_in (l : List Int) (hl : l.length ≤ 1048576) : (∀ x ∈ winsL l, 0 ≤ x.p ∧ 1 ≤ x.a ∧ x.p + x.a ≤ (l.length : Int) ∧ x.s ≠ -1 ∧ ∃ j, j < l.length ∧ vz l j = x.s) ∧ (winsL l).Pairwise (fun a b => a.p + a.a ≤ b.p) := by
  have h := winv l hl l.length (Nat.le_refl _)
  refine ⟨fun x hx => ?_, h.ris⟩
  have h2 := h.num x hx
  rw [wst_full] at h2
  exact h2
theorem chkW_zero (ids : List Int) (fr : Int) (hf : 0 ≤ fr) : ∀ (l : List A3) (ah : A3) (i : Nat), (∀ x ∈ l, memB ids x.s = true ∧ 0 ≤ x.p ∧ 1 ≤ x.a ∧ x.p + x.a ≤ fr ∧ ah.p + ah.a ≤ x.p ∧ ah.p ≤ x.p) → l.Pairwise (fun a b => a.p + a.a ≤ b.p) → chkW ids fr ah i l = (0, 0)
  | [], _, _, _, _ => rfl
  | x :: r, ah, i, h, hp => by
    obtain ⟨h1, h2, h3, h4, h5, h6⟩ := h x List.mem_cons_self
    have hok : okW fr x = true := by unfold okW; simp; omega
    have hb : bad1W ids fr ah x = 0 := by
      unfold bad1W
      rw [h1, hok, if_neg (by simp), if_neg (by simp), if_neg (by omega), if_neg (by omega)]
    unfold chkW
    rw [if_pos hb]
    have hp2 := List.pairwise_cons.1 hp
    refine chkW_zero ids fr hf r x (i + 1) (fun y hy => ?_) hp2.2
    obtain ⟨g1, g2, g3, g4, _⟩ := h y (List.mem_cons_of_mem _ hy)
    have := hp2.1 y hy
    exact ⟨g1, g2, g3, g4, this, by omega⟩
theorem wins_chk (l : List Int) (hl : l.length ≤ 1048576) (ids : List Int) (hi : ∀ j, j < l.length → vz l j ≠ -1 → memB ids (vz l j) = true) : chkW ids (l.length : Int) ⟨0, 0, 0⟩ 0 (winsL l) = (0, 0) := by
  obtain ⟨h1, h2⟩ := wins_in l hl
  refine chkW_zero ids _ (by omega) _ _ _ (fun x hx => ?_) h2
  obtain ⟨g1, g2, g3, g4, j, hj, e⟩ := h1 x hx
  refine ⟨?_, g1, g2, g3, by dsimp only; omega, g1⟩
  rw [← e]
  exact hi j hj (by rw [e]; exact g4)
theorem chkN_zero (ids ws : List Int) (fn : Nat) : ∀ (l : List A3) (ah : A3) (i : Nat), (∀ x ∈ l, memB ids x.s = true ∧ (0 < i → ah.s < x.s) ∧ divB x.p fn = true ∧ x.a ≤ ((lsV x.s x.p ws fn : Nat) : Int)) → l.Pairwise (fun a b => a.s < b.s) → chkN ids ws fn ah i l = (0, 0)
  | [], _, _, _, _ => rfl
  | x :: r, ah, i, h, hp => by
    obtain ⟨h1, h2, h3, h4⟩ := h x List.mem_cons_self
    have hb : bad1N ids ws fn i ah x = 0 := by
      unfold bad1N
      rw [h1, h3, if_neg (by simp), if_neg (by intro hc; have := h2 hc.1; omega), if_neg (by simp), if_neg (by omega)]
    unfold chkN
    rw [if_pos hb]
    have hp2 := List.pairwise_cons.1 hp
    refine chkN_zero ids ws fn r x (i + 1) (fun y hy => ?_) hp2.2
    obtain ⟨g1, _, g3, g4⟩ := h y (List.mem_cons_of_mem _ hy)
    exact ⟨g1, fun _ => hp2.1 y hy, g3, g4⟩
end Go.Proofs.YtpjillclladjaaaDoor.Pln
