/- Plans in plain words: what is open is what a word doesn't give yet; what isn't late is met. It says nothing of the program. No condition. Acts in their order: what a stable sort is, merges, blocks, rotations, which act is the first of its schedule and partition. It says nothing of the program. No condition. -/
import Derived.Test.YtpjillclladjaaaDoorMg19
namespace Go.Proofs.YtpjillclladjaaaDoor.Pln

open Go.Proofs.YtpjillclladjaaaDoor.Act (A3 I64)

open Go.Proofs.YtpjillclladjaaaDoor.Nee

open Go.Proofs.YtpjillclladjaaaDoor.Win (cntZ cntZ_more cntZ_le)

set_option linter.unusedVariables false

set_option linter.unusedSimpArgs false

/-- How many numbers from a place on are so. -/
def gvn (W : List Int) (s : Int) (f : Nat) : Nat := cntZ s (W.drop f)
def fromN (t : Nat) (p : Int) : Nat := t - t % p.toNat
theorem mod_nat (t : Nat) {p : Int} (hp : 1 ≤ p) : (t : Int) % p = ((t % p.toNat : Nat) : Int) := by
  obtain ⟨P, rfl⟩ : ∃ P : Nat, p = (P : Int) := ⟨p.toNat, by omega⟩
  simp
theorem end_from (t : Nat) {p : Int} (hp : 1 ≤ p) : endZ (t : Int) p = (fromN t p : Int) + p := by
  unfold endZ fromN
  rw [mod_nat t hp]
  have := Nat.mod_le t p.toNat
  omega
theorem from_div (t : Nat) (p : Int) : t / p.toNat * p.toNat = fromN t p := by
  unfold fromN
  have := Nat.div_add_mod t p.toNat
  rw [Nat.mul_comm] at this
  omega
theorem from_le (t : Nat) (p : Int) : fromN t p ≤ t := by unfold fromN; omega
theorem from_next (t : Nat) {p : Int} (hp : 1 ≤ p) : (((t : Int) + 1) % p = 0 ∧ fromN (t + 1) p = t + 1 ∧ (fromN t p : Int) = (t : Int) + 1 - p) ∨ (((t : Int) + 1) % p ≠ 0 ∧ fromN (t + 1) p = fromN t p) := by
  have h1 := end_from t hp
  have h2 := end_from (t + 1) hp
  have e : ((t + 1 : Nat) : Int) = (t : Int) + 1 := by omega
  rw [e] at h2
  rcases mod_next (t := (t : Int)) hp with ⟨h3, h4, h5⟩ | ⟨h3, h4, _⟩
  · exact .inl ⟨h3, by omega, by omega⟩
  · exact .inr ⟨h3, by omega⟩
theorem gvn_snoc (W : List Int) (s v : Int) (f : Nat) (h : f ≤ W.length) : gvn (W ++ [v]) s f = gvn W s f + (if v = s then 1 else 0) := by
  unfold gvn
  rw [List.drop_append, cntZ_app, show f - W.length = 0 by omega, List.drop_zero]
  congr 1
  unfold cntZ
  by_cases c : v = s
  · subst c; simp
  · simp [c]
theorem gvn_end (W : List Int) (s : Int) : gvn W s W.length = 0 := by
  unfold gvn
  rw [List.drop_length]; rfl
def IdsOk (l : List A3) : Prop := (∀ i j, i < j → j < l.length → (nd l i).s < (nd l j).s) ∧ ∀ k, k < l.length → 0 ≤ (nd l k).s
theorem link (l : List A3) (hl : NdOk l) (hi : IdsOk l) : ∀ (t k : Nat), k < l.length →
    begR l t (runR l t).1 k = (nd l k).a - (gvn (runR l t).2 (nd l k).s (fromN t (nd l k).p) : Nat) ∧ (runR l (t + 1)).1 k = (nd l k).a - (gvn (runR l (t + 1)).2 (nd l k).s (fromN t (nd l k).p) : Nat) := by
  have hstep : ∀ (t k : Nat), k < l.length → begR l t (runR l t).1 k = (nd l k).a - (gvn (runR l t).2 (nd l k).s (fromN t (nd l k).p) : Nat) → (runR l (t + 1)).1 k = (nd l k).a - (gvn (runR l (t + 1)).2 (nd l k).s (fromN t (nd l k).p) : Nat) := by
    intro t k hk h
    have h1 : (runR l (t + 1)).2 = (runR l t).2 ++ [idR l (bestR l t (runR l t).1)] := rfl
    have h2 : (runR l (t + 1)).1 = updR (begR l t (runR l t).1) (bestR l t (runR l t).1) := rfl
    rw [h1, gvn_snoc _ _ _ _ (by rw [run_len]; exact from_le _ _), h2]
    unfold updR
    rw [h]
    have h0 := hi.2 k hk
    rcases bst_range l t (begR l t (runR l t).1) l.length with e | ⟨m, hm, e⟩
    · have e2 : bestR l t (runR l t).1 = -1 := e
      rw [e2, if_neg (show ¬ (k : Int) = -1 by omega)]
      unfold idR
      rw [if_pos (show (-1 : Int) < 0 by omega), if_neg (show ¬ (-1 : Int) = (nd l k).s by omega)]; omega
    · have e2 : bestR l t (runR l t).1 = (m : Int) := e
      rw [e2]
      unfold idR
      rw [if_neg (show ¬ (m : Int) < 0 by omega), show ((m : Int)).toNat = m by omega]
      by_cases c : k = m
      · subst c
        rw [if_pos rfl, if_pos rfl]; omega
      · rw [if_neg (show ¬ (k : Int) = (m : Int) by omega)]
        have hne : ¬ (nd l m).s = (nd l k).s := by
          rcases Nat.lt_or_ge k m with h3 | h3
          · have := hi.1 k m h3 hm; omega
          · have := hi.1 m k (by omega) hk; omega
        rw [if_neg hne]; omega
  have hbeg : ∀ (t k : Nat), k < l.length → begR l t (runR l t).1 k = (nd l k).a - (gvn (runR l t).2 (nd l k).s (fromN t (nd l k).p) : Nat) := by
    intro t
    induction t with
    | zero =>
      intro k hk
      have e : begR l (0 : Nat) (runR l 0).1 k = (nd l k).a := by
        unfold begR
        rw [if_pos (by simp)]
      rw [e]
      have : gvn (runR l 0).2 (nd l k).s (fromN 0 (nd l k).p) = 0 := by simp [gvn, runR, cntZ]
      rw [this]; simp
    | succ t ih =>
      intro k hk
      have h1 := hstep t k hk (ih k hk)
      obtain ⟨hp, ha⟩ := hl k hk
      have e : ((t + 1 : Nat) : Int) = (t : Int) + 1 := by omega
      rw [e]
      unfold begR
      rcases from_next t hp with ⟨h3, h4, h5⟩ | ⟨h3, h4⟩
      · rw [if_pos h3, h4]
        have := gvn_end (runR l (t + 1)).2 (nd l k).s
        rw [run_len] at this
        rw [this]; simp
      · rw [if_neg h3, h4, h1]
  exact fun t k hk => ⟨hbeg t k hk, hstep t k hk (hbeg t k hk)⟩
theorem run_take (l : List A3) (t : Nat) : ∀ n, ((runR l (t + n)).2).take t = (runR l t).2
  | 0 => List.take_of_length_le (by rw [run_len]; exact Nat.le_refl _)
  | n + 1 => by
    have h1 : (runR l (t + (n + 1))).2 = (runR l (t + n)).2 ++ [idR l (bestR l (t + n : Nat) (runR l (t + n)).1)] := rfl
    rw [h1, List.take_append_of_le_length (by rw [run_len]; omega)]
    exact run_take l t n
theorem fl_before (l : List A3) : ∀ t, flR l t = -1 → ∀ u, u < t → lateR l u = -1
  | 0, _, u, h => by omega
  | t + 1, h, u, hu => by
    unfold flR at h
    by_cases c : 0 ≤ flR l t
    · rw [if_pos c] at h; omega
    · rw [if_neg c] at h
      rcases Nat.lt_or_ge u t with h1 | h1
      · refine fl_before l t ?_ u h1
        have hge : -1 ≤ flR l t := by
          clear h
          induction t with
          | zero => exact Int.le_refl _
          | succ t ih =>
            unfold flR
            split
            · rename_i hh; omega
            · unfold lateR
              rcases lt_range l t (runR l (t + 1)).1 l.length with ⟨e, _⟩ | ⟨m, _, e, _⟩
              · rw [e]; exact Int.le_refl _
              · rw [e]; omega
        omega
      · obtain rfl : u = t := by omega
        exact h
/-- What is planned, and works, meets its needs. -/
theorem plan_meets (l : List A3) (hl : NdOk l) (hi : IdsOk l) (fr : Nat) (h : flR l fr = -1) (k : Nat) (hk : k < l.length) : Meets (runR l fr).2 (nd l k) := by
  intro j hj
  rw [run_len] at hj
  obtain ⟨hp, ha⟩ := hl k hk
  obtain ⟨P, hP⟩ : ∃ P : Nat, (nd l k).p = (P : Int) := ⟨(nd l k).p.toNat, by omega⟩
  have hPt : (nd l k).p.toNat = P := by omega
  rw [hPt] at hj ⊢
  have hP1 : 1 ≤ P := by omega
  have hsum : (j + 1) * P = j * P + P := by rw [Nat.add_mul, Nat.one_mul]
  rw [hsum] at hj
  obtain ⟨u, hu⟩ : ∃ u, u + 1 = j * P + P := ⟨j * P + P - 1, by omega⟩
  have h1 := fl_before l fr h u (by omega)
  unfold lateR at h1
  have h2 := (link l hl hi u k hk).2
  have hmod : ((u : Int) + 1) % (nd l k).p = 0 := by
    rw [hP]
    have : (u : Int) + 1 = ((j + 1 : Nat) : Int) * (P : Int) := by rw [← Int.natCast_mul, hsum]; omega
    rw [this]
    exact Int.mul_emod_left _ _
  have hfrom : fromN u (nd l k).p = j * P := by
    rcases from_next u hp with ⟨_, _, h4⟩ | ⟨h3, _⟩
    · omega
    · exact absurd hmod h3
  rw [hfrom] at h2
  have he : endZ (u : Int) (nd l k).p = (u : Int) + 1 := by
    rw [end_from u hp, hfrom]; omega
  have hr : (runR l (u + 1)).1 k ≤ 0 := by
    rcases lt_range l u (runR l (u + 1)).1 l.length with ⟨_, h4⟩ | ⟨m, _, e, _⟩
    · have := h4 k hk
      rcases Int.lt_or_le 0 ((runR l (u + 1)).1 k) with h5 | h5
      · exact absurd ⟨h5, he⟩ this
      · exact h5
    · rw [e] at h1; omega
  have ht : (runR l (u + 1)).2 = ((runR l fr).2).take (j * P + P) := by
    have := run_take l (u + 1) (fr - (u + 1))
    rw [show u + 1 + (fr - (u + 1)) = fr by omega, hu] at this
    rw [hu]; exact this.symm
  have hg : gvn (runR l (u + 1)).2 (nd l k).s (j * P) = cntZ (nd l k).s (chkZ (runR l fr).2 P j) := by
    unfold gvn chkZ
    rw [ht, List.drop_take, show j * P + P - j * P = P by omega]
  rw [hg] at h2
  omega
end Go.Proofs.YtpjillclladjaaaDoor.Pln
namespace Go.Proofs.YtpjillclladjaaaDoor.Srt

set_option linter.unusedVariables false

/-- An act. -/
structure A3 where
  s : Int
  p : Int
  a : Int
def lt (x y : A3) : Prop := x.s < y.s ∨ (x.s = y.s ∧ x.p < y.p)
instance (x y : A3) : Decidable (lt x y) := inferInstanceAs (Decidable (_ ∨ _))
def le (x y : A3) : Prop := ¬ lt y x
def same (x y : A3) : Prop := x.s = y.s ∧ x.p = y.p
instance (x y : A3) : Decidable (same x y) := inferInstanceAs (Decidable (_ ∧ _))
theorem le_trans {x y z : A3} (h : le x y) (k : le y z) : le x z := by unfold le lt at *; omega
theorem lt_le {x y : A3} (h : lt x y) : le x y := by unfold le lt at *; omega
theorem le_lt {x y z : A3} (h : le x y) (k : lt y z) : lt x z := by unfold le lt at *; omega
theorem lt_le_trans {x y z : A3} (h : lt x y) (k : le y z) : lt x z := by unfold le lt at *; omega
theorem le_refl (x : A3) : le x x := by unfold le lt; omega
def Srt (l : List A3) : Prop := l.Pairwise le
def cls (s p : Int) (l : List A3) : List A3 := l.filter fun x => x.s == s && x.p == p
theorem cls_app (s p : Int) (l m : List A3) : cls s p (l ++ m) = cls s p l ++ cls s p m := List.filter_append ..
theorem mem_cls {s p : Int} {l : List A3} {x : A3} : x ∈ cls s p l ↔ x ∈ l ∧ x.s = s ∧ x.p = p := by simp [cls]
def Stab (X M : List A3) : Prop := Srt M ∧ ∀ s p, cls s p M = cls s p X
theorem Stab.mem {X M : List A3} (h : Stab X M) {x : A3} : x ∈ M ↔ x ∈ X := by
  have e := h.2 x.s x.p
  constructor
  · intro hx
    have : x ∈ cls x.s x.p M := mem_cls.2 ⟨hx, rfl, rfl⟩
    rw [e] at this; exact (mem_cls.1 this).1
  · intro hx
    have : x ∈ cls x.s x.p X := mem_cls.2 ⟨hx, rfl, rfl⟩
    rw [← e] at this; exact (mem_cls.1 this).1
theorem Stab.refl {X : List A3} (h : Srt X) : Stab X X := ⟨h, fun _ _ => rfl⟩
theorem cls_len (l : List A3) : ∀ m : List A3, (∀ s p, cls s p m = cls s p l) → m.length = l.length := by
  induction l with
  | nil =>
    intro m h
    cases m with
    | nil => rfl
    | cons x m => have := h x.s x.p; simp [cls] at this
  | cons y l ih =>
    intro m h
    have hy : y ∈ m := by
      have : y ∈ cls y.s y.p (y :: l) := mem_cls.2 ⟨by simp, rfl, rfl⟩
      rw [← h] at this; exact (mem_cls.1 this).1
    -- the first of y's class
    have hsplit : ∀ m : List A3, y.s = y.s → (cls y.s y.p m).head? = some y → ∃ a b, m = a ++ y :: b ∧ cls y.s y.p a = [] := by
      intro m _
      induction m with
      | nil => intro h; simp [cls] at h
      | cons z m ihm =>
        intro h
        by_cases hz : z.s = y.s ∧ z.p = y.p
        · refine ⟨[], m, ?_, rfl⟩
          have : z = y := by simpa [cls, hz.1, hz.2] using h
          simp [this]
        · have hz' : cls y.s y.p (z :: m) = cls y.s y.p m := by
            unfold cls; rw [List.filter_cons_of_neg]; simp; intro h1; exact fun h2 => hz ⟨h1, h2⟩
          rw [hz'] at h
          obtain ⟨a, b, e1, e2⟩ := ihm h
          refine ⟨z :: a, b, by rw [e1]; rfl, ?_⟩
          have : cls y.s y.p (z :: a) = cls y.s y.p a := by
            unfold cls; rw [List.filter_cons_of_neg]; simp; intro h1; exact fun h2 => hz ⟨h1, h2⟩
          rw [this]; exact e2
    obtain ⟨a, b, rfl, e2⟩ := hsplit m rfl (by rw [h]; simp [cls])
    have hr : ∀ s p, cls s p (a ++ b) = cls s p l := by
      intro s p
      have hh := h s p
      rw [cls_app] at hh ⊢
      by_cases hk : y.s = s ∧ y.p = p
      · obtain ⟨rfl, rfl⟩ := hk
        rw [e2, List.nil_append] at hh ⊢
        have h1 : cls y.s y.p (y :: b) = y :: cls y.s y.p b := by unfold cls; rw [List.filter_cons_of_pos]; simp
        have h2 : cls y.s y.p (y :: l) = y :: cls y.s y.p l := by unfold cls; rw [List.filter_cons_of_pos]; simp
        rw [h1, h2] at hh
        exact (List.cons.inj hh).2
      · have hk' : ∀ c : List A3, cls s p (y :: c) = cls s p c := fun c => by
          unfold cls; rw [List.filter_cons_of_neg]; simp; intro h1; exact fun h2 => hk ⟨h1, h2⟩
        rw [hk', hk'] at hh
        exact hh
    have := ih (a ++ b) hr
    simp at this ⊢
    omega
theorem Stab.length {X M : List A3} (h : Stab X M) : M.length = X.length := cls_len X M h.2
theorem Stab.trans {X Y M : List A3} (h : ∀ s p, cls s p Y = cls s p X) (k : Stab Y M) : Stab X M := ⟨k.1, fun s p => (k.2 s p).trans (h s p)⟩
/-- Two sorted rows, each cut in two: what is merged of the first parts, and behind it of the second parts, is merged of both. -/
theorem merge {P1 Q1 P2 Q2 M1 M2 : List A3} (hx : Srt (P1 ++ Q1)) (hy : Srt (P2 ++ Q2)) (h1 : ∀ x ∈ P1, ∀ y ∈ Q2, le x y) (h2 : ∀ x ∈ P2, ∀ y ∈ Q1, lt x y) (m1 : Stab (P1 ++ P2) M1) (m2 : Stab (Q1 ++ Q2) M2) :
    Stab ((P1 ++ Q1) ++ (P2 ++ Q2)) (M1 ++ M2) := by
  refine ⟨List.pairwise_append.2 ⟨m1.1, m2.1, fun x hx1 y hy1 => ?_⟩, fun s p => ?_⟩
  · have a1 := List.mem_append.1 (m1.mem.1 hx1)
    have a2 := List.mem_append.1 (m2.mem.1 hy1)
    rcases a1 with a1 | a1 <;> rcases a2 with a2 | a2
    · exact (List.pairwise_append.1 hx).2.2 x a1 y a2
    · exact h1 x a1 y a2
    · exact lt_le (h2 x a1 y a2)
    · exact (List.pairwise_append.1 hy).2.2 x a1 y a2
  · rw [cls_app, m1.2, m2.2]
    simp only [cls_app]
    have hq : cls s p P2 = [] ∨ cls s p Q1 = [] := by
      by_cases h : cls s p P2 = []
      · exact .inl h
      · right
        obtain ⟨x, hx'⟩ := List.exists_mem_of_ne_nil _ h
        by_cases h' : cls s p Q1 = []
        · exact h'
        · obtain ⟨y, hy'⟩ := List.exists_mem_of_ne_nil _ h'
          obtain ⟨a1, a2, a3⟩ := mem_cls.1 hx'
          obtain ⟨b1, b2, b3⟩ := mem_cls.1 hy'
          have := h2 x a1 y b1
          unfold lt at this
          omega
    rcases hq with h | h <;> simp [h]
theorem Srt.last_le {A : List A3} {x : A3} (h : Srt (A ++ [x])) : ∀ y ∈ A ++ [x], le y x := by
  intro y hy
  rcases List.mem_append.1 hy with hy | hy
  · exact (List.pairwise_append.1 h).2.2 y hy x (by simp)
  · simp at hy; subst hy; exact le_refl _
theorem Srt.first_le {B : List A3} {x : A3} (h : Srt (x :: B)) : ∀ y ∈ x :: B, le x y := by
  intro y hy
  rcases List.mem_cons.1 hy with rfl | hy
  · exact le_refl _
  · exact (List.pairwise_cons.1 h).1 y hy
/-- All of one row stand below all of another one, if its last does below that one's first. -/
theorem ends_le {P Q : List A3} (hp : Srt P) (hq : Srt Q) (h : ∀ x y, P.getLast? = some x → Q.head? = some y → le x y) : ∀ x ∈ P, ∀ y ∈ Q, le x y := by
  intro x hx y hy
  obtain ⟨z, hz⟩ : ∃ z, P.getLast? = some z := by
    cases e : P.getLast? with
    | none => rw [List.getLast?_eq_none_iff.1 e] at hx; simp at hx
    | some z => exact ⟨z, rfl⟩
  obtain ⟨A, rfl⟩ := List.getLast?_eq_some_iff.1 hz
  cases Q with
  | nil => simp at hy
  | cons q Q => exact le_trans (hp.last_le x hx) (le_trans (h z q hz rfl) (hq.first_le y hy))
theorem ends_lt {P Q : List A3} (hp : Srt P) (hq : Srt Q) (h : ∀ x y, P.getLast? = some x → Q.head? = some y → lt x y) : ∀ x ∈ P, ∀ y ∈ Q, lt x y := by
  intro x hx y hy
  obtain ⟨z, hz⟩ : ∃ z, P.getLast? = some z := by
    cases e : P.getLast? with
    | none => rw [List.getLast?_eq_none_iff.1 e] at hx; simp at hx
    | some z => exact ⟨z, rfl⟩
  obtain ⟨A, rfl⟩ := List.getLast?_eq_some_iff.1 hz
  cases Q with
  | nil => simp at hy
  | cons q Q => exact lt_le_trans (le_lt (hp.last_le x hx) (h z q hz rfl)) (hq.first_le y hy)
/-- Blocks of so many, each sorted; the last one may be shorter. -/
inductive Blk (b : Nat) : List A3 → Prop
  | last {l : List A3} (h : l.length ≤ b) (hs : Srt l) : Blk b l
  | more {l m : List A3} (h : l.length = b) (hs : Srt l) (hm : Blk b m) : Blk b (l ++ m)
def BlkP (b : Nat) (l : List A3) : Prop := ∀ m, Blk b m → Blk b (l ++ m)
theorem BlkP.nil (b : Nat) : BlkP b [] := fun m h => h
theorem BlkP.more {b : Nat} {l m : List A3} (h : BlkP b l) (hm : m.length = b) (hs : Srt m) : BlkP b (l ++ m) := fun k hk => by rw [List.append_assoc]; exact h _ (.more hm hs hk)
theorem Blk.all {b : Nat} {l : List A3} (h : Blk b l) (hb : l.length ≤ b) : Srt l := by
  cases h with
  | last _ hs => exact hs
  | more h1 hs hm =>
    rename_i l m
    have : m = [] := List.eq_nil_of_length_eq_zero (by simp at hb; omega)
    subst this
    simpa using hs
theorem Blk.cut {b : Nat} {l : List A3} (h : Blk b l) (hb : b ≤ l.length) : ∃ x y, l = x ++ y ∧ x.length = b ∧ Srt x ∧ Blk b y := by
  cases h with
  | last h1 hs => exact ⟨l, [], by simp, by omega, hs, .last (by simp) (by simp [Srt])⟩
  | more h1 hs hm => exact ⟨_, _, rfl, h1, hs, hm⟩
theorem swap_at {A B C : List A3} {x y : A3} {i j : Nat} (hi : i = A.length) (hj : j = A.length + 1 + B.length) : ((A ++ x :: (B ++ y :: C)).set i y).set j x = A ++ y :: (B ++ x :: C) := by
  subst hi hj
  rw [List.set_append_right _ _ (Nat.le_refl _)]
  simp only [Nat.sub_self, List.set_cons_zero]
  rw [List.set_append_right _ _ (by omega)]
  rw [show A.length + 1 + B.length - A.length = B.length + 1 by omega, List.set_cons_succ, List.set_append_right _ _ (Nat.le_refl _)]
  simp
theorem get_mid {A C : List A3} {x : A3} {i : Nat} (hi : i = A.length) : (A ++ x :: C)[i]? = some x := by subst hi; simp
/-- What the first act of a schedule and partition does; 0: there is none. -/
def forN (l : List A3) (s p : Int) : Int := match cls s p l with
  | [] => 0
  | x :: _ => x.a
theorem forN_stab {X M : List A3} (h : ∀ s p, cls s p M = cls s p X) (s p : Int) : forN M s p = forN X s p := by unfold forN; rw [h]
/-- The first of each run of likes. -/
def comp : List A3 → List A3
  | [] => []
  | x :: l => x :: (comp l).dropWhile fun y => decide (same y x)
end Go.Proofs.YtpjillclladjaaaDoor.Srt
