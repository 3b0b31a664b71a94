
/- Acts in their order: what a stable sort is, merges, blocks, rotations, which act is the first of its schedule and partition. It says nothing of the program. No condition. -/

namespace Go.Proofs.YtpjillclladjaaaDoor.Srt

set_option linter.unusedVariables false

/-- An act. -/
structure A3 where
  s : Int
  p : Int
  a : Int
def lt (x y : A3) : Prop := x.s < y.s ∨ (x.s = y.s ∧ x.p < y.p)
instance (x y : A3) : Decidable (lt x y) := inferInstanceAs (Decidable (_ ∨ _))
def le (x y : A3) : Prop := ¬ lt y x
def same (x y : A3) : Prop := x.s = y.s ∧ x.p = y.p
instance (x y : A3) : Decidable (same x y) := inferInstanceAs (Decidable (_ ∧ _))
theorem le_trans {x y z : A3} (h : le x y) (k : le y z) : le x z := by unfold le lt at *; omega
theorem lt_le {x y : A3} (h : lt x y) : le x y := by unfold le lt at *; omega
theorem le_lt {x y z : A3} (h : le x y) (k : lt y z) : lt x z := by unfold le lt at *; omega
theorem lt_le_trans {x y z : A3} (h : lt x y) (k : le y z) : lt x z := by unfold le lt at *; omega
theorem le_refl (x : A3) : le x x := by unfold le lt; omega
def Srt (l : List A3) : Prop := l.Pairwise le
def cls (s p : Int) (l : List A3) : List A3 := l.filter fun x => x.s == s && x.p == p
theorem cls_app (s p : Int) (l m : List A3) : cls s p (l ++ m) = cls s p l ++ cls s p m := List.filter_append ..
theorem mem_cls {s p : Int} {l : List A3} {x : A3} : x ∈ cls s p l ↔ x ∈ l ∧ x.s = s ∧ x.p = p := by simp [cls]
def Stab (X M : List A3) : Prop := Srt M ∧ ∀ s p, cls s p M = cls s p X
theorem Stab.mem {X M : List A3} (h : Stab X M) {x : A3} : x ∈ M ↔ x ∈ X := by
  have e := h.2 x.s x.p
  constructor
  · intro hx
    have : x ∈ cls x.s x.p M := mem_cls.2 ⟨hx, rfl, rfl⟩
    rw [e] at this; exact (mem_cls.1 this).1
  · intro hx
    have : x ∈ cls x.s x.p X := mem_cls.2 ⟨hx, rfl, rfl⟩
    rw [← e] at this; exact (mem_cls.1 this).1
theorem Stab.refl {X : List A3} (h : Srt X) : Stab X X := ⟨h, fun _ _ => rfl⟩
theorem cls_len (l : List A3) : ∀ m : List A3, (∀ s p, cls s p m = cls s p l) → m.length = l.length := by
  induction l with
  | nil =>
    intro m h
    cases m with
    | nil => rfl
    | cons x m => have := h x.s x.p; simp [cls] at this
  | cons y l ih =>
    intro m h
    have hy : y ∈ m := by
      have : y ∈ cls y.s y.p (y :: l) := mem_cls.2 ⟨by simp, rfl, rfl⟩
      rw [← h] at this; exact (mem_cls.1 this).1
    -- the first of y's class
    have hsplit : ∀ m : List A3, y.s = y.s → (cls y.s y.p m).head? = some y → ∃ a b, m = a ++ y :: b ∧ cls y.s y.p a = [] := by
      intro m _
      induction m with
      | nil => intro h; simp [cls] at h
      | cons z m ihm =>
        intro h
        by_cases hz : z.s = y.s ∧ z.p = y.p
        · refine ⟨[], m, ?_, rfl⟩
          have : z = y := by simpa [cls, hz.1, hz.2] using h
          simp [this]
        · have hz' : cls y.s y.p (z :: m) = cls y.s y.p m := by
            unfold cls; rw [List.filter_cons_of_neg]; simp; intro h1; exact fun h2 => hz ⟨h1, h2⟩
          rw [hz'] at h
          obtain ⟨a, b, e1, e2⟩ := ihm h
          refine ⟨z :: a, b, by rw [e1]; rfl, ?_⟩
          have : cls y.s y.p (z :: a) = cls y.s y.p a := by
            unfold cls; rw [List.filter_cons_of_neg]; simp; intro h1; exact fun h2 => hz ⟨h1, h2⟩
          rw [this]; exact e2
    obtain ⟨a, b, rfl, e2⟩ := hsplit m rfl (by rw [h]; simp [cls])
    have hr : ∀ s p, cls s p (a ++ b) = cls s p l := by
      intro s p
      have hh := h s p
      rw [cls_app] at hh ⊢
      by_cases hk : y.s = s ∧ y.p = p
      · obtain ⟨rfl, rfl⟩ := hk
        rw [e2, List.nil_append] at hh ⊢
        have h1 : cls y.s y.p (y :: b) = y :: cls y.s y.p b := by unfold cls; rw [List.filter_cons_of_pos]; simp
        have h2 : cls y.s y.p (y :: l) = y :: cls y.s y.p l := by unfold cls; rw [List.filter_cons_of_pos]; simp
        rw [h1, h2] at hh
        exact (List.cons.inj hh).2
      · have hk' : ∀ c : List A3, cls s p (y :: c) = cls s p c := fun c => by
          unfold cls; rw [List.filter_cons_of_neg]; simp; intro h1; exact fun h2 => hk ⟨h1, h2⟩
        rw [hk', hk'] at hh
        exact hh
    have := ih (a ++ b) hr
    simp at this ⊢
    omega
theorem Stab.length {X M : List A3} (h : Stab X M) : M.length = X.length := cls_len X M h.2
theorem Stab.trans {X Y M : List A3} (h : ∀ s p, cls s p Y = cls s p X) (k : Stab Y M) : Stab X M := ⟨k.1, fun s p => (k.2 s p).trans (h s p)⟩
/-- Two sorted rows, each cut in two: what is merged of the first parts, and behind it of the second parts, is merged of both. -/
theorem merge {P1 Q1 P2 Q2 M1 M2 : List A3} (hx : Srt (P1 ++ Q1)) (hy : Srt (P2 ++ Q2)) (h1 : ∀ x ∈ P1, ∀ y ∈ Q2, le x y) (h2 : ∀ x ∈ P2, ∀ y ∈ Q1, lt x y) (m1 : Stab (P1 ++ P2) M1) (m2 : Stab (Q1 ++ Q2) M2) :
    Stab ((P1 ++ Q1) ++ (P2 ++ Q2)) (M1 ++ M2) := by
  refine ⟨List.pairwise_append.2 ⟨m1.1, m2.1, fun x hx1 y hy1 => ?_⟩, fun s p => ?_⟩
  · have a1 := List.mem_append.1 (m1.mem.1 hx1)
    have a2 := List.mem_append.1 (m2.mem.1 hy1)
    rcases a1 with a1 | a1 <;> rcases a2 with a2 | a2
    · exact (List.pairwise_append.1 hx).2.2 x a1 y a2
    · exact h1 x a1 y a2
    · exact lt_le (h2 x a1 y a2)
    · exact (List.pairwise_append.1 hy).2.2 x a1 y a2
  · rw [cls_app, m1.2, m2.2]
    simp only [cls_app]
    have hq : cls s p P2 = [] ∨ cls s p Q1 = [] := by
      by_cases h : cls s p P2 = []
      · exact .inl h
      · right
        obtain ⟨x, hx'⟩ := List.exists_mem_of_ne_nil _ h
        by_cases h' : cls s p Q1 = []
        · exact h'
        · obtain ⟨y, hy'⟩ := List.exists_mem_of_ne_nil _ h'
          obtain ⟨a1, a2, a3⟩ := mem_cls.1 hx'
          obtain ⟨b1, b2, b3⟩ := mem_cls.1 hy'
          have := h2 x a1 y b1
          unfold lt at this
          omega
    rcases hq with h | h <;> simp [h]
theorem Srt.last_le {A : List A3} {x : A3} (h : Srt (A ++ [x])) : ∀ y ∈ A ++ [x], le y x := by
  intro y hy
  rcases List.mem_append.1 hy with hy | hy
  · exact (List.pairwise_append.1 h).2.2 y hy x (by simp)
  · simp at hy; subst hy; exact le_refl _
theorem Srt.first_le {B : List A3} {x : A3} (h : Srt (x :: B)) : ∀ y ∈ x :: B, le x y := by
  intro y hy
  rcases List.mem_cons.1 hy with rfl | hy
  · exact le_refl _
  · exact (List.pairwise_cons.1 h).1 y hy
/-- All of one row stand below all of another one, if its last does below that one's first. -/
theorem ends_le {P Q : List A3} (hp : Srt P) (hq : Srt Q) (h : ∀ x y, P.getLast? = some x → Q.head? = some y → le x y) : ∀ x ∈ P, ∀ y ∈ Q, le x y := by
  intro x hx y hy
  obtain ⟨z, hz⟩ : ∃ z, P.getLast? = some z := by
    cases e : P.getLast? with
    | none => rw [List.getLast?_eq_none_iff.1 e] at hx; simp at hx
    | some z => exact ⟨z, rfl⟩
  obtain ⟨A, rfl⟩ := List.getLast?_eq_some_iff.1 hz
  cases Q with
  | nil => simp at hy
  | cons q Q => exact le_trans (hp.last_le x hx) (le_trans (h z q hz rfl) (hq.first_le y hy))
theorem ends_lt {P Q : List A3} (hp : Srt P) (hq : Srt Q) (h : ∀ x y, P.getLast? = some x → Q.head? = some y → lt x y) : ∀ x ∈ P, ∀ y ∈ Q, lt x y := by
  intro x hx y hy
  obtain ⟨z, hz⟩ : ∃ z, P.getLast? = some z := by
    cases e : P.getLast? with
    | none => rw [List.getLast?_eq_none_iff.1 e] at hx; simp at hx
    | some z => exact ⟨z, rfl⟩
  obtain ⟨A, rfl⟩ := List.getLast?_eq_some_iff.1 hz
  cases Q with
  | nil => simp at hy
  | cons q Q => exact lt_le_trans (le_lt (hp.last_le x hx) (h z q hz rfl)) (hq.first_le y hy)
/-- Blocks of so many, each sorted; the last one may be shorter. -/
inductive Blk (b : Nat) : List A3 → Prop
  | last {l : List A3} (h : l.length ≤ b) (hs : Srt l) : Blk b l
  | more {l m : List A3} (h : l.length = b) (hs : Srt l) (hm : Blk b m) : Blk b (l ++ m)
def BlkP (b : Nat) (l : List A3) : Prop := ∀ m, Blk b m → Blk b (l ++ m)
theorem BlkP.nil (b : Nat) : BlkP b [] := fun m h => h
theorem BlkP.more {b : Nat} {l m : List A3} (h : BlkP b l) (hm : m.length = b) (hs : Srt m) : BlkP b (l ++ m) := fun k hk => by rw [List.append_assoc]; exact h _ (.more hm hs hk)
theorem Blk.all {b : Nat} {l : List A3} (h : Blk b l) (hb : l.length ≤ b) : Srt l := by
  cases h with
  | last _ hs => exact hs
  | more h1 hs hm =>
    rename_i l m
    have : m = [] := List.eq_nil_of_length_eq_zero (by simp at hb; omega)
    subst this
    simpa using hs
theorem Blk.cut {b : Nat} {l : List A3} (h : Blk b l) (hb : b ≤ l.length) : ∃ x y, l = x ++ y ∧ x.length = b ∧ Srt x ∧ Blk b y := by
  cases h with
  | last h1 hs => exact ⟨l, [], by simp, by omega, hs, .last (by simp) (by simp [Srt])⟩
  | more h1 hs hm => exact ⟨_, _, rfl, h1, hs, hm⟩
theorem swap_at {A B C : List A3} {x y : A3} {i j : Nat} (hi : i = A.length) (hj : j = A.length + 1 + B.length) : ((A ++ x :: (B ++ y :: C)).set i y).set j x = A ++ y :: (B ++ x :: C) := by
  subst hi hj
  rw [List.set_append_right _ _ (Nat.le_refl _)]
  simp only [Nat.sub_self, List.set_cons_zero]
  rw [List.set_append_right _ _ (by omega)]
  rw [show A.length + 1 + B.length - A.length = B.length + 1 by omega, List.set_cons_succ, List.set_append_right _ _ (Nat.le_refl _)]
  simp
theorem get_mid {A C : List A3} {x : A3} {i : Nat} (hi : i = A.length) : (A ++ x :: C)[i]? = some x := by subst hi; simp
/-- What the first act of a schedule and partition does; 0: there is none. -/
def forN (l : List A3) (s p : Int) : Int := match cls s p l with
  | [] => 0
  | x :: _ => x.a
theorem forN_stab {X M : List A3} (h : ∀ s p, cls s p M = cls s p X) (s p : Int) : forN M s p = forN X s p := by unfold forN; rw [h]
/-- The first of each run of likes. -/
def comp : List A3 → List A3
  | [] => []
  | x :: l => x :: (comp l).dropWhile fun y => decide (same y x)
end Go.Proofs.YtpjillclladjaaaDoor.Srt
