/- Pairs in their order, each once; what rows of pairs lead to; a search along pairs: plain. It says nothing of the program. No condition. -/
import Derived.Test.YtnngldkpkhabeaaMg10
namespace Go.Proofs.Ytnngldkpkhabeaa.Pai

set_option linter.unusedVariables false

set_option linter.unusedSimpArgs false

def Lt (x y : P2) : Prop := x.f < y.f ∨ (x.f = y.f ∧ x.t < y.t)
theorem lt_iff (x y : P2) : lessB x y = true ↔ Lt x y := by
  unfold lessB Lt
  simp only [Bool.or_eq_true, Bool.and_eq_true, decide_eq_true_eq, beq_iff_eq]
theorem lt_no (x : P2) : ¬ Lt x x := by unfold Lt; omega
theorem lt_trans {x y z : P2} (h : Lt x y) (k : Lt y z) : Lt x z := by unfold Lt at *; omega
theorem p2_ext {x y : P2} (h1 : x.f = y.f) (h2 : x.t = y.t) : x = y := by
  cases x; cases y; simp at h1 h2; rw [h1, h2]
theorem lt_tri (x y : P2) : Lt x y ∨ x = y ∨ Lt y x := by
  by_cases h : Lt x y
  · exact .inl h
  by_cases k : Lt y x
  · exact .inr (.inr k)
  · refine .inr (.inl (p2_ext ?_ ?_)) <;> unfold Lt at * <;> omega
theorem not_lt {x y : P2} (h : ¬ Lt y x) : Lt x y ∨ x = y := by
  rcases lt_tri x y with h1 | h1 | h1
  · exact .inl h1
  · exact .inr h1
  · exact absurd h1 h
/-- Rising rows with the same pairs are one. -/
theorem rise_one : ∀ (C D : List P2), C.Pairwise Lt → D.Pairwise Lt → (∀ x, x ∈ C ↔ x ∈ D) → C = D
  | [], [], _, _, _ => rfl
  | [], y :: D, _, _, h => by have := (h y).2 (by simp); simp at this
  | x :: C, [], _, _, h => by have := (h x).1 (by simp); simp at this
  | x :: C, y :: D, hc, hd, h => by
    rw [List.pairwise_cons] at hc hd
    have e : x = y := by
      have h1 := (h x).1 (by simp)
      have h2 := (h y).2 (by simp)
      rcases List.mem_cons.1 h1 with h1 | h1
      · exact h1
      rcases List.mem_cons.1 h2 with h2 | h2
      · exact h2.symm
      exact absurd (lt_trans (hc.1 y h2) (hd.1 x h1)) (lt_no x)
    subst e
    congr 1
    refine rise_one C D hc.2 hd.2 fun z => ?_
    constructor
    · intro hz
      rcases List.mem_cons.1 ((h z).1 (by simp [hz])) with h1 | h1
      · subst h1; exact absurd (hc.1 z hz) (lt_no z)
      · exact h1
    · intro hz
      rcases List.mem_cons.1 ((h z).2 (by simp [hz])) with h1 | h1
      · subst h1; exact absurd (hd.1 z hz) (lt_no z)
      · exact h1
theorem rise_int : ∀ (C D : List Int), C.Pairwise (· < ·) → D.Pairwise (· < ·) → (∀ x, x ∈ C ↔ x ∈ D) → C = D
  | [], [], _, _, _ => rfl
  | [], y :: D, _, _, h => by have := (h y).2 (by simp); simp at this
  | x :: C, [], _, _, h => by have := (h x).1 (by simp); simp at this
  | x :: C, y :: D, hc, hd, h => by
    rw [List.pairwise_cons] at hc hd
    have e : x = y := by
      have h1 := (h x).1 (by simp)
      have h2 := (h y).2 (by simp)
      rcases List.mem_cons.1 h1 with h1 | h1
      · exact h1
      rcases List.mem_cons.1 h2 with h2 | h2
      · exact h2.symm
      have q1 := hc.1 y h2
      have q2 := hd.1 x h1
      omega
    subst e
    congr 1
    refine rise_int C D hc.2 hd.2 fun z => ?_
    constructor
    · intro hz
      rcases List.mem_cons.1 ((h z).1 (by simp [hz])) with h1 | h1
      · subst h1; have := hc.1 z hz; omega
      · exact h1
    · intro hz
      rcases List.mem_cons.1 ((h z).2 (by simp [hz])) with h1 | h1
      · subst h1; have := hd.1 z hz; omega
      · exact h1
theorem sub_len {α : Type} [DecidableEq α] : ∀ (L M : List α), L.Nodup → (∀ x ∈ L, x ∈ M) → L.length ≤ M.length
  | [], M, _, _ => Nat.zero_le _
  | x :: L, M, h, hs => by
    have hx := hs x (by simp)
    have h' := List.nodup_cons.1 h
    have h2 := sub_len L (M.erase x) h'.2 fun y hy => (List.mem_erase_of_ne (fun e : y = x => h'.1 (by rw [← e]; exact hy))).2 (hs y (by simp [hy]))
    rw [List.length_erase_of_mem hx] at h2
    have h3 := List.length_pos_of_mem hx
    simp only [List.length_cons]
    omega
def eqB2 (x y : P2) : Bool := (x.f == y.f) && (x.t == y.t)
theorem eqB2_iff (x y : P2) : eqB2 x y = true ↔ x = y := by
  unfold eqB2
  simp only [Bool.and_eq_true, beq_iff_eq]
  exact ⟨fun h => p2_ext h.1 h.2, fun h => by subst h; exact ⟨rfl, rfl⟩⟩
def decP2 : DecidableEq P2 := fun x y => decidable_of_iff _ (eqB2_iff x y)
theorem lt_nodup {C : List P2} (h : C.Pairwise Lt) : C.Nodup := h.imp fun {a b} h (e : a = b) => lt_no b (by rw [e] at h; exact h)
theorem sub_len2 {L M : List P2} (h : L.Pairwise Lt) (hs : ∀ x ∈ L, x ∈ M) : L.length ≤ M.length := @sub_len P2 decP2 L M (lt_nodup h) hs
/-- Each once, rising, just these. -/
structure Ord (l C : List P2) : Prop where
  rise : C.Pairwise Lt
  mem : ∀ x, x ∈ C ↔ x ∈ l
theorem Ord.one {l C D : List P2} (h : Ord l C) (k : Ord l D) : C = D := rise_one C D h.rise k.rise fun x => (h.mem x).trans (k.mem x).symm
theorem Ord.len {l C : List P2} (h : Ord l C) : C.length ≤ l.length := sub_len2 h.rise fun x hx => (h.mem x).1 hx
/-- What slices.Compact leaves of a row: of likes side by side the first. -/
def cmpR2 (p : P2) : List P2 → List P2
  | [] => []
  | x :: l => if eqB2 x p then cmpR2 x l else x :: cmpR2 x l
def compP : List P2 → List P2
  | [] => []
  | x :: l => x :: cmpR2 x l
theorem cmpR2_snoc (u : P2) : ∀ (l : List P2) (p v : P2), (p :: l).getLast? = some v → cmpR2 p (l ++ [u]) = cmpR2 p l ++ (if eqB2 u v then [] else [u])
  | [], p, v, h => by
    obtain rfl : p = v := by simpa using h
    simp only [List.nil_append, cmpR2]
  | x :: l, p, v, h => by
    have h' : (x :: l).getLast? = some v := by simpa [List.getLast?_cons_cons] using h
    have ih := cmpR2_snoc u l x v h'
    simp only [List.cons_append, cmpR2]
    split
    · exact ih
    · rw [ih]; rfl
theorem compP_succ {L : List P2} {i : Nat} {u v : P2} (hi : 1 ≤ i) (hu : L[i]? = some u) (hv : L[i - 1]? = some v) : compP (L.take (i + 1)) = compP (L.take i) ++ (if eqB2 u v then [] else [u]) := by
  have hil := (List.getElem?_eq_some_iff.1 hu).1
  have e : L.take (i + 1) = L.take i ++ [u] := by rw [List.take_add_one, hu]; rfl
  rw [e]
  cases hL : L with
  | nil => rw [hL] at hil; simp at hil
  | cons x l =>
    obtain ⟨j, rfl⟩ : ∃ j, i = j + 1 := ⟨i - 1, by omega⟩
    rw [List.take_succ_cons]
    show x :: cmpR2 x (l.take j ++ [u]) = x :: (cmpR2 x (l.take j) ++ _)
    rw [cmpR2_snoc u (l.take j) x v]
    have h1 : (x :: l.take j) = L.take (j + 1) := by rw [hL, List.take_succ_cons]
    rw [h1, List.getLast?_eq_getElem?, List.length_take, Nat.min_eq_left (by omega), List.getElem?_take, if_pos (by omega)]
    exact hv
theorem cmpR2_ok : ∀ (l : List P2) (q : P2), (q :: l).Pairwise (fun x y => ¬ Lt y x) → (q :: cmpR2 q l).Pairwise Lt ∧ ∀ x, x ∈ q :: cmpR2 q l ↔ x ∈ q :: l
  | [], q, h => by
    simp [cmpR2]
  | x :: l, q, h => by
    rw [List.pairwise_cons] at h
    have ih := cmpR2_ok l x h.2
    have hqx := not_lt (h.1 x (by simp))
    unfold cmpR2
    by_cases he : x = q
    · subst he
      rw [if_pos ((eqB2_iff x x).2 rfl)]
      refine ⟨ih.1, fun y => ?_⟩
      rw [ih.2 y]
      simp
    · rw [if_neg (fun h => he ((eqB2_iff x q).1 h))]
      have hlt : Lt q x := by rcases hqx with h | h; exact h; exact absurd h.symm he
      refine ⟨List.pairwise_cons.2 ⟨fun y hy => ?_, ih.1⟩, fun y => ?_⟩
      · rcases List.mem_cons.1 hy with rfl | hy'
        · exact hlt
        · exact lt_trans hlt ((List.pairwise_cons.1 ih.1).1 y hy')
      · rw [List.mem_cons, ih.2 y]; simp
theorem compP_ord {l L : List P2} (h : L.Pairwise (fun x y => ¬ Lt y x)) (hm : ∀ x, x ∈ L ↔ x ∈ l) : Ord l (compP L) := by
  cases L with
  | nil => exact ⟨List.Pairwise.nil, fun x => by rw [← hm]; simp [compP]⟩
  | cons q L =>
    have := cmpR2_ok L q h
    exact ⟨this.1, fun x => (this.2 x).trans (hm x)⟩
/-- The pairs from an id. -/
def lea (C : List P2) (v : Int) : List P2 := C.filter fun x => x.f == v
theorem mem_lea {C : List P2} {v : Int} {x : P2} : x ∈ lea C v ↔ x ∈ C ∧ x.f = v := by simp [lea]
/-- What rows of pairs lead to. -/
inductive Conn (l : List P2) : Int → Int → Prop
  | one {a b : Int} : (⟨a, b⟩ : P2) ∈ l → Conn l a b
  | more {a b c : Int} : Conn l a b → (⟨b, c⟩ : P2) ∈ l → Conn l a c
theorem Conn.trans {l : List P2} {a b c : Int} (h : Conn l a b) (k : Conn l b c) : Conn l a c := by
  induction k with
  | one h1 => exact .more h h1
  | more _ h1 ih => exact .more ih h1
theorem Conn.mono {l C : List P2} (h : ∀ x ∈ l, x ∈ C) {a b : Int} (k : Conn l a b) : Conn C a b := by
  induction k with
  | one h1 => exact .one (h _ h1)
  | more _ h1 ih => exact .more ih (h _ h1)
theorem Conn.of_sub {l C : List P2} (h : ∀ x ∈ C, Conn l x.f x.t) {a b : Int} (k : Conn C a b) : Conn l a b := by
  induction k with
  | one h1 => exact h _ h1
  | more _ h1 ih => exact ih.trans (h _ h1)
theorem Conn.dom {l : List P2} {a b : Int} (h : Conn l a b) : a ∈ l.map P2.f ∧ b ∈ l.map P2.t := by
  induction h with
  | one h1 => exact ⟨List.mem_map.2 ⟨_, h1, rfl⟩, List.mem_map.2 ⟨_, h1, rfl⟩⟩
  | more _ h1 ih => exact ⟨ih.1, List.mem_map.2 ⟨_, h1, rfl⟩⟩
theorem Ord.conn {l C : List P2} (h : Ord l C) (a b : Int) : Conn C a b ↔ Conn l a b :=
  ⟨Conn.mono fun x hx => (h.mem x).1 hx, Conn.mono fun x hx => (h.mem x).2 hx⟩
/-- All pairs that can be reached, in order. -/
structure Clo (l D : List P2) : Prop where
  rise : D.Pairwise Lt
  mem : ∀ x : P2, x ∈ D ↔ Conn l x.f x.t
theorem Clo.one {l C D : List P2} (h : Clo l C) (k : Clo l D) : C = D := rise_one C D h.rise k.rise fun x => (h.mem x).trans (k.mem x).symm
theorem prod_len : ∀ (A B : List Int), (A.flatMap fun a => B.map fun b => (⟨a, b⟩ : P2)).length = A.length * B.length
  | [], B => by simp
  | a :: A, B => by
    rw [List.flatMap_cons, List.length_append, prod_len A B, List.length_map, List.length_cons, Nat.add_mul, Nat.one_mul]; omega
theorem conn_len {l D : List P2} (h : D.Pairwise Lt) (hs : ∀ x ∈ D, Conn l x.f x.t) : D.length ≤ l.length * l.length := by
  have := sub_len2 (M := (l.map P2.f).flatMap fun a => (l.map P2.t).map fun b => (⟨a, b⟩ : P2)) h fun x hx => by
    have := (hs x hx).dom
    rw [List.mem_flatMap]
    exact ⟨x.f, this.1, List.mem_map.2 ⟨x.t, this.2, rfl⟩⟩
  rwa [prod_len, List.length_map, List.length_map] at this
/-- A search along pairs: what was found, and what of the pairs of each id on the way is still to be tried. -/
structure DF (C : List P2) (v0 : Int) (F : List Int) (K : List (List P2)) : Prop where
  nd : F.Nodup
  snd : ∀ v ∈ F, Conn C v0 v
  sub : ∀ R ∈ K, ∀ p ∈ R, p ∈ C ∧ (p.f = v0 ∨ p.f ∈ F)
  cov : ∀ p ∈ C, (p.f = v0 ∨ p.f ∈ F) → p.t ∈ F ∨ ∃ R ∈ K, p ∈ R
theorem DF.start (C : List P2) (v0 : Int) : DF C v0 [] [lea C v0] :=
  ⟨List.nodup_nil, fun v hv => by simp at hv, fun R hR p hp => by
    obtain rfl := List.mem_singleton.1 hR
    have := mem_lea.1 hp
    exact ⟨this.1, .inl this.2⟩, fun p hp h => by
    rcases h with h | h
    · exact .inr ⟨_, by simp, mem_lea.2 ⟨hp, h⟩⟩
    · simp at h⟩
theorem DF.push {C : List P2} {v0 : Int} {F : List Int} {K : List (List P2)} {A B : List P2} {p : P2} (h : DF C v0 F (K ++ [A ++ p :: B])) (hA : ∀ q ∈ A, q.t ∈ F) (hp : p.t ∉ F) : DF C v0 (F ++ [p.t]) (K ++ [B] ++ [lea C p.t]) := by
  have hpC := h.sub (A ++ p :: B) (by simp) p (by simp)
  have hc : Conn C v0 p.t := by
    rcases hpC.2 with e | e
    · exact .one (by rw [← e]; exact hpC.1)
    · exact .more (h.snd _ e) hpC.1
  refine ⟨?_, fun v hv => ?_, fun R hR q hq => ?_, fun q hq hf => ?_⟩
  · rw [List.nodup_append]
    refine ⟨h.nd, by simp, fun a ha b hb e => ?_⟩
    simp at hb
    exact hp (by rw [← hb, ← e]; exact ha)
  · rcases List.mem_append.1 hv with hv | hv
    · exact h.snd v hv
    · obtain rfl := List.mem_singleton.1 hv
      exact hc
  · rcases List.mem_append.1 hR with hR | hR
    · rcases List.mem_append.1 hR with hR | hR
      · obtain ⟨h1, h2⟩ := h.sub R (by simp [hR]) q hq
        exact ⟨h1, h2.imp id fun h => by simp [h]⟩
      · obtain rfl := List.mem_singleton.1 hR
        obtain ⟨h1, h2⟩ := h.sub (A ++ p :: R) (by simp) q (by simp [hq])
        exact ⟨h1, h2.imp id fun h => by simp [h]⟩
    · obtain rfl := List.mem_singleton.1 hR
      have := mem_lea.1 hq
      exact ⟨this.1, .inr (by simp [this.2])⟩
  · by_cases hfo : q.f = v0 ∨ q.f ∈ F
    · rcases h.cov q hq hfo with h1 | ⟨R, hR, h1⟩
      · exact .inl (by simp [h1])
      · rcases List.mem_append.1 hR with hR | hR
        · exact .inr ⟨R, by simp [hR], h1⟩
        · obtain rfl := List.mem_singleton.1 hR
          rcases List.mem_append.1 h1 with h1 | h1
          · exact .inl (by simp [hA q h1])
          · rcases List.mem_cons.1 h1 with rfl | h1
            · exact .inl (by simp)
            · exact .inr ⟨B, by simp, h1⟩
    · have e : q.f = p.t := by
        rcases hf with h1 | h1
        · exact absurd (.inl h1) hfo
        · rcases List.mem_append.1 h1 with h1 | h1
          · exact absurd (.inr h1) hfo
          · simpa using h1
      exact .inr ⟨_, by simp, mem_lea.2 ⟨hq, e⟩⟩
theorem DF.pop {C : List P2} {v0 : Int} {F : List Int} {K : List (List P2)} {R : List P2} (h : DF C v0 F (K ++ [R])) (hR : ∀ q ∈ R, q.t ∈ F) : DF C v0 F K :=
  ⟨h.nd, h.snd, fun R' hR' p hp => h.sub R' (by simp [hR']) p hp, fun p hp hf => by
    rcases h.cov p hp hf with h1 | ⟨R', hR', h1⟩
    · exact .inl h1
    · rcases List.mem_append.1 hR' with h2 | h2
      · exact .inr ⟨R', h2, h1⟩
      · obtain rfl := List.mem_singleton.1 h2
        exact .inl (hR p h1)⟩
theorem DF.done {C : List P2} {v0 : Int} {F : List Int} (h : DF C v0 F []) (v : Int) : v ∈ F ↔ Conn C v0 v := by
  refine ⟨h.snd v, fun hc => ?_⟩
  induction hc with
  | one h1 =>
    rcases h.cov _ h1 (.inl rfl) with h2 | ⟨R, hR, _⟩
    · exact h2
    · simp at hR
  | more _ h1 ih =>
    rcases h.cov _ h1 (.inr ih) with h2 | ⟨R, hR, _⟩
    · exact h2
    · simp at hR
theorem DF.len {C : List P2} {v0 : Int} {F : List Int} {K : List (List P2)} (h : DF C v0 F K) : F.length ≤ C.length := by
  have := sub_len F (C.map P2.t) h.nd fun v hv => (h.snd v hv).dom.2
  rwa [List.length_map] at this
/-- What is reached from an id, rising. -/
structure Rch (l : List P2) (v0 : Int) (F : List Int) : Prop where
  rise : F.Pairwise (· < ·)
  mem : ∀ v, v ∈ F ↔ Conn l v0 v
theorem Rch.one {l : List P2} {v0 : Int} {F G : List Int} (h : Rch l v0 F) (k : Rch l v0 G) : F = G := rise_int F G h.rise k.rise fun x => (h.mem x).trans (k.mem x).symm
theorem nodup_rise {F : List Int} (h : F.Pairwise (· ≤ ·)) (hn : F.Nodup) : F.Pairwise (· < ·) := by
  have := h.and hn
  exact this.imp fun {a b} h => by have h1 := h.1; have h2 : a ≠ b := h.2; omega
theorem sorted_le (F : List Int) : (F.mergeSort fun x y => decide (x ≤ y)).Pairwise (· ≤ ·) := by
  have := List.pairwise_mergeSort (le := fun x y : Int => decide (x ≤ y)) (fun a b c h1 h2 => by simp at *; omega) (fun a b => by simp; omega) F
  exact this.imp fun h => by simpa using h
theorem DF.rch {C : List P2} {v0 : Int} {F : List Int} (h : DF C v0 F []) : Rch C v0 (F.mergeSort fun x y => decide (x ≤ y)) :=
  ⟨nodup_rise (sorted_le F) ((List.mergeSort_perm F _).nodup_iff.2 h.nd), fun v => by rw [List.mem_mergeSort]; exact h.done v⟩
theorem Rch.len {C : List P2} {v0 : Int} {F : List Int} (h : Rch C v0 F) : F.length ≤ C.length := by
  have := sub_len F (C.map P2.t) (h.rise.imp fun h e => by omega) fun v hv => ((h.mem v).1 hv).dom.2
  rwa [List.length_map] at this
/-- Where pairs lead to from an id. -/
def tgt (C : List P2) (v : Int) : List Int := (lea C v).map P2.t
theorem tgt_rise {C : List P2} (h : C.Pairwise Lt) (v : Int) : (tgt C v).Pairwise (· < ·) := by
  unfold tgt lea
  rw [List.pairwise_map]
  refine (h.filter _).imp_of_mem ?_
  intro a b ha hb hl
  have h1 := (List.mem_filter.1 ha).2
  have h2 := (List.mem_filter.1 hb).2
  simp at h1 h2
  unfold Lt at hl
  omega
theorem mem_tgt {C : List P2} {v x : Int} : x ∈ tgt C v ↔ (⟨v, x⟩ : P2) ∈ C := by
  unfold tgt
  rw [List.mem_map]
  constructor
  · rintro ⟨p, hp, rfl⟩
    obtain ⟨h1, h2⟩ := mem_lea.1 hp
    rw [← h2]; exact h1
  · intro h; exact ⟨_, mem_lea.2 ⟨h, rfl⟩, rfl⟩
theorem Clo.tgt {l D : List P2} (h : Clo l D) (v : Int) : Rch l v (tgt D v) := ⟨tgt_rise h.rise v, fun x => mem_tgt.trans (h.mem _)⟩
end Go.Proofs.Ytnngldkpkhabeaa.Pai
