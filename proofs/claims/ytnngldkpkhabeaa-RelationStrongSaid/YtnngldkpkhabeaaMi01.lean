/- Transitions: a search that finds groups: plain. It says nothing of the program. No condition. Transitions: a search from any id, and an id's group. Condition: at most 1000 ids. Transitions: a search from any id (goFrom), and an id's group (groupOf). Condition: at most 1000 ids. -/
import Derived.Test.YtnngldkpkhabeaaMh01
import Derived.Test.YtnngldkpkhabeaaMg25
import Derived.Test.YtnngldkpkhabeaaMg27
namespace Go.Proofs.Ytnngldkpkhabeaa.Pai

set_option linter.unusedVariables false

set_option linter.unusedSimpArgs false

/-- Rows of pairs lead there, or it is there. -/
def Rs (l : List P2) (a b : Int) : Prop := a = b ∨ Conn l a b
theorem Rs.trans {l : List P2} {a b c : Int} (h : Rs l a b) (k : Rs l b c) : Rs l a c := by
  rcases h with rfl | h
  · exact k
  · rcases k with rfl | k
    · exact .inr h
    · exact .inr (h.trans k)
theorem Rs.one {l : List P2} {a b : Int} (h : (⟨a, b⟩ : P2) ∈ l) : Rs l a b := .inr (.one h)
/-- What is shut under pairs keeps all that its own lead to. -/
theorem Rs.shut {l : List P2} {S : Int → Prop} (h : ∀ u t, S u → (⟨u, t⟩ : P2) ∈ l → S t) {a b : Int} (k : Rs l a b) (ha : S a) : S b := by
  rcases k with rfl | k
  · exact ha
  · induction k with
    | one h1 => exact h _ _ ha h1
    | more _ h1 ih => exact h _ _ ih h1
/-- The search: on the way K, open O, when met M, how early each reaches C, the groups G, so many met n. -/
structure TJ (l : List P2) (K O : List Int) (rest : Int → List Int) (M C : Int → Int) (G : Int → Option Int) (n : Int) : Prop where
  mn : ∀ v, 0 ≤ M v ∧ M v ≤ n
  od : O.Pairwise (fun a b => M a < M b)
  om : ∀ v ∈ O, M v ≠ 0 ∧ G v = none
  mo : ∀ v, M v ≠ 0 → v ∈ O ∨ G v ≠ none
  gm : ∀ v, G v ≠ none → M v ≠ 0
  kd : K.Pairwise (fun a b => M a < M b)
  ko : ∀ v ∈ K, v ∈ O
  kc : ∀ A a b B, K = A ++ a :: b :: B → (⟨a, b⟩ : P2) ∈ l
  g1 : ∀ u t, G u ≠ none → (⟨u, t⟩ : P2) ∈ l → G t ≠ none
  g2 : ∀ u a, G u = some a → Rs l u a ∧ Rs l a u
  g3 : ∀ u v a b, G u = some a → G v = some b → Rs l u v → Rs l v u → a = b
  i3a : ∀ u ∈ O, ∃ h ∈ K, M h ≤ M u ∧ Rs l u h
  i3b : ∀ g ∈ K, ∀ u ∈ O, M g ≤ M u → Rs l g u
  i4 : ∀ u ∈ O, u ∉ K → ∀ t, (⟨u, t⟩ : P2) ∈ l → G t ≠ none ∨ (t ∈ O ∧ C u ≤ M t)
  i5 : ∀ u ∈ O, u ∉ K → ∀ g ∈ K, M g < M u → (∀ h ∈ K, M h < M u → M h ≤ M g) → ∃ t ∈ O, (⟨g, t⟩ : P2) ∈ l ∧ M t ≤ M u ∧ C t ≤ C u
  i6 : ∀ x ∈ O, C x ≤ M x ∧ ∃ y ∈ O, M y = C x ∧ Rs l x y
  ck : ∀ x ∈ K, C x = M x
  i7 : ∀ u t, (⟨u, t⟩ : P2) ∈ l → M t ≠ 0 ∨ t ∈ rest u
section

variable {l : List P2} {K O : List Int} {rest : Int → List Int} {M C : Int → Int} {G : Int → Option Int} {n : Int}

theorem TJ.inj (f : TJ l K O rest M C G n) {u v : Int} (hu : u ∈ O) (hv : v ∈ O) (h : M u = M v) : u = v := by
  have hp := f.od
  clear f
  induction O with
  | nil => cases hu
  | cons x O ih =>
    rw [List.pairwise_cons] at hp
    rcases List.mem_cons.1 hu with hu1 | hu1
    · rcases List.mem_cons.1 hv with hv1 | hv1
      · rw [hu1, hv1]
      · have := hp.1 v hv1; rw [hu1] at h; omega
    · rcases List.mem_cons.1 hv with hv1 | hv1
      · have := hp.1 u hu1; rw [hv1] at h; omega
      · exact ih hu1 hv1 hp.2
theorem TJ.start (l : List P2) (rest : Int → List Int) (h : ∀ u t, (⟨u, t⟩ : P2) ∈ l → t ∈ rest u) : TJ l [] [] rest (fun _ => 0) (fun _ => 0) (fun _ => none) 0 where
  mn := fun v => by simp
  od := .nil
  om := by simp
  mo := by simp
  gm := by simp
  kd := .nil
  ko := by simp
  kc := by simp
  g1 := by simp
  g2 := by simp
  g3 := by simp
  i3a := by simp
  i3b := by simp
  i4 := by simp
  i5 := by simp
  i6 := by simp
  ck := by simp
  i7 := fun u t h1 => .inr (h u t h1)
/-- One is met. -/
theorem TJ.meet (f : TJ l K O rest M C G n) (hn : 0 ≤ n) {v : Int} (hv : M v = 0) (hK : ∀ A g, K = A ++ [g] → (⟨g, v⟩ : P2) ∈ l)
    {M' C' : Int → Int} (hM : ∀ i, M' i = if i = v then n + 1 else M i) (hC : ∀ i, C' i = if i = v then n + 1 else C i) {rest' : Int → List Int} (hr : ∀ u t, t ∈ rest u → M' t ≠ 0 ∨ t ∈ rest' u) :
    TJ l (K ++ [v]) (O ++ [v]) rest' M' C' G (n + 1) := by
  have hvO : v ∉ O := fun h => (f.om v h).1 hv
  have hvK : v ∉ K := fun h => hvO (f.ko v h)
  have hvG : G v = none := Classical.byContradiction fun h => f.gm v h hv
  have eM : ∀ u, u ≠ v → M' u = M u := fun u h => by rw [hM, if_neg h]
  have eC : ∀ u, u ≠ v → C' u = C u := fun u h => by rw [hC, if_neg h]
  have eMv : M' v = n + 1 := by rw [hM, if_pos rfl]
  have eCv : C' v = n + 1 := by rw [hC, if_pos rfl]
  have nO : ∀ u ∈ O, u ≠ v := fun u h e => hvO (e ▸ h)
  have nK : ∀ u ∈ K, u ≠ v := fun u h e => hvK (e ▸ h)
  have lO : ∀ u ∈ O, M' u = M u := fun u h => eM u (nO u h)
  have lK : ∀ u ∈ K, M' u = M u := fun u h => eM u (nK u h)
  have hlast : ∀ g ∈ K, Rs l g v := by
    intro g hg
    obtain ⟨A, x, hx⟩ : ∃ A x, K = A ++ [x] := by
      rcases List.eq_nil_or_concat K with h | ⟨A, x, h⟩
      · rw [h] at hg; cases hg
      · exact ⟨A, x, by rw [h]; simp⟩
    have hE := hK A x hx
    have hgx : M g ≤ M x := by
      have hd := f.kd
      rw [hx, List.pairwise_append] at hd
      rw [hx] at hg
      rcases List.mem_append.1 hg with h | h
      · have := hd.2.2 g h x (by simp); omega
      · obtain rfl := List.mem_singleton.1 h; exact Int.le_refl _
    exact (f.i3b g hg x (f.ko x (by rw [hx]; simp)) hgx).trans (.one hE)
  refine ⟨fun u => ?_, ?_, ?_, ?_, ?_, ?_, ?_, ?_, f.g1, f.g2, f.g3, ?_, ?_, ?_, ?_, ?_, ?_, ?_⟩
  · have := f.mn u
    rw [hM]
    split <;> omega
  · rw [List.pairwise_append]
    refine ⟨f.od.imp_of_mem fun {a b} ha hb h => by rw [lO a ha, lO b hb]; exact h, by simp, fun a ha b hb => ?_⟩
    obtain rfl := List.mem_singleton.1 hb
    rw [lO a ha, eMv]
    have := f.mn a; omega
  · intro u hu
    rcases List.mem_append.1 hu with h | h
    · rw [lO u h]; exact f.om u h
    · obtain rfl := List.mem_singleton.1 h
      exact ⟨by omega, hvG⟩
  · intro u hu
    by_cases e : u = v
    · exact .inl (by simp [e])
    · rw [eM u e] at hu
      rcases f.mo u hu with h | h
      · exact .inl (by simp [h])
      · exact .inr h
  · intro u hu
    rw [eM u (fun e => hu (e ▸ hvG))]
    exact f.gm u hu
  · rw [List.pairwise_append]
    refine ⟨f.kd.imp_of_mem fun {a b} ha hb h => by rw [lK a ha, lK b hb]; exact h, by simp, fun a ha b hb => ?_⟩
    obtain rfl := List.mem_singleton.1 hb
    rw [lK a ha, eMv]
    have := f.mn a; omega
  · intro u hu
    rcases List.mem_append.1 hu with h | h
    · simp [f.ko u h]
    · simp [List.mem_singleton.1 h]
  · intro A a b B h
    rcases List.eq_nil_or_concat B with hB | ⟨B0, x, hB⟩
    · subst hB
      have h2 : K ++ [v] = (A ++ [a]) ++ [b] := by rw [h]; simp
      obtain ⟨h3, h4⟩ := List.append_inj' h2 rfl
      have h5 : v = b := by simpa using h4
      rw [← h5]
      exact hK A a h3
    · subst hB
      have h2 : K ++ [v] = (A ++ a :: b :: B0) ++ [x] := by rw [h]; simp
      obtain ⟨h3, h4⟩ := List.append_inj' h2 rfl
      exact f.kc A a b B0 h3
  · intro u hu
    rcases List.mem_append.1 hu with h | h
    · obtain ⟨g, hg, h1, h2⟩ := f.i3a u h
      exact ⟨g, by simp [hg], by rw [lK g hg, lO u h]; exact h1, h2⟩
    · obtain rfl := List.mem_singleton.1 h
      exact ⟨u, by simp, Int.le_refl _, .inl rfl⟩
  · intro g hg u hu hle
    rcases List.mem_append.1 hu with h | h
    · rcases List.mem_append.1 hg with hg | hg
      · rw [lK g hg, lO u h] at hle
        exact f.i3b g hg u h hle
      · obtain rfl := List.mem_singleton.1 hg
        rw [eMv, lO u h] at hle
        have := f.mn u; omega
    · obtain rfl := List.mem_singleton.1 h
      rcases List.mem_append.1 hg with hg | hg
      · exact hlast g hg
      · obtain rfl := List.mem_singleton.1 hg
        exact .inl rfl
  · intro u hu hk t ht
    have huO : u ∈ O := by
      rcases List.mem_append.1 hu with h | h
      · exact h
      · exact absurd (by simp [List.mem_singleton.1 h]) hk
    rcases f.i4 u huO (fun h => hk (by simp [h])) t ht with h | ⟨h, h2⟩
    · exact .inl h
    · exact .inr ⟨by simp [h], by rw [eC u (nO u huO), lO t h]; exact h2⟩
  · intro u hu hk g hg hlt hmax
    have huO : u ∈ O := by
      rcases List.mem_append.1 hu with h | h
      · exact h
      · exact absurd (by simp [List.mem_singleton.1 h]) hk
    have hgK : g ∈ K := by
      rcases List.mem_append.1 hg with h | h
      · exact h
      · obtain rfl := List.mem_singleton.1 h
        rw [eMv, lO u huO] at hlt
        have := f.mn u; omega
    rw [lK g hgK, lO u huO] at hlt
    obtain ⟨t, ht, h1, h2, h3⟩ := f.i5 u huO (fun h => hk (by simp [h])) g hgK hlt (fun h hh hlt2 => by
      have := hmax h (by simp [hh]) (by rw [lK h hh, lO u huO]; exact hlt2)
      rw [lK h hh, lK g hgK] at this; exact this)
    exact ⟨t, by simp [ht], h1, by rw [lO t ht, lO u huO]; exact h2, by rw [eC t (nO t ht), eC u (nO u huO)]; exact h3⟩
  · intro x hx
    rcases List.mem_append.1 hx with h | h
    · obtain ⟨h1, y, hy, h2, h3⟩ := f.i6 x h
      rw [eC x (nO x h), lO x h]
      exact ⟨h1, y, by simp [hy], by rw [lO y hy]; exact h2, h3⟩
    · obtain rfl := List.mem_singleton.1 h
      exact ⟨by omega, x, by simp, by omega, .inl rfl⟩
  · intro x hx
    rcases List.mem_append.1 hx with h | h
    · rw [eC x (nK x h), lK x h]; exact f.ck x h
    · obtain rfl := List.mem_singleton.1 h
      omega
  · intro u t ht
    rcases f.i7 u t ht with h | h
    · left
      rw [hM]
      split
      · omega
      · exact h
    · exact hr u t h
/-- All that one on the way leads to was met: it is left. -/
structure Lf (l : List P2) (g : Int) (M C C' : Int → Int) (G : Int → Option Int) : Prop where
  other : ∀ i, i ≠ g → C' i = C i
  le : C' g ≤ C g
  all : ∀ t, (⟨g, t⟩ : P2) ∈ l → G t = none → C' g ≤ C t
  at_ : C' g = C g ∨ ∃ t, (⟨g, t⟩ : P2) ∈ l ∧ G t = none ∧ C' g = C t
  met : ∀ t, (⟨g, t⟩ : P2) ∈ l → M t ≠ 0
theorem TJ.top {g : Int} (f : TJ l (K ++ [g]) O rest M C G n) : g ∈ O ∧ g ∉ K ∧ (∀ h ∈ K, M h < M g) ∧ C g = M g := by
  have hd := f.kd
  rw [List.pairwise_append] at hd
  exact ⟨f.ko g (by simp), fun h => by have := hd.2.2 g h g (by simp); omega, fun h hh => hd.2.2 h hh g (by simp), f.ck g (by simp)⟩
/-- What each open one above reaches is no earlier than what the top does. -/
theorem TJ.above {g : Int} (f : TJ l (K ++ [g]) O rest M C G n) {C' : Int → Int} (k : Lf l g M C C' G) : ∀ u ∈ O, M g < M u → C' g ≤ C u := by
  obtain ⟨t1, t2, t3, t4⟩ := f.top
  intro u hu hlt
  have huK : u ∉ K ++ [g] := fun h => by
    rcases List.mem_append.1 h with h | h
    · have := t3 u h; omega
    · have := List.mem_singleton.1 h; subst this; omega
  obtain ⟨t, ht, h1, h2, h3⟩ := f.i5 u hu huK g (by simp) hlt (fun h hh _ => by
    rcases List.mem_append.1 hh with h | h
    · exact Int.le_of_lt (t3 _ h)
    · rw [List.mem_singleton.1 h]; exact Int.le_refl _)
  have := k.all t h1 (f.om t ht).2
  omega
/-- One is left that reaches an earlier one. -/
theorem TJ.leave {g : Int} (f : TJ l (K ++ [g]) O rest M C G n) {C' : Int → Int} (k : Lf l g M C C' G) (hne : C' g ≠ M g) : TJ l K O rest M C' G n := by
  obtain ⟨t1, t2, t3, t4⟩ := f.top
  have hab := f.above k
  have hlow : C' g < M g := by have := k.le; omega
  have hle : ∀ i, C' i ≤ C i := fun i => by
    by_cases e : i = g
    · rw [e]; exact k.le
    · rw [k.other i e]; exact Int.le_refl _
  have hkd := f.kd
  rw [List.pairwise_append] at hkd
  -- an open one that it reaches, with that time
  have hy : ∃ y ∈ O, M y = C' g ∧ Rs l g y := by
    rcases k.at_ with h | ⟨t, h1, h2, h3⟩
    · omega
    · have htO : t ∈ O := (f.mo t (k.met t h1)).resolve_right (fun h => h h2)
      obtain ⟨_, y, hy, h4, h5⟩ := f.i6 t htO
      exact ⟨y, hy, by omega, (Rs.one h1).trans h5⟩
  have hg : ∃ h ∈ K, M h ≤ M g ∧ Rs l g h := by
    obtain ⟨y, hy, h1, h2⟩ := hy
    obtain ⟨h, hh, h3, h4⟩ := f.i3a y hy
    rcases List.mem_append.1 hh with hk | hk
    · exact ⟨h, hk, by omega, h2.trans h4⟩
    · obtain rfl := List.mem_singleton.1 hk
      omega
  refine ⟨f.mn, f.od, f.om, f.mo, f.gm, hkd.1, fun v hv => f.ko v (by simp [hv]), fun A a b B h => f.kc A a b (B ++ [g]) (by rw [h]; simp), f.g1, f.g2, f.g3, ?_, fun h hh u hu => f.i3b h (by simp [hh]) u hu, ?_, ?_, ?_, ?_, f.i7⟩
  · intro u hu
    obtain ⟨h, hh, h1, h2⟩ := f.i3a u hu
    rcases List.mem_append.1 hh with hk | hk
    · exact ⟨h, hk, h1, h2⟩
    · obtain rfl := List.mem_singleton.1 hk
      obtain ⟨h', hh', h3, h4⟩ := hg
      exact ⟨h', hh', by omega, h2.trans h4⟩
  · intro u hu hk t ht
    by_cases e : u = g
    · subst e
      by_cases hG : G t = none
      · have htO : t ∈ O := (f.mo t (k.met t ht)).resolve_right (fun h => h hG)
        have := k.all t ht hG
        have := (f.i6 t htO).1
        exact .inr ⟨htO, by omega⟩
      · exact .inl hG
    · rw [k.other u e]
      exact f.i4 u hu (fun h => by rcases List.mem_append.1 h with h | h; exact hk h; exact e (List.mem_singleton.1 h)) t ht
  · intro u hu hk p hp hlt hmax
    by_cases hug : M u < M g
    · have e : u ≠ g := fun e => by rw [e] at hug; omega
      obtain ⟨t, ht, h1, h2, h3⟩ := f.i5 u hu (fun h => by rcases List.mem_append.1 h with h | h; exact hk h; exact e (List.mem_singleton.1 h)) p (by simp [hp]) hlt (fun h hh hl => by
        rcases List.mem_append.1 hh with hh | hh
        · exact hmax h hh hl
        · rw [List.mem_singleton.1 hh] at hl ⊢; omega)
      exact ⟨t, ht, h1, h2, by rw [k.other u e]; exact Int.le_trans (hle t) h3⟩
    · -- the pair that led here is the last one's of those that stay
      obtain ⟨A, x, hx⟩ : ∃ A x, K = A ++ [x] := by
        rcases List.eq_nil_or_concat K with h | ⟨A, x, h⟩
        · rw [h] at hp; cases hp
        · exact ⟨A, x, by rw [h]; simp⟩
      have hxK : x ∈ K := by rw [hx]; simp
      have hpx : p = x := by
        have h1 := hmax x hxK (by have := t3 x hxK; omega)
        have h2 : M p ≤ M x := by
          have hd := hkd.1
          rw [hx, List.pairwise_append] at hd
          rw [hx] at hp
          rcases List.mem_append.1 hp with h | h
          · have := hd.2.2 p h x (by simp); omega
          · rw [List.mem_singleton.1 h]; exact Int.le_refl _
        exact f.inj (f.ko p (by simp [hp])) (f.ko x (by simp [hxK])) (by omega)
      subst hpx
      refine ⟨g, t1, f.kc A p g [] (by rw [hx]; simp), by omega, ?_⟩
      by_cases e : u = g
      · rw [e]; exact Int.le_refl _
      · rw [k.other u e]
        refine hab u hu ?_
        rcases Int.lt_or_le (M g) (M u) with h | h
        · exact h
        · exact absurd (f.inj hu t1 (by omega)) e
  · intro x hx
    by_cases e : x = g
    · subst e
      exact ⟨by omega, by obtain ⟨y, h1, h2, h3⟩ := hy; exact ⟨y, h1, h2, h3⟩⟩
    · rw [k.other x e]; exact f.i6 x hx
  · intro x hx
    rw [k.other x (fun e => t2 (e ▸ hx))]
    exact f.ck x (by simp [hx])
/-- One is left that is the first of a group. -/
theorem TJ.close {g : Int} {A B : List Int} (f : TJ l (K ++ [g]) (A ++ [g] ++ B) rest M C G n) {C' : Int → Int} (k : Lf l g M C C' G) (he : C' g = M g)
    {G' : Int → Option Int} (hG : ∀ i, G' i = if i ∈ g :: B then some g else G i) : TJ l K A rest M C' G' n := by
  obtain ⟨t1, t2, t3, t4⟩ := f.top
  have hab := f.above k
  have hkd := f.kd
  rw [List.pairwise_append] at hkd
  have hod := f.od
  rw [List.pairwise_append, List.pairwise_append] at hod
  have hA : ∀ a ∈ A, M a < M g := fun a ha => hod.1.2.2 a ha g (by simp)
  have hB : ∀ b ∈ B, M g < M b := fun b hb => hod.2.2 g (by simp) b hb
  have hAB : ∀ u ∈ A ++ [g] ++ B, u ∈ A ∨ u ∈ g :: B := fun u hu => by simp at hu ⊢; exact hu
  have hA2 : ∀ u ∈ A ++ [g] ++ B, M u < M g → u ∈ A := fun u hu hl => by
    rcases hAB u hu with h | h
    · exact h
    · rcases List.mem_cons.1 h with rfl | h
      · omega
      · have := hB u h; omega
  have hnA : ∀ a ∈ A, a ∉ g :: B := fun a ha h => by
    have h1 := hA a ha
    rcases List.mem_cons.1 h with rfl | h
    · omega
    · have := hB a h; omega
  have hgA : ∀ a ∈ A, a ≠ g := fun a ha e => hnA a ha (by simp [e])
  have hKA : ∀ h ∈ K, h ∈ A := fun h hh => hA2 h (f.ko h (by simp [hh])) (t3 h hh)
  have hGn : ∀ i, G' i ≠ none ↔ (i ∈ g :: B ∨ G i ≠ none) := fun i => by
    rw [hG]
    split
    · rename_i h; simp [h]
    · rename_i h; simp [h]
  have hGO : ∀ u ∈ g :: B, u ∈ A ++ [g] ++ B ∧ G u = none := fun u hu => by
    have : u ∈ A ++ [g] ++ B := by simp at hu ⊢; exact .inr hu
    exact ⟨this, (f.om u this).2⟩
  -- shut under pairs
  have hsh : ∀ u t, u ∈ g :: B → (⟨u, t⟩ : P2) ∈ l → t ∈ g :: B ∨ G t ≠ none := by
    intro u t hu ht
    have hfin : ∀ t, t ∈ A ++ [g] ++ B → M g ≤ M t → t ∈ g :: B := fun t h hl => by
      rcases hAB t h with h | h
      · have := hA t h; omega
      · exact h
    by_cases e : u = g
    · subst e
      by_cases hGt : G t = none
      · have htO := (f.mo t (k.met t ht)).resolve_right (fun h => h hGt)
        have := k.all t ht hGt
        have := (f.i6 t htO).1
        exact .inl (hfin t htO (by omega))
      · exact .inr hGt
    · have huB : u ∈ B := (List.mem_cons.1 hu).resolve_left e
      have hul := hB u huB
      have huK : u ∉ K ++ [g] := fun h => by
        rcases List.mem_append.1 h with h | h
        · have := t3 u h; omega
        · exact e (List.mem_singleton.1 h)
      rcases f.i4 u (by simp [huB]) huK t ht with h | ⟨h, h2⟩
      · exact .inr h
      · have := hab u (by simp [huB]) hul
        exact .inl (hfin t h (by omega))
  have hreach : ∀ u ∈ g :: B, Rs l u g ∧ Rs l g u := by
    intro u hu
    have hle : M g ≤ M u := by
      rcases List.mem_cons.1 hu with rfl | h
      · exact Int.le_refl _
      · exact Int.le_of_lt (hB u h)
    refine ⟨?_, f.i3b g (by simp) u (hGO u hu).1 hle⟩
    obtain ⟨h, hh, h1, h2⟩ := f.i3a u (hGO u hu).1
    refine h2.trans (f.i3b h hh g t1 ?_)
    rcases List.mem_append.1 hh with hk | hk
    · exact Int.le_of_lt (t3 h hk)
    · rw [List.mem_singleton.1 hk]; exact Int.le_refl _
  have hold : ∀ u v, G u ≠ none → v ∈ g :: B → ¬ Rs l u v := fun u v hu hv hr => Rs.shut (S := fun x => G x ≠ none) f.g1 hr hu (hGO v hv).2
  have hGa : ∀ u a, G' u = some a → (u ∈ g :: B ∧ a = g) ∨ (u ∉ g :: B ∧ G u = some a) := fun u a h => by
    rw [hG] at h
    split at h
    · rename_i h1; exact .inl ⟨h1, (Option.some.inj h).symm⟩
    · rename_i h1; exact .inr ⟨h1, h⟩
  refine ⟨f.mn, hod.1.1, ?_, ?_, ?_, hkd.1, hKA, fun A a b B h => f.kc A a b (B ++ [g]) (by rw [h]; simp), ?_, ?_, ?_, ?_, fun h hh u hu => f.i3b h (by simp [hh]) u (by simp [hu]), ?_, ?_, ?_, ?_, f.i7⟩
  · intro u hu
    refine ⟨(f.om u (by simp [hu])).1, ?_⟩
    rw [hG, if_neg (hnA u hu)]
    exact (f.om u (by simp [hu])).2
  · intro u hu
    rcases f.mo u hu with h | h
    · rcases hAB u h with h | h
      · exact .inl h
      · exact .inr ((hGn u).2 (.inl h))
    · exact .inr ((hGn u).2 (.inr h))
  · intro u hu
    rcases (hGn u).1 hu with h | h
    · exact (f.om u (hGO u h).1).1
    · exact f.gm u h
  · intro u t hu ht
    rw [hGn]
    rcases (hGn u).1 hu with h | h
    · exact hsh u t h ht
    · exact .inr (f.g1 u t h ht)
  · intro u a h
    rcases hGa u a h with ⟨h1, rfl⟩ | ⟨_, h1⟩
    · exact hreach u h1
    · exact f.g2 u a h1
  · intro u v a b hu hv h1 h2
    rcases hGa u a hu with ⟨u1, rfl⟩ | ⟨_, u1⟩
    · rcases hGa v b hv with ⟨v1, rfl⟩ | ⟨_, v1⟩
      · rfl
      · exact absurd h2 (hold v u (by rw [v1]; simp) u1)
    · rcases hGa v b hv with ⟨v1, rfl⟩ | ⟨_, v1⟩
      · exact absurd h1 (hold u v (by rw [u1]; simp) v1)
      · exact f.g3 u v a b u1 v1 h1 h2
  · intro u hu
    obtain ⟨h, hh, h1, h2⟩ := f.i3a u (by simp [hu])
    rcases List.mem_append.1 hh with hk | hk
    · exact ⟨h, hk, h1, h2⟩
    · rw [List.mem_singleton.1 hk] at h1
      have := hA u hu; omega
  · intro u hu hk t ht
    rw [k.other u (hgA u hu), hGn]
    rcases f.i4 u (by simp [hu]) (fun h => by rcases List.mem_append.1 h with h | h; exact hk h; exact hgA u hu (List.mem_singleton.1 h)) t ht with h | ⟨h, h2⟩
    · exact .inl (.inr h)
    · rcases hAB t h with h | h
      · exact .inr ⟨h, h2⟩
      · exact .inl (.inl h)
  · intro u hu hk p hp hlt hmax
    have hul := hA u hu
    obtain ⟨t, ht, h1, h2, h3⟩ := f.i5 u (by simp [hu]) (fun h => by rcases List.mem_append.1 h with h | h; exact hk h; exact hgA u hu (List.mem_singleton.1 h)) p (by simp [hp]) hlt (fun h hh hl => by
      rcases List.mem_append.1 hh with hh | hh
      · exact hmax h hh hl
      · rw [List.mem_singleton.1 hh] at hl ⊢; omega)
    have htA := hA2 t ht (by omega)
    exact ⟨t, htA, h1, h2, by rw [k.other t (hgA t htA), k.other u (hgA u hu)]; exact h3⟩
  · intro x hx
    rw [k.other x (hgA x hx)]
    obtain ⟨h1, y, hy, h2, h3⟩ := f.i6 x (by simp [hx])
    exact ⟨h1, y, hA2 y hy (by have := hA x hx; omega), h2, h3⟩
  · intro x hx
    rw [k.other x (hgA x (hKA x hx))]
    exact f.ck x (by simp [hx])
theorem TJ.done (f : TJ l [] O rest M C G n) : O = [] := by
  rcases O with _ | ⟨u, O⟩
  · rfl
  · obtain ⟨h, hh, _⟩ := f.i3a u (by simp)
    cases hh
/-- Where nothing is open, groups tell who leads to one another. -/
theorem TJ.same (f : TJ l K O rest M C G n) {u v a b : Int} (hu : G u = some a) (hv : G v = some b) : a = b ↔ (Rs l u v ∧ Rs l v u) := by
  constructor
  · rintro rfl
    exact ⟨(f.g2 u a hu).1.trans (f.g2 v a hv).2, (f.g2 v a hv).1.trans (f.g2 u a hu).2⟩
  · intro h
    exact f.g3 u v a b hu hv h.1 h.2
end

end Go.Proofs.Ytnngldkpkhabeaa.Pai
namespace Go.Proofs.Ytnngldkpkhabeaa.Rel

open Go.RowKit Go.PlainAid Go.Proofs.Ytnngldkpkhabeaa.Oct Go.Proofs.Ytnngldkpkhabeaa.Flt Go.Proofs.Ytnngldkpkhabeaa.Rdr Go.Proofs.Ytnngldkpkhabeaa.Args Go.Proofs.Ytnngldkpkhabeaa.Win Go.Proofs.Ytnngldkpkhabeaa.Mpv

open Go.Proofs.Ytnngldkpkhabeaa.Pai (P2 Rs TJ Lf sub_len)

set_option linter.unusedVariables false

set_option linter.unusedSimpArgs false

theorem exLeast {P : Nat → Prop} : (∃ m, P m) → ∃ m, P m ∧ ∀ k, P k → m ≤ k := by
  rintro ⟨m, hm⟩
  induction m using Nat.strongRecOn with
  | _ m ih =>
    by_cases h : ∃ k, P k ∧ k < m
    · obtain ⟨k, h1, h2⟩ := h
      exact ih k h2 h1
    · exact ⟨m, hm, fun k hk => by
        rcases Nat.lt_or_ge k m with h2 | h2
        · exact absurd ⟨k, hk, h2⟩ h
        · exact h2⟩
open Classical in

noncomputable def leastM (P : Nat → Prop) : Nat := if h : ∃ m, P m then Classical.choose (exLeast h) else 0
theorem leastM_at {P : Nat → Prop} (h : ∃ m, P m) : P (leastM P) := by
  unfold leastM
  rw [dif_pos h]
  exact (Classical.choose_spec (exLeast h)).1
theorem leastM_le {P : Nat → Prop} {k : Nat} (h : P k) : leastM P ≤ k := by
  unfold leastM
  rw [dif_pos ⟨k, h⟩]
  exact (Classical.choose_spec (exLeast ⟨k, h⟩)).2 k h
set_option maxRecDepth 8000 in
theorem run_tailI (A : Option Addr) (n c i : Nat) (hi : i ≤ n) (hn : n ≤ c) (hnil : A = none → c = 0) (hz : ∀ y, A = some y → ∃ g o, y = ⟨g, o, none⟩) (I : Int) (hI : I = (i : Int)) :
    ∃ A' c', (∀ W : World, (Instr.slice 29 (.slice A n c) (some (.int .i64 I)) none none).run Try.prog W = .ok (.slice A' (n - i) c') W) ∧ n - i ≤ c' ∧ (A' = none → c' = 0) ∧ (∀ y, A' = some y → ∃ g o, y = ⟨g, o, none⟩) ∧ (∀ y, A' = some y → ∃ x, A = some x ∧ y.block = x.block) ∧ ∀ (w : World) (R : List Int), R.length = n → RowAt w A R → RowAt w A' (R.drop i) := by
  subst hI
  by_cases hc : c - i = 0
  · have e0 : n - i = 0 := by omega
    refine ⟨A, 0, fun W => ?_, by omega, fun _ => rfl, hz, fun y h => ⟨y, h, rfl⟩, fun w R hR h k x hx => ?_⟩
    · rw [run_slice_l (P := Try.prog) W 29 A n c rfl .i64 (i : Int) (by omega) (by omega)]
      have e1 : c - i = 0 := hc
      have e2 : n - i = 0 := e0
      cases A <;> go_simp <;> simp_all [sliced]
      all_goals (intro h; exact absurd (by omega) h)
    · rw [List.drop_of_length_le (by omega)] at hx; simp at hx
  · cases hA : A with
    | none => have := hnil hA; omega
    | some y =>
      obtain ⟨g, o, rfl⟩ := hz y hA
      refine ⟨some ⟨g, o + i, none⟩, c - i, fun W => ?_, by omega, fun h => by simp at h, fun y h => ⟨g, o + i, (Option.some.inj h).symm⟩, fun y h => ⟨_, rfl, by rw [← Option.some.inj h]⟩, fun w R hR h k x hx => ?_⟩
      · rw [run_slice_l (P := Try.prog) W 29 (some ⟨g, o, none⟩) n c rfl .i64 (i : Int) (by omega) (by omega)]
        have e1 : ¬ c - i = 0 := hc
        go_simp
        try (unfold Addr.add; split <;> simp_all)
        all_goals (try (intro h; exact absurd h (by omega)))
      · rw [List.getElem?_drop] at hx
        obtain ⟨y, e, c0⟩ := h (i + k) x hx
        obtain rfl := Option.some.inj e
        refine ⟨_, rfl, ?_⟩
        have e3 : (Addr.mk g (o + i) none).add k = (Addr.mk g o none).add (i + k) := by simp [Addr.add, Nat.add_assoc]; split <;> split <;> simp_all
        rw [e3]; exact c0
theorem first_split {P : Int → Prop} : ∀ R : List Int, (∀ z ∈ R, P z) ∨ ∃ (i : Nat) (x : Int), R[i]? = some x ∧ ¬ P x ∧ ∀ j z, j < i → R[j]? = some z → P z
  | [] => .inl (by simp)
  | y :: R => by
    by_cases hy : P y
    · rcases first_split R with h | ⟨i, x, h1, h2, h3⟩
      · exact .inl fun z hz => by rcases List.mem_cons.1 hz with rfl | hz; exact hy; exact h z hz
      · refine .inr ⟨i + 1, x, by simpa using h1, h2, fun j z hj hz => ?_⟩
        cases j with
        | zero => obtain rfl : y = z := by simpa using hz
                  exact hy
        | succ j => exact h3 j z (by omega) (by simpa using hz)
    · exact .inr ⟨0, y, rfl, hy, fun j z hj => by omega⟩
def nz (F : Int → Option Int) : Int → Int := fun v => (F v).getD 0
theorem nz_upd (F : Int → Option Int) (v x i : Int) : nz (upd F v x) i = if i = v then x else nz F i := by
  unfold nz upd
  split <;> rfl
theorem lv_spec (G : Int → Option Int) (g : Int) : ∀ (R : List Int) (F : Int → Option Int), (∀ i, i ≠ g → lv G g F R i = F i) ∧ nz (lv G g F R) g ≤ nz F g ∧ (∀ t ∈ R, G t = none → nz (lv G g F R) g ≤ nz F t) ∧ (nz (lv G g F R) g = nz F g ∨ ∃ t ∈ R, G t = none ∧ nz (lv G g F R) g = nz F t)
  | [], F => ⟨fun i _ => rfl, Int.le_refl _, by simp, .inl rfl⟩
  | z :: R, F => by
    have e : lv G g F (z :: R) = lv G g (lv1 G g F z) R := rfl
    rw [e]
    obtain ⟨h1, h2, h3, h4⟩ := lv_spec G g R (lv1 G g F z)
    by_cases hz : (G z).isSome = true
    · have e1 : lv1 G g F z = F := by unfold lv1; rw [if_pos hz]
      rw [e1] at h1 h2 h3 h4 ⊢
      refine ⟨h1, h2, fun t ht hG => ?_, h4.imp id fun ⟨t, ht, h⟩ => ⟨t, by simp [ht], h⟩⟩
      rcases List.mem_cons.1 ht with rfl | ht
      · rw [hG] at hz; cases hz
      · exact h3 t ht hG
    · have hzn : G z = none := by simpa using hz
      have e1 : lv1 G g F z = upd F g (min (nz F g) (nz F z)) := by unfold lv1; rw [if_neg hz]; rfl
      rw [e1] at h1 h2 h3 h4 ⊢
      have eg : nz (upd F g (min (nz F g) (nz F z))) g = min (nz F g) (nz F z) := by rw [nz_upd, if_pos rfl]
      have eo : ∀ t, t ≠ g → nz (upd F g (min (nz F g) (nz F z))) t = nz F t := fun t ht => by rw [nz_upd, if_neg ht]
      rw [eg] at h2 h4
      refine ⟨fun i hi => (h1 i hi).trans (by unfold upd; rw [if_neg hi]), by omega, fun t ht hG => ?_, ?_⟩
      · rcases List.mem_cons.1 ht with rfl | ht
        · omega
        · have := h3 t ht hG
          by_cases et : t = g
          · subst et; omega
          · rw [eo t et] at this; exact this
      · rcases h4 with h4 | ⟨t, ht, hG, h4⟩
        · by_cases hm : nz F g ≤ nz F z
          · left; omega
          · right; exact ⟨z, by simp, hzn, by omega⟩
        · by_cases et : t = g
          · subst et
            rw [eg] at h4
            by_cases hm : nz F t ≤ nz F z
            · left; omega
            · right; exact ⟨z, by simp, hzn, by omega⟩
          · rw [eo t et] at h4
            right; exact ⟨t, by simp [ht], hG, h4⟩
theorem mem_tg {l : List P2} {u t : Int} : t ∈ tg l u ↔ (⟨u, t⟩ : P2) ∈ l := by
  unfold tg
  rw [List.mem_map]
  constructor
  · rintro ⟨p, hp, rfl⟩
    obtain ⟨h1, h2⟩ := List.mem_filter.1 hp
    have h3 : p.f = u := by simpa using h2
    rw [← h3]; exact h1
  · intro h; exact ⟨_, List.mem_filter.2 ⟨h, by simp⟩, rfl⟩
/-- What is the same throughout a search: where pairs lead to, and the ids. -/
structure TF (W0 : World) (N s mt mr mm mc mg : Nat) (l : List P2) (D : List Int) (FT : Int → Option Value) (ct : Nat) : Prop where
  tm : MapV W0 mt ct FT
  row : ∀ id, ∃ A n c, (FT id).getD (.slice none 0 0) = .slice A n c ∧ RowAt W0 A (tg l id) ∧ (∀ y, A = some y → y.block < N ∧ y.block ≠ s ∧ y.block ≠ mr ∧ y.block ≠ mm ∧ y.block ≠ mc ∧ y.block ≠ mg) ∧ (tg l id).length = n
  dl : D.length ≤ 1000
  di : ∀ z ∈ D, Mpv.I64 z
  dt : ∀ p ∈ l, p.t ∈ D
  ll : l.length ≤ 1000
/-- What wasn't tried yet, as rows. -/
def RW (W0 : World) (N s mr mm mc mg : Nat) (l : List P2) (rest : Int → List Int) (FR : Int → Option Value) : Prop :=
  ∀ id, ∃ A n c, (FR id).getD (.slice none 0 0) = .slice A n c ∧ RowAt W0 A (rest id) ∧ (∀ y, A = some y → y.block < N ∧ y.block ≠ s ∧ y.block ≠ mr ∧ y.block ≠ mm ∧ y.block ≠ mc ∧ y.block ≠ mg) ∧ (rest id).length = n ∧ n ≤ c ∧ (A = none → c = 0) ∧ (∀ y, A = some y → ∃ g o, y = ⟨g, o, none⟩) ∧ (∀ z ∈ rest id, z ∈ tg l id) ∧ n ≤ l.length
/-- A search's state. -/
structure TA (l : List P2) (D K O : List Int) (rest : Int → List Int) (FM FC FG : Int → Option Int) (cm cg : Nat) : Prop where
  tj : TJ l K O rest (nz FM) (nz FC) FG cm
  ms : ∃ Ms : List Int, Ms.Nodup ∧ Ms.length = cm ∧ (∀ v, v ∈ Ms ↔ FM v ≠ none) ∧ ∀ v ∈ Ms, v ∈ D
  mz : ∀ v x, FM v = some x → x ≠ 0
  cs : ∀ v ∈ O, (FC v).isSome = true
  cb : cg + O.length ≤ cm
section

variable {l : List P2} {D K O : List Int} {rest : Int → List Int} {FM FC FG : Int → Option Int} {cm cg : Nat}

theorem TA.unmet (f : TA l D K O rest FM FC FG cm cg) {v : Int} : nz FM v = 0 ↔ FM v = none := by
  constructor
  · intro h
    cases hf : FM v with
    | none => rfl
    | some x => unfold nz at h; rw [hf] at h; exact absurd h (f.mz v x hf)
  · intro h; unfold nz; rw [h]; rfl
theorem TA.le (f : TA l D K O rest FM FC FG cm cg) : cm ≤ D.length := by
  obtain ⟨Ms, h1, h2, h3, h4⟩ := f.ms
  have := sub_len Ms D h1 h4
  omega
theorem TA.inD (f : TA l D K O rest FM FC FG cm cg) {v : Int} (h : v ∈ O) : v ∈ D := by
  obtain ⟨Ms, h1, h2, h3, h4⟩ := f.ms
  exact h4 v ((h3 v).2 fun e => (f.tj.om v h).1 (f.unmet.2 e))
theorem TA.meet (f : TA l D K O rest FM FC FG cm cg) {v : Int} (hv : FM v = none) (hD : v ∈ D) (hK : ∀ A g, K = A ++ [g] → (⟨g, v⟩ : P2) ∈ l) {rest' : Int → List Int} (hr : ∀ u t, t ∈ rest u → nz FM t ≠ 0 ∨ t = v ∨ t ∈ rest' u) :
    TA l D (K ++ [v]) (O ++ [v]) rest' (upd FM v ((cm : Int) + 1)) (upd FC v ((cm : Int) + 1)) FG (cm + 1) cg := by
  obtain ⟨Ms, h1, h2, h3, h4⟩ := f.ms
  have hvM : v ∉ Ms := fun h => (h3 v).1 h hv
  refine ⟨?_, ⟨Ms ++ [v], ?_, by simp [h2], fun i => ?_, fun i hi => ?_⟩, fun i x hi => ?_, fun i hi => ?_, ?_⟩
  · have := f.tj.meet (by omega) (f.unmet.2 hv) hK (M' := nz (upd FM v ((cm : Int) + 1))) (C' := nz (upd FC v ((cm : Int) + 1))) (fun i => nz_upd _ _ _ _) (fun i => nz_upd _ _ _ _) (rest' := rest') (fun u t ht => by
      rw [nz_upd]
      rcases hr u t ht with h | h | h
      · left; split
        · omega
        · exact h
      · left; rw [if_pos h]; omega
      · exact .inr h)
    rw [Int.natCast_add]
    exact this
  · rw [List.nodup_append]
    exact ⟨h1, by simp, fun a ha b hb e => hvM (by rw [← List.mem_singleton.1 hb, ← e]; exact ha)⟩
  · rw [List.mem_append, h3]
    unfold upd
    by_cases e : i = v
    · simp [e]
    · simp [e]
  · rcases List.mem_append.1 hi with h | h
    · exact h4 i h
    · rw [List.mem_singleton.1 h]; exact hD
  · unfold upd at hi
    split at hi
    · have := Option.some.inj hi; omega
    · exact f.mz i x hi
  · unfold upd
    split
    · rfl
    · rename_i hne
      rcases List.mem_append.1 hi with h | h
      · exact f.cs i h
      · exact absurd (List.mem_singleton.1 h) hne
  · have := f.cb
    rw [List.length_append, List.length_singleton]; omega
theorem TA.lf {g : Int} (f : TA l D (K ++ [g]) O rest FM FC FG cm cg) (hm : ∀ z ∈ rest g, nz FM z ≠ 0) : Lf l g (nz FM) (nz FC) (nz (lv FG g FC (tg l g))) FG := by
  obtain ⟨h1, h2, h3, h4⟩ := lv_spec FG g (tg l g) FC
  refine ⟨fun i hi => by unfold nz; rw [h1 i hi], h2, fun t ht hG => h3 t (mem_tg.2 ht) hG, h4.imp id fun ⟨t, ht, h⟩ => ⟨t, mem_tg.1 ht, h⟩, fun t ht => ?_⟩
  rcases f.tj.i7 g t ht with h | h
  · exact h
  · exact hm t h
theorem TA.leave {g : Int} (f : TA l D (K ++ [g]) O rest FM FC FG cm cg) (hm : ∀ z ∈ rest g, nz FM z ≠ 0) (hne : nz (lv FG g FC (tg l g)) g ≠ nz FM g) : TA l D K O rest FM (lv FG g FC (tg l g)) FG cm cg :=
  ⟨f.tj.leave (f.lf hm) hne, f.ms, f.mz, fun v hv => by
    by_cases e : v = g
    · subst e; exact lv_some FG v _ FC (f.cs v hv)
    · rw [(lv_spec FG g (tg l g) FC).1 v e]; exact f.cs v hv, f.cb⟩
theorem TA.close {g : Int} {A B : List Int} (f : TA l D (K ++ [g]) (A ++ [g] ++ B) rest FM FC FG cm cg) (hm : ∀ z ∈ rest g, nz FM z ≠ 0) (he : nz (lv FG g FC (tg l g)) g = nz FM g) : TA l D K A rest FM (lv FG g FC (tg l g)) (grp FG (g :: B) g) cm (cg + B.length + 1) :=
  ⟨f.tj.close (f.lf hm) he (fun i => rfl), f.ms, f.mz, fun v hv => by
    by_cases e : v = g
    · subst e; exact lv_some FG v _ FC (f.cs v (by simp))
    · rw [(lv_spec FG g (tg l g) FC).1 v e]; exact f.cs v (by simp [hv]), by
    have := f.cb
    simp at this; omega⟩
theorem TA.nd {g : Int} {A B : List Int} (f : TA l D K (A ++ [g] ++ B) rest FM FC FG cm cg) : g ∉ B := fun h => by
  have hd := f.tj.od
  rw [List.pairwise_append] at hd
  have := hd.2.2 g (by simp) g h
  omega
end

section

variable {W0 w w1 : World} {N s mt mr mm mc mg cm cg : Nat} {FR : Int → Option Value} {FM FC FG : Int → Option Int} {O : List Int} {ob : Option Nat}

theorem GS.first (id : Int) (h : MtPost W0 N s mt mr mm mc mg cm cg FR FM FC FG O ob w w1) : ∃ ob', GS W0 N s mt mr mm mc mg cm cg FR FM FC FG O ob' (.slice (some ⟨w1.heap.size, 0, none⟩) 1 1) [id] ob w (w1.alloc (.cells #[.int .i64 id] 3)) := by
  obtain ⟨ob', h1, h2, h3⟩ := h
  have hb : Below w1.heap.size w1 (w1.alloc (.cells #[.int .i64 id] 3)) := (Below.refl _ _).alloc (Nat.le_refl _) _
  refine ⟨ob', h2.keep hb, World.ownsRow_lit w1 #[.int .i64 id] 1 h2.os.2.2.2 (by decide) rfl, fun j hj e => ?_, h3.on (Rst.of_below (ob := ob') hb) h1, h1, fun j hj => ?_⟩
  · have h5 := h2.ob_lt j e
    obtain rfl : w1.heap.size = j := by simpa [Value.ownBlock] using hj
    omega
  · obtain rfl : w1.heap.size = j := by simpa [Value.ownBlock] using hj
    exact h3.size
/-- The loop: the row of ids on the way, and the search. -/
def LoopAt (W0 : World) (N s mt mr mm mc mg : Nat) (l : List P2) (D : List Int) (ob0 : Option Nat) (wS : World) (FG0 : Int → Option Int) (id0 : Int) (q : Nat) (v : Value) (W : World) : Prop :=
  ∃ (K O : List Int) (rest : Int → List Int) (FR : Int → Option Value) (FM FC FG : Int → Option Int) (cm cg : Nat) (ob : Option Nat) (g n cap : Nat), v = .slice (some ⟨g, 0, none⟩) n cap ∧ K.length = n ∧ q = 2 * (D.length - cm) + n ∧
    TA l D K O rest FM FC FG cm cg ∧ RW W0 N s mr mm mc mg l rest FR ∧ GS W0 N s mt mr mm mc mg cm cg FR FM FC FG O ob v K ob0 wS W ∧ (∀ u a, FG0 u = some a → FG u = some a) ∧ FM id0 ≠ none
/-- A search that has come to its end. -/
def Fin (W0 : World) (N s mt mr mm mc mg : Nat) (l : List P2) (D : List Int) (ob0 : Option Nat) (FG0 : Int → Option Int) (id0 : Int) (wS W : World) : Prop :=
  ∃ (rest : Int → List Int) (FR : Int → Option Value) (FM FC FG : Int → Option Int) (cm cg : Nat) (ob : Option Nat), TA l D [] [] rest FM FC FG cm cg ∧ RW W0 N s mr mm mc mg l rest FR ∧ SS W0 N s mt mr mm mc mg cm cg FR FM FC FG [] ob W ∧ Rst N ob0 wS W ∧ (ob = ob0 ∨ ∃ j, ob = some j ∧ wS.heap.size ≤ j) ∧ (∀ u a, FG0 u = some a → FG u = some a) ∧ FM id0 ≠ none
end

end Go.Proofs.Ytnngldkpkhabeaa.Rel
namespace Go.Proofs.Ytnngldkpkhabeaa.Rel

open Go.RowKit Go.PlainAid Go.Proofs.Ytnngldkpkhabeaa.Oct Go.Proofs.Ytnngldkpkhabeaa.Flt Go.Proofs.Ytnngldkpkhabeaa.Rdr Go.Proofs.Ytnngldkpkhabeaa.Args Go.Proofs.Ytnngldkpkhabeaa.Win Go.Proofs.Ytnngldkpkhabeaa.Mpv

open Go.Proofs.Ytnngldkpkhabeaa.Pai (P2 Rs TJ Lf sub_len)

set_option linter.unusedVariables false

set_option linter.unusedSimpArgs false

section

variable {W0 w w1 : World} {N s mt mr mm mc mg cm cg : Nat} {FR : Int → Option Value} {FM FC FG : Int → Option Int} {ob : Option Nat}

theorem TA.split {l : List P2} {D K O : List Int} {rest : Int → List Int} {FM FC FG : Int → Option Int} {cm cg : Nat} {g : Int} (f : TA l D (K ++ [g]) O rest FM FC FG cm cg) : ∃ A B, O = A ++ [g] ++ B := by
  obtain ⟨A, B, h⟩ := List.append_of_mem (f.tj.ko g (by simp))
  exact ⟨A, B, by rw [h]; simp⟩
theorem TA.oLen {l : List P2} {D K O : List Int} {rest : Int → List Int} {FM FC FG : Int → Option Int} {cm cg : Nat} (f : TA l D K O rest FM FC FG cm cg) (hd : D.length ≤ 1000) : cm ≤ 1000 ∧ cg ≤ 1000 ∧ O.length ≤ 1000 := by
  have := f.le
  have := f.cb
  omega
theorem TA.kLen {l : List P2} {D K O : List Int} {rest : Int → List Int} {FM FC FG : Int → Option Int} {cm cg : Nat} (f : TA l D K O rest FM FC FG cm cg) (hd : D.length ≤ 1000) : K.length ≤ 1000 := by
  have hnd : K.Nodup := f.tj.kd.imp fun {a b} h (e : a = b) => by rw [e] at h; omega
  have := sub_len K O hnd f.tj.ko
  have := (f.oLen hd).2.2
  omega
set_option maxRecDepth 8000 in
set_option maxHeartbeats 6400000 in
theorem goFrom_any {l : List P2} {D : List Int} {FT : Int → Option Value} {ct : Nat} {rest : Int → List Int} (f : SS W0 N s mt mr mm mc mg cm cg FR FM FC FG [] ob w) (ht : TF W0 N s mt mr mm mc mg l D FT ct) (ha : TA l D [] [] rest FM FC FG cm cg) (hr : RW W0 N s mr mm mc mg l rest FR) (id : Int) (hD : id ∈ D) (hn : FM id = none) :
    Calls Try.prog 66 #[.pointer (some ⟨s, 0, none⟩), .int .i64 id] w fun e w' => e = .returned (.tuple #[]) ∧ Fin W0 N s mt mr mm mc mg l D ob FG id w w' := by
  obtain ⟨i0, hi, hz0, hz1, hz2⟩ := info_parts infoInt2
  have hl0 := ha.oLen ht.dl
  have HM1 := Lib.hid (meet_any f id (ht.di id hD) hn (by omega) (by simp))
  have HT := Lib.hid ht
  have HA1 := Lib.hid (ha.meet hn hD (fun A g e => by simp at e) (rest' := rest) (fun u t h => .inr (.inr h)))
  have HR1 := Lib.hid hr
  clear f ht ha hr hn hl0
  go_enter Try.func66, Try.ntmps66
  go_wp2_with fail
  refine HM1.out.mono ?_
  rintro e w1 ⟨rfl, hm1⟩
  obtain ⟨ob1, hg1⟩ := GS.first id hm1
  have HG1 := Lib.hid hg1
  clear hm1 hg1 HM1
  go_wp2_with fail
  obtain ⟨W1, hW1⟩ : ∃ W, w1.alloc (.cells #[.int .i64 id] 3) = W := ⟨_, rfl⟩
  obtain ⟨q1, hq1⟩ : ∃ q, w1.heap.size = q := ⟨_, rfl⟩
  rw [hW1, hq1] at HG1
  rw [hW1, hq1]
  clear hW1 hq1
  go_loopw [4] (fun v wr => ∃ q, LoopAt W0 N s mt mr mm mc mg l D ob w FG id q v wr) (fun v wr => leastM fun q => LoopAt W0 N s mt mr mm mc mg l D ob w FG id q v wr)
  case atStart => exact ⟨_, [id], [id], rest, FR, _, _, FG, cm + 1, cg, ob1, q1, 1, 1, rfl, rfl, rfl, HA1.out, HR1.out, HG1.out, fun u a h => h, by simp [upd]⟩
  case round =>
    have hlm := leastM_at hrel
    obtain ⟨Z, hZ⟩ : ∃ Z, leastM (fun q => LoopAt W0 N s mt mr mm mc mg l D ob w FG id q u4 wr) = Z := ⟨_, rfl⟩
    rw [hZ] at hlm
    have HZ := Lib.hid hZ
    clear hrel hZ HA1 HR1 HG1
    obtain ⟨K, O, rst, FR', FM', FC', FG', cm', cg', ob', g, n, cap, rfl, hKn, hq, ha, hr, hg, hext, hid0⟩ := hlm
    have HQ := Lib.hid hq
    have HR := Lib.hid hr
    have HX := Lib.hid (And.intro hext hid0)
    clear hq hr hext hid0
    rcases List.eq_nil_or_concat K with rfl | ⟨K0, x, hKe⟩
    · obtain rfl : 0 = n := hKn
      obtain rfl := ha.tj.done
      have HFIN : Hid (Fin W0 N s mt mr mm mc mg l D ob FG id w wr) := ⟨rst, FR', FM', FC', FG', cm', cg', ob', ha, HR.out, hg.ss, hg.rs, hg.obx, HX.out.1, HX.out.2⟩
      clear ha hg
      go_wp2
      simp [bodyPost, results, Try.results66, go_sem]
      exact HFIN.out
    · rw [List.concat_eq_append] at hKe
      subst hKe
      rw [List.length_append, List.length_singleton] at hKn
      obtain ⟨n0, hn0⟩ : ∃ n0, K0.length = n0 := ⟨_, rfl⟩
      rw [hn0] at hKn
      subst hKn
      have hkl := ha.kLen HT.out.dl
      rw [List.length_append, List.length_singleton, hn0] at hkl
      have HN0 : Hid (K0.length = n0 ∧ n0 ≤ 1000) := ⟨hn0, by omega⟩
      have hcap : n0 + 1 ≤ cap := by
        rcases hg.own.2 with ⟨e, _⟩ | ⟨g', cap', _, e, _, _, h, _⟩
        · cases e
        · injection e with _ _ e3
          rw [e3]; simpa [hn0] using h
      have HCP : Hid (n0 + 1 ≤ cap) := hcap
      have s0 := GS.last hg hn0
      have hxD : x ∈ D := ha.inD (ha.tj.ko x (by simp))
      have hx64 := HT.out.di x hxD
      obtain ⟨A, nn, c, hfr, hra, hbl, hln, hnc, hnil, hzz, hsub, hnl⟩ := HR.out x
      have hll := HT.out.ll
      have hra' := hg.ss.row hra hbl
      have hI : ∀ z ∈ rst x, Mpv.I64 z := fun z hz => HT.out.di z (HT.out.dt _ (mem_tg.1 (hsub z hz)))
      have w0 : IntKind.i64.wrap (((n0 : Int) + 1) - 1) = (n0 : Int) := by rw [show ((n0 : Int) + 1) - 1 = (n0 : Int) by omega]; exact IntWalk.i64_in _ (by omega)
      have w0' : IntKind.i64.wrap (((n0 + 1 : Nat) : Int) - 1) = (n0 : Int) := by rw [show ((n0 + 1 : Nat) : Int) - 1 = (n0 : Int) by omega]; exact IntWalk.i64_in _ (by omega)
      have w0'' : IntKind.i64.wrap (n0 : Int) = (n0 : Int) := IntWalk.i64_in _ (by omega)
      have t0 : decide ((0 : Int) < ((n0 + 1 : Nat) : Int)) = true := decide_eq_true (by omega)
      have t0' : decide ((0 : Int) < (n0 : Int) + 1) = true := decide_eq_true (by omega)
      have b0 : (0 : Int) ≤ n0 := by omega
      have b1 : (n0 : Int) < ((n0 + 1 : Nat) : Int) := by omega
      have b1' : (n0 : Int) < (n0 : Int) + 1 := by omega
      rcases first_split (P := fun z => nz FM' z ≠ 0) (rst x) with hall | ⟨i, y, hy, hy0, hyj⟩
      · have HNX := Lib.hid (next_none hg.ss x hx64 A nn c (rst x) hfr hra' hln hI (by omega) hall)
        obtain ⟨At, nt, ct', hft, hrt, hbt, hlt⟩ := HT.out.row x
        have hIt : ∀ z ∈ tg l x, Mpv.I64 z := fun z hz => HT.out.di z (HT.out.dt _ (mem_tg.1 hz))
        have htl := tg_len l x
        have HLV := Lib.hid (leave_any hg.ss x hx64 ct FT HT.out.tm At nt ct' (tg l x) hft hrt hbt hlt hIt (by omega) (ha.cs x (ha.tj.ko x (by simp))) (by have := (ha.oLen HT.out.dl).1; omega)
          (fun w' => ∃ O2 FC2 FG2 cg2, TA l D K0 O2 rst FM' FC2 FG2 cm' cg2 ∧ SS W0 N s mt mr mm mc mg cm' cg2 FR' FM' FC2 FG2 O2 ob' w' ∧ Rst N ob' wr w' ∧ ∀ u a, FG' u = some a → FG2 u = some a)
          (fun hne w' hs hrs => ⟨O, _, FG', cg', ha.leave hall hne, hs, hrs, fun u a h => h⟩)
          (fun he w' hs hrs => by
            obtain ⟨P, B, hO⟩ := ha.split
            subst hO
            refine (shut_any P B x hs ha.nd (fun z hz => HT.out.di z (ha.inD (by simp at hz ⊢; exact .inr hz))) (by have := (ha.oLen HT.out.dl).2.1; omega) (by have := (ha.oLen HT.out.dl).2.2; omega)).mono ?_
            rintro e w2 ⟨rfl, h4, h5⟩
            refine ⟨rfl, P, _, _, _, ha.close hall he, h4, hrs.trans h5, fun u a h => ?_⟩
            unfold grp
            split
            · rename_i hu
              have := (ha.tj.om u (by simp at hu ⊢; exact .inr hu)).2
              rw [this] at h; cases h
            · exact h))
        have HG := Lib.hid hg
        clear hfr hra hbl hln hnc hnil hzz hsub hnl hra' hI hall hft hrt hbt hlt hIt htl hx64 hxD hll hn0 hkl hg ha
        go_wp2_with (first
          | (go_at_call 85; refine HNX.out.mono ?_; rintro e wa ⟨rfl, rfl⟩))
        refine HLV.out.mono ?_
        rintro e w6 ⟨rfl, O2, FC2, FG2, cg2, ha2, hs6, hr6, hx6⟩
        have hg2 := GS.pop (l := K0) (HG.out.rst hs6 hr6) HN0.out.1
        have HNEW : Hid (LoopAt W0 N s mt mr mm mc mg l D ob w FG id (2 * (D.length - cm') + n0) (.slice (some ⟨g, 0, none⟩) n0 cap) w6) := ⟨K0, O2, rst, FR', FM', FC2, FG2, cm', cg2, ob', g, n0, cap, rfl, HN0.out.1, rfl, ha2, HR.out, hg2, fun u a h => hx6 u a (HX.out.1 u a h), HX.out.2⟩
        clear ha2 hs6 hr6 hx6 hg2 s0 HLV HNX HG
        go_wp2_with fail
        go_roundw
        case rel => exact ⟨_, HNEW.out⟩
        case measure =>
          rw [HZ.out, HQ.out]
          exact Nat.lt_of_le_of_lt (leastM_le HNEW.out) (by omega)
      · have hin : i < nn := by have := (List.getElem?_eq_some_iff.1 hy).1; omega
        have hy0' : nz FM' y = 0 := Classical.byContradiction hy0
        have hyn : FM' y = none := ha.unmet.1 hy0'
        have hyr : y ∈ rst x := List.mem_of_getElem? hy
        have hyE := mem_tg.1 (hsub y hyr)
        have hyD : y ∈ D := HT.out.dt _ hyE
        have hy64 := HT.out.di y hyD
        obtain ⟨A2, c2, hsl, q2, q3, q4, q5, q6⟩ := run_tailI A nn c (i + 1) (by omega) hnc hnil hzz ((i : Int) + 1) (by omega)
        have HNX := Lib.hid (next_some hg.ss x hx64 A nn c (rst x) hfr hra' hln hI (by omega) i y hy hyj hy0' (.slice A2 (nn - (i + 1)) c2) hsl)
        have ham := ha.meet hyn hyD (fun B b e => by
          obtain ⟨_, e2⟩ := List.append_inj' e rfl
          have e3 : x = b := by simpa using e2
          rw [← e3]; exact hyE) (rest' := fun u => if u = x then (rst x).drop (i + 1) else rst u) (fun u t ht => by
          by_cases eu : u = x
          · subst eu
            obtain ⟨j, hj⟩ := List.getElem?_of_mem ht
            rcases Nat.lt_trichotomy j i with h | h | h
            · exact .inl (hyj j t h hj)
            · subst h
              rw [hy] at hj
              exact .inr (.inl (Option.some.inj hj).symm)
            · refine .inr (.inr ?_)
              rw [if_pos rfl]
              refine List.mem_of_getElem? (i := j - (i + 1)) ?_
              rw [List.getElem?_drop, ← hj]
              congr 1; omega
          · refine .inr (.inr ?_)
            rw [if_neg eu]; exact ht)
        have HAM := Lib.hid ham
        have hcl := ham.le
        have hol := ha.oLen HT.out.dl
        have HRW : Hid (RW W0 N s mr mm mc mg l (fun u => if u = x then (rst x).drop (i + 1) else rst u) (upd FR' x (.slice A2 (nn - (i + 1)) c2))) := by
          intro id'
          by_cases eu : id' = x
          · subst eu
            refine ⟨A2, nn - (i + 1), c2, by simp [upd], by dsimp only; rw [if_pos rfl]; exact q6 W0 _ hln hra, fun z hz => ?_, by dsimp only; rw [if_pos rfl, List.length_drop, hln], q2, q3, q4, fun z hz => ?_, by omega⟩
            · obtain ⟨z', h1, h2⟩ := q5 z hz
              rw [h2]; exact hbl z' h1
            · dsimp only at hz
              rw [if_pos rfl] at hz
              exact hsub z (List.mem_of_mem_drop hz)
          · obtain ⟨B1, B2, B3, B4, B5⟩ := HR.out id'
            refine ⟨B1, B2, B3, ?_⟩
            have e1 : (fun u => if u = x then (rst x).drop (i + 1) else rst u) id' = rst id' := by dsimp only; rw [if_neg eu]
            have e2 : upd FR' x (.slice A2 (nn - (i + 1)) c2) id' = FR' id' := by unfold upd; rw [if_neg eu]
            rw [e2]
            dsimp only
            simp only [if_neg eu]
            exact ⟨B4, B5⟩
        have HG := Lib.hid hg
        have HME : Hid (∀ (W : World) (ob2 : Option Nat), SS W0 N s mt mr mm mc mg cm' cg' (upd FR' x (.slice A2 (nn - (i + 1)) c2)) FM' FC' FG' O ob2 W → _) := fun W ob2 h => meet_any h y hy64 hyn (by omega) (by omega)
        have HCL : Hid (cm' + 1 ≤ D.length) := hcl
        clear hfr hra hbl hln hnc hnil hzz hsub hnl hra' hI hy hyj hy0 hy0' hyn hyr hyE hyD hy64 q2 q3 q4 q5 q6 hsl hin hcl hol hx64 hxD hll hn0 hkl hg ha ham
        go_wp2_with fail
        refine HNX.out.mono ?_
        rintro e w2 ⟨rfl, hs2, hr2⟩
        have HG2 := Lib.hid (HG.out.rst hs2 hr2)
        have HM2 := Lib.hid (HME.out w2 ob' hs2)
        clear hs2 hr2 HNX HME HG s0
        go_wp2_with fail
        refine HM2.out.mono ?_
        rintro e w3 ⟨rfl, hm⟩
        obtain ⟨ob2, hg⟩ := HG2.out.meet hm
        have hba : Below w3.heap.size w3 (w3.alloc (.cells #[.int .i64 y] 3)) := (Below.refl _ _).alloc (Nat.le_refl _) _
        have hg3 := hg.keep hba
        have HG3 := Lib.hid hg3
        have HOW := hg3.own
        rw [List.length_append, List.length_singleton, HN0.out.1] at HOW
        have HOW := Lib.hid HOW
        clear hm hg hg3 hba HM2 HG2
        go_wp2_with (at_builtin; refine wpList_append_own_at _ rfl _ _ 29 rfl N 3 i0 (.int .i64 0) 1 8 Try.underlying29 hi hz0 hz1 hz2 rfl (by decide) _ _ _ rfl HOW.out ⟨w3.heap.size, 0, none⟩ 1 1 [.int .i64 y] rfl rfl (cell_one_new _ _ _) ?c2 ?c3 ?c4 ?c5 ?_)
        case c2 => intro u hu; simp at hu; subst hu; rfl
        case c3 => have := HN0.out.2; unfold maxLen; omega
        case c4 => have := HN0.out.2; omega
        case c5 => have := HG3.out.ss.os.2.2.2; omega
        intro V2 W2 ho hgr _ hat
        have hgp := HG3.out.push (x := y) (V' := V2) (by rw [List.length_append, List.length_singleton, HN0.out.1]; simpa using ho) hgr (by rw [World.size_alloc]; exact hat)
        obtain ⟨q2, p2, hV⟩ : ∃ g cap, V2 = .slice (some ⟨g, 0, none⟩) (n0 + 1 + 1) cap := by
          rcases ho.2 with ⟨_, h0⟩ | ⟨g, cap, _, e, _⟩
          · exact absurd h0 (by omega)
          · exact ⟨g, cap, e⟩
        subst hV
        have HNEW : Hid (LoopAt W0 N s mt mr mm mc mg l D ob w FG id (2 * (D.length - (cm' + 1)) + (n0 + 1 + 1)) (.slice (some ⟨q2, 0, none⟩) (n0 + 1 + 1) p2) W2) := ⟨K0 ++ [x] ++ [y], O ++ [y], _, _, _, _, FG', cm' + 1, cg', ob2, q2, n0 + 1 + 1, p2, rfl, by simp [HN0.out.1], rfl, HAM.out, HRW.out, hgp, HX.out.1, by
          unfold upd
          split
          · simp
          · exact HX.out.2⟩
        clear ho hgr hat hgp HG3 HOW
        go_wp2_with fail
        go_roundw
        case rel => exact ⟨_, HNEW.out⟩
        case measure =>
          rw [HZ.out, HQ.out]
          have := HCL.out
          exact Nat.lt_of_le_of_lt (leastM_le HNEW.out) (by omega)
set_option maxRecDepth 8000 in
theorem group_any {l : List P2} {D : List Int} {FT : Int → Option Value} {ct : Nat} {rest : Int → List Int} (f : SS W0 N s mt mr mm mc mg cm cg FR FM FC FG [] ob w) (ht : TF W0 N s mt mr mm mc mg l D FT ct) (ha : TA l D [] [] rest FM FC FG cm cg) (hr : RW W0 N s mr mm mc mg l rest FR) (id : Int) (hD : id ∈ D) :
    Calls Try.prog 48 #[.pointer (some ⟨s, 0, none⟩), .int .i64 id] w fun e w' => ∃ (a : Int) (rest' : Int → List Int) (FR' : Int → Option Value) (FM' FC' FG' : Int → Option Int) (cm' cg' : Nat) (ob' : Option Nat), e = .returned (.int .i64 a) ∧ FG' id = some a ∧ TA l D [] [] rest' FM' FC' FG' cm' cg' ∧ RW W0 N s mr mm mc mg l rest' FR' ∧ SS W0 N s mt mr mm mc mg cm' cg' FR' FM' FC' FG' [] ob' w' ∧ Rst N ob w w' ∧ (ob' = ob ∨ ∃ j, ob' = some j ∧ w.heap.size ≤ j) ∧ (∀ u a, FG u = some a → FG' u = some a) := by
  by_cases hn : FM id = none
  · have hid := ht.di id hD
    have HGO := Lib.hid (goFrom_any f ht ha hr id hD hn)
    obtain ⟨V, _, hb, _⟩ := f.box
    obtain ⟨y0, y1, y2, y3, y4, y5⟩ := s_cells hb
    have e1 := f.met.look Try.underlying59 (zero_int w) id hid
    rw [ints_get, show (FM id).getD 0 = 0 by rw [hn]; rfl] at e1
    have te : ((0 : Int) == 0) = true := rfl
    have HID := Lib.hid hid
    clear f hb ht ha hr hn hid
    go_enter Try.func48, Try.ntmps48
    go_wp2_with (first
      | (at_lookup; refine wpList_look _ rfl _ _ 59 false rfl (.int .i64 0) _ _ rfl rfl e1 ?_))
    refine HGO.out.mono ?_
    rintro e w2 ⟨rfl, rest', FR', FM', FC', FG', cm', cg', ob', ha', hr', hs, hrst, hob, hext, hmt⟩
    obtain ⟨V2, _, hb2, _⟩ := hs.box
    clear y0 y1 y2 y3 y4 y5 e1 te
    obtain ⟨y0, y1, y2, y3, y4, y5⟩ := s_cells hb2
    obtain ⟨c3, _, h5⟩ := hs.group
    have e2 := h5.look Try.underlying59 (zero_int w2) id HID.out
    rw [ints_get] at e2
    obtain ⟨a, hga⟩ : ∃ a, FG' id = some a := by
      rcases ha'.tj.mo id (fun h => hmt (ha'.unmet.1 h)) with h | h
      · cases h
      · exact Option.ne_none_iff_exists'.1 h
    rw [hga] at e2
    have HP : Hid (∃ (rest' : Int → List Int) (FR' : Int → Option Value) (FM' FC' FG' : Int → Option Int) (cm' cg' : Nat) (ob' : Option Nat), FG' id = some a ∧ TA l D [] [] rest' FM' FC' FG' cm' cg' ∧ RW W0 N s mr mm mc mg l rest' FR' ∧ SS W0 N s mt mr mm mc mg cm' cg' FR' FM' FC' FG' [] ob' w2 ∧ Rst N ob w w2 ∧ (ob' = ob ∨ ∃ j, ob' = some j ∧ w.heap.size ≤ j) ∧ (∀ u a, FG u = some a → FG' u = some a)) := ⟨rest', FR', FM', FC', FG', cm', cg', ob', hga, ha', hr', hs, hrst, hob, hext⟩
    clear hs hb2 h5 HGO ha' hr' hrst hob hext hmt hga
    go_wp2_with (first
      | (at_lookup; refine wpList_look _ rfl _ _ 59 false rfl (.int .i64 a) _ _ rfl rfl e2 ?_))
    go_ret
    obtain ⟨rest', FR', FM', FC', FG', cm', cg', ob', h⟩ := HP.out
    exact ⟨a, rest', FR', FM', FC', FG', cm', cg', ob', rfl, h⟩
  · obtain ⟨a, hga⟩ : ∃ a, FG id = some a := by
      rcases ha.tj.mo id (fun h => hn (ha.unmet.1 h)) with h | h
      · cases h
      · exact Option.ne_none_iff_exists'.1 h
    refine (group_met f id (ht.di id hD) (fun h => hn (ha.unmet.1 h))).mono ?_
    rintro e w' ⟨rfl, rfl⟩
    exact ⟨a, rest, FR, FM, FC, FG, cm, cg, ob, by rw [hga]; rfl, hga, ha, hr, f, Rst.refl _ _ _, .inl rfl, fun u a h => h⟩
end

end Go.Proofs.Ytnngldkpkhabeaa.Rel
