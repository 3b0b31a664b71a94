/- Rows of so many pairs, and a search in breadth: plain. It says nothing of the program. No condition. Rows of the call's own without some elements (slices.IndexFunc, slices.DeleteFunc at relation's closures). Condition: at most a million elements; the closure tells what it tells. -/
import Derived.Test.YtnngldkpkhabeaaMg15
import Derived.Test.YtnngldkpkhabeaaMg34
namespace Go.Proofs.Ytnngldkpkhabeaa.Pai

set_option linter.unusedVariables false

set_option linter.unusedSimpArgs false

/-- A row of just so many pairs leads from an id to another one. -/
inductive Wlk (l : List P2) : Nat → Int → Int → Prop
  | zero {a : Int} : Wlk l 0 a a
  | more {n : Nat} {a b c : Int} : Wlk l n a b → (⟨b, c⟩ : P2) ∈ l → Wlk l (n + 1) a c
theorem wlk_zero {l : List P2} {a b : Int} (h : Wlk l 0 a b) : b = a := by cases h; rfl
theorem wlk_succ {l : List P2} {n : Nat} {a c : Int} (h : Wlk l (n + 1) a c) : ∃ b, Wlk l n a b ∧ (⟨b, c⟩ : P2) ∈ l := by
  cases h with
  | more h1 h2 => exact ⟨_, h1, h2⟩
/-- By so many pairs, and by no fewer. -/
def Min (l : List P2) (n : Nat) (a b : Int) : Prop := Wlk l n a b ∧ ∀ k, k < n → ¬ Wlk l k a b
/-- The search behind n rows: those that are just n pairs away, and those that were met. -/
structure BF (l : List P2) (a : Int) (n : Nat) (R M : List Int) : Prop where
  nd : R.Nodup
  row : ∀ v, v ∈ R ↔ Min l n a v
  met : ∀ v, v ∈ M ↔ ∃ k, k ≤ n ∧ Wlk l k a v
theorem BF.start (l : List P2) (a : Int) : BF l a 0 [a] [a] := by
  refine ⟨by simp, fun v => ?_, fun v => ?_⟩
  · constructor
    · intro h
      obtain rfl := List.mem_singleton.1 h
      exact ⟨.zero, fun k hk => by omega⟩
    · intro h
      rw [wlk_zero h.1]; simp
  · constructor
    · intro h
      obtain rfl := List.mem_singleton.1 h
      exact ⟨0, Nat.le_refl _, .zero⟩
    · rintro ⟨k, hk, h⟩
      obtain rfl : k = 0 := by omega
      rw [wlk_zero h]; simp
/-- Within a round: of the first ids of a row, and of the first pairs of one more, those that are met anew. -/
theorem BF.next {l : List P2} {a : Int} {n : Nat} {R M F : List Int} (h : BF l a n R M) (hnd : F.Nodup) (hF : ∀ v, v ∈ F ↔ v ∉ M ∧ ∃ u ∈ R, (⟨u, v⟩ : P2) ∈ l) : BF l a (n + 1) F (M ++ F) := by
  have hrow : ∀ v, v ∈ F ↔ Min l (n + 1) a v := by
    intro v
    rw [hF]
    constructor
    · rintro ⟨hm, u, hu, he⟩
      refine ⟨.more ((h.row u).1 hu).1 he, fun k hk hw => hm ((h.met v).2 ⟨k, by omega, hw⟩)⟩
    · rintro ⟨hw, hmin⟩
      obtain ⟨u, hu, he⟩ := wlk_succ hw
      refine ⟨fun hm => ?_, u, (h.row u).2 ⟨hu, fun k hk hk2 => hmin (k + 1) (by omega) (.more hk2 he)⟩, he⟩
      obtain ⟨k, hk, hk2⟩ := (h.met v).1 hm
      exact hmin k (by omega) hk2
  refine ⟨hnd, hrow, fun v => ?_⟩
  rw [List.mem_append, h.met]
  constructor
  · rintro (⟨k, hk, hw⟩ | hv)
    · exact ⟨k, by omega, hw⟩
    · exact ⟨n + 1, Nat.le_refl _, ((hrow v).1 hv).1⟩
  · rintro ⟨k, hk, hw⟩
    rcases Nat.lt_or_ge n k with hk2 | hk2
    · obtain rfl : k = n + 1 := by omega
      by_cases hm : ∃ k, k ≤ n ∧ Wlk l k a v
      · exact .inl hm
      · exact .inr ((hrow v).2 ⟨hw, fun k hk hw2 => hm ⟨k, by omega, hw2⟩⟩)
    · exact .inl ⟨k, hk2, hw⟩
/-- Where a row is empty nothing more can be met. -/
theorem BF.stop {l : List P2} {a : Int} {n : Nat} {M : List Int} (h : BF l a n [] M) : ∀ m v, Wlk l m a v → ∃ k, k < n ∧ Wlk l k a v := by
  have hn : ∀ v, Wlk l n a v → ∃ k, k < n ∧ Wlk l k a v := fun v hw => Classical.byContradiction fun hc => by
    have := (h.row v).2 ⟨hw, fun k hk hw2 => hc ⟨k, hk, hw2⟩⟩
    simp at this
  intro m
  induction m with
  | zero =>
    intro v hw
    rcases Nat.eq_zero_or_pos n with h0 | h0
    · rw [← h0] at hw
      exact hn v hw
    · exact ⟨0, h0, hw⟩
  | succ m ih =>
    intro v hw
    obtain ⟨u, hu, he⟩ := wlk_succ hw
    obtain ⟨k, hk, hk2⟩ := ih u hu
    rcases Nat.lt_or_ge (k + 1) n with h1 | h1
    · exact ⟨k + 1, h1, .more hk2 he⟩
    · obtain rfl : n = k + 1 := by omega
      exact hn v (.more hk2 he)
theorem min_list {l : List P2} {a : Int} : ∀ (n : Nat) (v : Int), Min l n a v → ∃ T : List Int, T.length = n ∧ T.Nodup ∧ (∀ x ∈ T, x ∈ l.map P2.t) ∧ ∀ x ∈ T, ∃ k, k ≤ n ∧ Wlk l k a x
  | 0, v, h => ⟨[], rfl, List.nodup_nil, by simp, by simp⟩
  | n + 1, v, h => by
    obtain ⟨u, hu, he⟩ := wlk_succ h.1
    obtain ⟨T, h1, h2, h3, h4⟩ := min_list n u ⟨hu, fun k hk hw => h.2 (k + 1) (by omega) (.more hw he)⟩
    refine ⟨T ++ [v], by simp [h1], ?_, fun x hx => ?_, fun x hx => ?_⟩
    · rw [List.nodup_append]
      refine ⟨h2, by simp, fun x hx y hy e => ?_⟩
      obtain rfl := List.mem_singleton.1 hy
      obtain ⟨k, hk, hw⟩ := h4 x hx
      exact h.2 k (by omega) (e ▸ hw)
    · rcases List.mem_append.1 hx with hx | hx
      · exact h3 x hx
      · obtain rfl := List.mem_singleton.1 hx
        exact List.mem_map.2 ⟨_, he, rfl⟩
    · rcases List.mem_append.1 hx with hx | hx
      · obtain ⟨k, hk, hw⟩ := h4 x hx
        exact ⟨k, by omega, hw⟩
      · obtain rfl := List.mem_singleton.1 hx
        exact ⟨n + 1, Nat.le_refl _, h.1⟩
theorem min_len {l : List P2} {a v : Int} {n : Nat} (h : Min l n a v) : n ≤ l.length := by
  obtain ⟨T, h1, h2, h3, _⟩ := min_list n v h
  have := sub_len T _ h2 h3
  rw [List.length_map] at this
  omega
/-- How many pairs lead there, if any do. -/
def Dist (l : List P2) (a b : Int) : Option Nat → Prop
  | some n => Min l n a b
  | none => ∀ n, ¬ Wlk l n a b
theorem Dist.one {l : List P2} {a b : Int} {x y : Option Nat} (h : Dist l a b x) (k : Dist l a b y) : x = y := by
  cases x with
  | none =>
    cases y with
    | none => rfl
    | some m => exact absurd k.1 (h m)
  | some n =>
    cases y with
    | none => exact absurd h.1 (k n)
    | some m =>
      rcases Nat.lt_trichotomy n m with hh | hh | hh
      · exact absurd h.1 (k.2 n hh)
      · rw [hh]
      · exact absurd k.1 (h.2 m hh)
theorem BF.found {l : List P2} {a b : Int} {n : Nat} {R M : List Int} (h : BF l a n R M) (hb : b ∈ R) : Dist l a b (some n) := (h.row b).1 hb
theorem BF.never {l : List P2} {a b : Int} {n : Nat} {M : List Int} (h : BF l a n [] M) (hno : ∀ k, k < n → ¬ Wlk l k a b) : Dist l a b none := fun m hw => by
  obtain ⟨k, hk, hw2⟩ := h.stop m b hw
  exact hno k hk hw2
/-- The document's: just n pairs away. -/
structure Now (l : List P2) (a : Int) (n : Nat) (R : List Int) : Prop where
  nd : R.Nodup
  row : ∀ v, v ∈ R ↔ Wlk l n a v
theorem Now.start (l : List P2) (a : Int) : Now l a 0 [a] := by
  refine ⟨by simp, fun v => ?_⟩
  constructor
  · intro h
    obtain rfl := List.mem_singleton.1 h
    exact .zero
  · intro h
    rw [wlk_zero h]; simp
theorem Now.next {l : List P2} {a : Int} {n : Nat} {R F : List Int} (h : Now l a n R) (hnd : F.Nodup) (hF : ∀ v, v ∈ F ↔ ∃ u ∈ R, (⟨u, v⟩ : P2) ∈ l) : Now l a (n + 1) F := by
  refine ⟨hnd, fun v => ?_⟩
  rw [hF]
  constructor
  · rintro ⟨u, hu, he⟩
    exact .more ((h.row u).1 hu) he
  · intro hw
    obtain ⟨u, hu, he⟩ := wlk_succ hw
    exact ⟨u, (h.row u).2 hu, he⟩
/-- What the document's walk tells: the first n up to the number of pairs. -/
theorem doc_dist {l : List P2} {a b : Int} {N : Nat} (hN : l.length ≤ N) (hno : ∀ k, k ≤ N → ¬ Wlk l k a b) : Dist l a b none := fun m hw => by
  have hex : ∃ n, Min l n a b := by
    induction m using Nat.strongRecOn with
    | _ m ih =>
      by_cases hc : ∃ k, k < m ∧ Wlk l k a b
      · obtain ⟨k, hk, hw2⟩ := hc
        exact ih k hk hw2
      · exact ⟨m, hw, fun k hk hw2 => hc ⟨k, hk, hw2⟩⟩
  obtain ⟨n, hn⟩ := hex
  exact hno n (Nat.le_trans (min_len hn) hN) hn.1
end Go.Proofs.Ytnngldkpkhabeaa.Pai
namespace Go.Proofs.Ytnngldkpkhabeaa.Pai

open Go.RowKit Go.PlainAid Go.Proofs.Ytnngldkpkhabeaa.Args

set_option linter.unusedVariables false

set_option linter.unusedSimpArgs false

theorem blw_setRow {B b : Nat} {w w1 : World} (h : Below B w w1) (hb : B ≤ b) (cs : Array Value) : Below B w (w1.setRow b cs) := ⟨h.os, h.tape, h.output, by simp [World.setRow]; exact h.size, fun k hk => (setRow_other _ _ _ _ (by omega)).trans (h.block k hk)⟩
theorem run_clear1 {P : Program} (w : World) (t e : TypeId) (z : Value) (vs : List Value) (ht : P.underlying t = some (.slice e)) (hv : ∀ w, (zeroValue e).run P w = .ok z w) (hz : z.cells = vs.toArray) (h3 : vs.length = 1) (h1 : ∀ v ∈ vs, v.oneCell' = true) (g o n c : Nat) (hn : 0 < n)
    (cur : Array Value) (T : TypeId) (hg : w.heap[g]? = some (.cells cur T (0, 0))) (hfit : o + n ≤ cur.size) :
    ∃ zs : List Value, zs.length = n ∧ ∀ ty, (Builtin.clear_ #[t] ty #[.slice (some ⟨g, o, none⟩) n c]).run P w = .ok (.tuple #[]) (w.setRow g (splice cur.toList o zs).toArray) := by
  have hzl : (Builtin.zeroCells z.cells n).toList.length = n := by
    rw [hz]; simp [Builtin.zeroCells, h3]
  have hz1 : ∀ v ∈ (Builtin.zeroCells z.cells n).toList, v.oneCell' = true := fun v hv => by
    rw [hz] at hv
    unfold Builtin.zeroCells at hv
    rw [List.size_toArray, h3, Array.toList_map, List.mem_map] at hv
    obtain ⟨k, hk, rfl⟩ := hv
    have hk3 : k % 1 < vs.toArray.size := by rw [List.size_toArray]; omega
    rw [getElem!_pos vs.toArray (k % 1) hk3]
    exact h1 _ (by simp)
  refine ⟨(Builtin.zeroCells z.cells n).toList, hzl, fun ty => ?_⟩
  have hc : ∀ j, j < (Builtin.zeroCells z.cells n).toList.length → (w.cell? ⟨g, o + 0 + j, none⟩).isSome = true := fun j hj => by
    rw [cell_of_row _ _ _ _ _ _ hg, Array.getElem?_eq_getElem (by omega)]; rfl
  have hf : ∀ j, j < (Builtin.zeroCells z.cells n).toList.length → w.frozen? ⟨g, o + 0 + j, none⟩ = false := fun j _ => by simp [World.frozen?, hg]
  have hst := run_storeCells_cells (P := P) g o (Builtin.zeroCells z.cells n).toList 0 w hc hf hz1
  rw [Nat.add_zero, setCells_rowP g T _ o cur w hg (by omega)] at hst
  obtain ⟨m, rfl⟩ : ∃ m, n = m + 1 := ⟨n - 1, by omega⟩
  simp [Builtin.clear_, run_underlying ht, hv, hst]
theorem zeroInt9 (w : World) : (zeroValue 3).run Try.prog w = .ok (.int .i64 0) w := by go_simp
/-- The elements up to a place: the first are those that stay; behind the place all are as they were. -/
structure Del {α : Type} (q : α → Bool) (L xs : List α) (i j : Nat) : Prop where
  len : xs.length = L.length
  pre : xs.take i = (L.take j).filter q
  num : i = ((L.take j).filter q).length
  post : xs.drop j = L.drop j
  lt : i < j
  le : j ≤ L.length
section

variable {α : Type} {q : α → Bool} {L xs : List α} {i j : Nat} {x : α}

theorem Del.skip (h : Del q L xs i j) (hx : L[j]? = some x) (hs : q x = false) : Del q L xs i (j + 1) := by
  have hj : j < L.length := (List.getElem?_eq_some_iff.1 hx).1
  have e : (L.take (j + 1)).filter q = (L.take j).filter q := by
    rw [List.take_add_one, hx, List.filter_append]; simp [hs]
  refine ⟨h.len, by rw [e]; exact h.pre, by rw [e]; exact h.num, ?_, by have := h.lt; omega, hj⟩
  rw [← List.drop_drop, ← List.drop_drop, h.post]
theorem Del.keep (h : Del q L xs i j) (hx : L[j]? = some x) (hs : q x = true) : Del q L (xs.set i x) (i + 1) (j + 1) := by
  have hj : j < L.length := (List.getElem?_eq_some_iff.1 hx).1
  have hlt := h.lt
  have hlen := h.len
  have e : (L.take (j + 1)).filter q = (L.take j).filter q ++ [x] := by
    rw [List.take_add_one, hx, List.filter_append]; simp [hs]
  refine ⟨by simp [hlen], ?_, by rw [e, List.length_append, ← h.num]; rfl, ?_, by omega, hj⟩
  · rw [e, ← h.pre, List.take_add_one, List.getElem?_set_self (by omega), List.take_set_of_le (Nat.le_refl _)]; rfl
  · rw [List.drop_set_of_lt (by omega), ← List.drop_drop, ← List.drop_drop, h.post]
theorem Del.at_ (h : Del q L xs i j) : xs[j]? = L[j]? := by
  have := congrArg (fun l => l[0]?) h.post
  simpa using this
theorem Del.start {k : Nat} (hx : L[k]? = some x) (hs : q x = false) (hb : ∀ j y, j < k → L[j]? = some y → q y = true) : Del q L L k (k + 1) := by
  have hk : k < L.length := (List.getElem?_eq_some_iff.1 hx).1
  have e0 : (L.take k).filter q = L.take k := by
    rw [List.filter_eq_self]
    intro y hy
    obtain ⟨j, hj, rfl⟩ := List.mem_iff_getElem.1 hy
    have hj' : j < k := by simp at hj; omega
    rw [List.getElem_take]
    exact hb j _ hj' (List.getElem?_eq_getElem (by omega))
  have e : (L.take (k + 1)).filter q = L.take k := by
    rw [List.take_add_one, hx, List.filter_append, e0]; simp [hs]
  refine ⟨rfl, by rw [e], by rw [e]; simp; omega, rfl, by omega, hk⟩
end

/-- The place of the first that goes; or -1. -/
def IxPost {α : Type} (q : α → Bool) (L : List α) (w : World) (e : Ending) (w' : World) : Prop :=
  ((e = .returned (.int .i64 (-1)) ∧ ∀ (j : Nat) (y : α), L[j]? = some y → q y = true) ∨ ∃ (k : Nat) (x : α), e = .returned (.int .i64 (k : Int)) ∧ L[k]? = some x ∧ q x = false ∧ ∀ (j : Nat) (y : α), j < k → L[j]? = some y → q y = true) ∧ Below w.heap.size w w'

theorem cells_S {B c : Nat} {A : Option Addr} {L : List Int} {W : World} (h : W.ownsRow B 3 1 (.slice A L.length c) (L).length ((L).map (Value.int .i64))) : ∀ k x, L[k]? = some x → ∃ g, A = some ⟨g, 0, none⟩ ∧ W.cell? ⟨g, k, none⟩ = some (.int .i64 x) := fun k x hx => by
  have hk := (List.getElem?_eq_some_iff.1 hx).1
  obtain ⟨g, c', e, _, _, _⟩ := own_some h (by omega)
  simp only [Value.slice.injEq] at e
  obtain ⟨rfl, _, rfl⟩ := e
  exact ⟨g, rfl, (h.cellAt k (by omega)).trans (by simp [hx])⟩
set_option maxRecDepth 8000 in
set_option maxHeartbeats 3200000 in
theorem index_S (q : Int → Bool) (b1 b2 B : Nat) (A : Option Addr) (c : Nat) (L : List Int) (w : World) (ho : w.ownsRow B 3 1 (.slice A L.length c) (L).length ((L).map (Value.int .i64))) (hB : B ≤ w.heap.size) (hl : L.length ≤ 1000000) (HF0 : ∀ (x : Int) (W : World), x ∈ L → Below B w W → Calls Try.prog 42 #[.int .i64 x, .pointer (some ⟨b1, 0, none⟩), .pointer (some ⟨b2, 0, none⟩)] W fun e w' => e = .returned (.bool (!q x)) ∧ Below W.heap.size W w') :
    Calls Try.prog 59 #[.slice A L.length c, .func (.func 42) #[] #[.pointer (some ⟨b1, 0, none⟩), .pointer (some ⟨b2, 0, none⟩)]] w (IxPost q L w) := by
  have HCE := Lib.hid (fun W (b : Below w.heap.size w W) => cells_S (own_keepP ho b))
  have HBB := Lib.hid hB
  obtain ⟨a, ha⟩ : ∃ a, L.length = a := ⟨_, rfl⟩
  have HA := Lib.hid ha
  have HF := Lib.hid HF0
  rw [ha] at hl
  rw [ha]
  have HL : Hid (a ≤ 1000000) := hl
  unfold IxPost
  clear ha ho hl hB HF0
  go_enter Try.func59, Try.ntmps59
  go_wp2_with fail
  go_loopw [8] (fun i wr => ∃ k : Nat, k ≤ L.length ∧ i = .int .i64 (k : Int) ∧ (∀ j y, j < k → L[j]? = some y → q y = true) ∧ Below w.heap.size w wr) (fun i _ => a - (intOf i).toNat)
  case atStart => exact ⟨0, Nat.zero_le _, rfl, fun j y hj => by omega, Below.refl _ _⟩
  case round =>
    obtain ⟨k, hk, rfl, hall, hb⟩ := hrel
    have HALL := Lib.hid hall
    have HB := Lib.hid hb
    have hka : k ≤ a := by rw [← HA.out]; exact hk
    clear hk hall hb
    by_cases hlt : k < a
    · obtain ⟨x, hx⟩ : ∃ x, L[k]? = some x := ⟨_, List.getElem?_eq_getElem (by rw [HA.out]; exact hlt)⟩
      obtain ⟨g, rfl, c1⟩ := HCE.out _ HB.out k x hx
      have HXK := Lib.hid hx
      have hg := HF.out x wr (List.mem_of_getElem? hx) (HB.out.mono HBB.out)
      have hki : (0 : Int) ≤ k := by omega
      have hkb : (k : Int) < a := by omega
      have hl := HL.out
      have hk1 : IntKind.i64.wrap ((k : Int) + 1) = (k : Int) + 1 := IntWalk.i64_in _ (by omega)
      obtain ⟨b, hb⟩ : ∃ b, q x = b := ⟨_, rfl⟩
      have HNB := Lib.hid hb
      rw [hb] at hg
      have HG := Lib.hid hg
      clear hx hb hg
      go_wp2_with fail
      refine HG.out.mono ?_
      rintro e w6 ⟨rfl, hb6⟩
      have HB6 := Lib.hid (HB.out.trans (hb6.mono HB.out.size))
      clear hb6 c1 HG
      cases b with
      | false =>
        go_wp2
        go_ret
        exact ⟨.inr ⟨k, x, rfl, HXK.out, HNB.out, HALL.out⟩, HB6.out⟩
      | true =>
        go_wp2
        go_roundw
        case rel => exact ⟨k + 1, by rw [HA.out]; omega, by go_num, fun j y hj hy => by
          by_cases hjk : j = k
          · subst hjk
            rw [HXK.out] at hy
            obtain rfl := Option.some.inj hy
            exact HNB.out
          · exact HALL.out j y (by omega) hy, HB6.out⟩
        case measure => simp [intOf]; omega
    · obtain rfl : k = a := by omega
      go_wp2
      go_ret
      exact ⟨.inl ⟨rfl, fun j y hy => HALL.out j y (by rw [← HA.out]; exact (List.getElem?_eq_some_iff.1 hy).1) hy⟩, HB.out⟩
def Dl_S (q : Int → Bool) (L : List Int) (g B : Nat) (tl : List Value) (w : World) (j i : Value) (wr : World) : Prop :=
  ∃ (jn ki : Nat) (xs : List Int), j = .int .i64 (jn : Int) ∧ i = .int .i64 (ki : Int) ∧ Del q L xs ki jn ∧ wr.heap[g]? = some (.cells (((xs).map (Value.int .i64)) ++ tl).toArray 3 (0, 0)) ∧ Below B w wr
set_option maxRecDepth 8000 in
set_option maxHeartbeats 6400000 in
theorem delete_S (q : Int → Bool) (b1 b2 B : Nat) (A : Option Addr) (c : Nat) (L : List Int) (w : World) (ho : w.ownsRow B 3 1 (.slice A L.length c) (L).length ((L).map (Value.int .i64))) (hB : B ≤ w.heap.size) (hl : L.length ≤ 1000000) (HF0 : ∀ (x : Int) (W : World), x ∈ L → Below B w W → Calls Try.prog 42 #[.int .i64 x, .pointer (some ⟨b1, 0, none⟩), .pointer (some ⟨b2, 0, none⟩)] W fun e w' => e = .returned (.bool (!q x)) ∧ Below W.heap.size W w') :
    Calls Try.prog 40 #[.slice A L.length c, .func (.func 42) #[] #[.pointer (some ⟨b1, 0, none⟩), .pointer (some ⟨b2, 0, none⟩)]] w fun e w' => ∃ V', e = .returned V' ∧ w'.ownsRow B 3 1 V' (L.filter q).length ((L.filter q).map (Value.int .i64)) ∧ Below B w w' := by
  have HIX := Lib.hid (index_S q b1 b2 B A c L w ho hB hl HF0)
  have HO := Lib.hid ho
  have HBS := Lib.hid hB
  obtain ⟨m, hm⟩ : ∃ m, L.length = m := ⟨_, rfl⟩
  have HM := Lib.hid hm
  have HL : Hid (m ≤ 1000000) := by show _ ≤ _; omega
  have HF := Lib.hid HF0
  rw [hm] at HIX HO
  rw [hm]
  clear ho hB hl hm HF0
  go_enter Try.func40, Try.ntmps40
  go_wp2_with fail
  refine HIX.out.mono ?_
  rintro e w2 ⟨(⟨rfl, hall⟩ | ⟨k, x, rfl, hx, hn, hbb⟩), hb2⟩
  · have HO2 := Lib.hid (own_keepP HO.out hb2)
    have HB2 := Lib.hid (hb2.mono HBS.out)
    have HFI : Hid (L.filter q = L) := List.filter_eq_self.2 fun y hy => by
      obtain ⟨j, hj⟩ := List.mem_iff_getElem?.1 hy
      exact hall j y hj
    clear hb2 HIX HO hall
    go_wp2
    go_ret
    rw [HFI.out, HM.out]
    exact ⟨_, rfl, HO2.out, HB2.out⟩
  · have hk : k < m := by rw [← HM.out]; exact (List.getElem?_eq_some_iff.1 hx).1
    have HD0 := Lib.hid (Del.start hx hn hbb)
    rcases HO.out.2 with ⟨e, h0⟩ | ⟨g, cap, cur, e, hgB, hg, r1, r2, r3, r4⟩
    · omega
    simp only [Value.slice.injEq] at e
    obtain ⟨rfl, _, rfl⟩ := e
    have hfl : (L.map (Value.int .i64)).length = m := by simp [HM.out]
    obtain ⟨tl, htl⟩ : ∃ tl, cur.toList = L.map (Value.int .i64) ++ tl := ⟨cur.toList.drop (m * 1), by rw [← r4, List.take_append_drop]⟩
    have hcur : cur = (L.map (Value.int .i64) ++ tl).toArray := by rw [← htl]
    subst hcur
    have HG2 := Lib.hid ((hb2.block _ (lt_of_block hg)).trans hg)
    have HB2 := Lib.hid (hb2.mono HBS.out)
    have HGB := Lib.hid hgB
    have HC : Hid (m ≤ c ∧ c ≤ maxLen) := ⟨r1, r2⟩
    have HTL : Hid (m + tl.length = c) := by
      have h := r3
      rw [List.size_toArray, List.length_append, hfl] at h
      show _ = _
      simpa using h
    have hk1 : IntKind.i64.wrap ((k : Int) + 1) = (k : Int) + 1 := IntWalk.i64_in _ (by have := HL.out; omega)
    have hkn : ((k : Int) == -1) = false := by first | (simp; done) | (simp; omega)
    have HSTA : Hid (Dl_S q L g B tl w (.int .i64 ((k : Int) + 1)) (.int .i64 (k : Int)) w2) := ⟨k + 1, k, L, by simp, rfl, HD0.out, HG2.out, HB2.out⟩
    clear hb2 HIX HO hx hn hbb hg hgB r1 r2 r3 r4 htl hfl HG2 HB2 HD0
    go_wp2_with fail
    go_loopw [6, 5] (fun j i wr => Dl_S q L g B tl w j i wr) (fun j _ _ => m - (intOf j).toNat)
    case atStart => exact HSTA.out
    case round =>
      obtain ⟨j, i, xs, rfl, rfl, hD, hg, hb⟩ := hrel
      have HD := Lib.hid hD
      have HG := Lib.hid hg
      have HB := Lib.hid hb
      have hji : i < j := hD.lt
      have hjm : j ≤ m := by rw [← HM.out]; exact hD.le
      clear hD hg hb hk1 hkn hk HSTA
      by_cases hlt : j < m
      · obtain ⟨x, hx⟩ : ∃ x, L[j]? = some x := ⟨_, List.getElem?_eq_getElem (by rw [HM.out]; exact hlt)⟩
        have hxx := HD.out.at_.trans hx
        have c1 : wr.cell? ⟨g, j, none⟩ = some (.int .i64 x) := by
          rw [cell_of_row _ _ _ _ _ _ HG.out, List.getElem?_toArray, List.getElem?_append_left (by simp [HD.out.len, HM.out]; omega), List.getElem?_map, hxx]; rfl
        have HXK := Lib.hid hx
        have hki : (0 : Int) ≤ j := by omega
        have hkb : (j : Int) < m := by omega
        have hl := HL.out
        have hj1 : IntKind.i64.wrap ((j : Int) + 1) = (j : Int) + 1 := IntWalk.i64_in _ (by omega)
        have hi1 : IntKind.i64.wrap ((i : Int) + 1) = (i : Int) + 1 := IntWalk.i64_in _ (by omega)
        have hfx := (HF.out x wr (List.mem_of_getElem? HXK.out) HB.out)
        obtain ⟨b, hb⟩ : ∃ b, q x = b := ⟨_, rfl⟩
        have HNB := Lib.hid hb
        rw [hb] at hfx
        have HFX := Lib.hid hfx
        clear hx hb hxx hfx
        go_wp2_with fail
        refine HFX.out.mono ?_
        rintro e w6 ⟨rfl, hb6⟩
        have HB6 := Lib.hid (HB.out.trans (hb6.mono (Nat.le_trans HBS.out HB.out.size)))
        have HG6 := Lib.hid ((hb6.block _ (lt_of_block HG.out)).trans HG.out)
        clear hb6 c1 HB HG HFX
        cases b with
        | false =>
          go_wp2
          go_roundw
          case rel => exact ⟨j + 1, i, xs, by first | rfl | go_num, rfl, HD.out.skip HXK.out HNB.out, HG6.out, HB6.out⟩
          case measure => simp [intOf]; omega
        | true =>
          have hii : (0 : Int) ≤ i := by omega
          have hib : (i : Int) < m := by omega
          have hil : i < (xs.map (Value.int .i64) ++ tl).toArray.size := by simp [HD.out.len, HM.out]; omega
          obtain ⟨v0, z0⟩ : ∃ v, w6.cell? ⟨g, i, none⟩ = some v := by rw [cell_of_row _ _ _ _ _ _ HG6.out, Array.getElem?_eq_getElem hil]; exact ⟨_, rfl⟩
          have f0 : w6.frozen? ⟨g, i, none⟩ = false := by simp [World.frozen?, HG6.out]
          have hset : w6.setCell ⟨g, i, none⟩ (.int .i64 x) = w6.setRow g ((xs.set i x).map (Value.int .i64) ++ tl).toArray := by
            rw [setCell_eq_setRow w6 g i _ _ _ _ HG6.out]
            congr 1
            rw [List.setIfInBounds_toArray, List.set_append_left _ _ (by simp [HD.out.len, HM.out]; omega), List.map_set]
          have HG7 : Hid ((w6.setCell ⟨g, i, none⟩ (.int .i64 x)).heap[g]? = some (.cells ((xs.set i x).map (Value.int .i64) ++ tl).toArray 3 (0, 0))) := by
            show _ = _
            rw [hset]; exact setRow_heap _ _ _ _ _ _ HG6.out
          have HB7 : Hid (Below B w (w6.setCell ⟨g, i, none⟩ (.int .i64 x))) := by
            show Below _ _ _
            rw [hset]; exact blw_setRow HB6.out HGB.out _
          clear hset hil
          go_wp2
          go_roundw
          case rel => exact ⟨j + 1, i + 1, xs.set i x, by first | rfl | go_num, by first | rfl | go_num, HD.out.keep HXK.out HNB.out, HG7.out, HB7.out⟩
          case measure => simp [intOf]; omega
      · obtain rfl : j = m := by omega
        have hDi := HD.out.pre
        have hDn := HD.out.num
        have eL : L.take j = L := List.take_of_length_le (by rw [HM.out]; exact Nat.le_refl _)
        rw [eL] at hDi hDn
        clear eL
        obtain ⟨zs, hz, hcl⟩ := run_clear1 (P := Try.prog) wr 29 3 (.int .i64 0) [.int .i64 0] Try.underlying29 zeroInt9 rfl rfl (by intro v hv; simp at hv; rw [hv]; rfl) g i (j - i) (c - i) (by omega) _ _ HG.out (by
          have := HTL.out
          have := HC.out.1
          rw [List.size_toArray, List.length_append, List.length_map, HD.out.len, HM.out]
          omega)
        have HIC := HC.out.1
        have hii : (0 : Int) ≤ i := by omega
        have hij : (i : Int) ≤ j := by omega
        have hic : (i : Int) ≤ c := by omega
        have t3 : ¬ c = i := by omega
        have t4 : ¬ c - i = 0 := by omega
        have hG9 := setRow_heap wr g _ (splice (xs.map (Value.int .i64) ++ tl).toArray.toList (i) zs).toArray 3 (0, 0) HG.out
        have hB9 := blw_setRow HB.out HGB.out (splice (xs.map (Value.int .i64) ++ tl).toArray.toList (i) zs).toArray
        have HFIN : Hid (((splice (xs.map (Value.int .i64) ++ tl).toArray.toList (i) zs).toArray.toList.take (i)) = (L.filter q).map (Value.int .i64)) := by
          show _ = _
          rw [← hDi]
          unfold splice
          rw [List.take_left' (by
            rw [List.length_take]
            have := HTL.out
            simp only [List.length_append, List.length_map, HD.out.len, HM.out]
            omega)]
          show List.take (i) (xs.map (Value.int .i64) ++ tl) = _
          rw [List.take_append_of_le_length (by rw [List.length_map, HD.out.len, HM.out]; omega), ← List.map_take]
        have HSZ : Hid ((splice (xs.map (Value.int .i64) ++ tl).toArray.toList i zs).toArray.size = c * 1) := by
          show _ = _
          rw [List.size_toArray, length_splice _ _ _ (by
            have := HTL.out
            simp only [List.length_append, List.length_map, HD.out.len, HM.out, hz]
            omega)]
          simp only [List.length_append, List.length_map, HD.out.len, HM.out]
          have := HTL.out
          omega
        obtain ⟨cu, hcu⟩ : ∃ cu, (splice (xs.map (Value.int .i64) ++ tl).toArray.toList (i) zs).toArray = cu := ⟨_, rfl⟩
        rw [hcu] at hcl hG9 hB9 HFIN HSZ
        have HG9 := Lib.hid hG9
        have HB9 := Lib.hid hB9
        have HNUM := Lib.hid hDn
        clear hDi hDn hcu hG9 hB9 HG HB
        go_wp2
        go_ret
        refine ⟨_, rfl, ?_, HB9.out⟩
        rw [← HNUM.out]
        refine ⟨by simp [HNUM.out], .inr ⟨g, c, cu, rfl, HGB.out, HG9.out, by omega, HC.out.2, HSZ.out, ?_⟩⟩
        rw [Nat.mul_one]; exact HFIN.out

theorem cells_F {B c : Nat} {A : Option Addr} {L : List Int} {W : World} (h : W.ownsRow B 3 1 (.slice A L.length c) (L).length ((L).map (Value.int .i64))) : ∀ k x, L[k]? = some x → ∃ g, A = some ⟨g, 0, none⟩ ∧ W.cell? ⟨g, k, none⟩ = some (.int .i64 x) := fun k x hx => by
  have hk := (List.getElem?_eq_some_iff.1 hx).1
  obtain ⟨g, c', e, _, _, _⟩ := own_some h (by omega)
  simp only [Value.slice.injEq] at e
  obtain ⟨rfl, _, rfl⟩ := e
  exact ⟨g, rfl, (h.cellAt k (by omega)).trans (by simp [hx])⟩
set_option maxRecDepth 8000 in
set_option maxHeartbeats 3200000 in
theorem index_F (q : Int → Bool) (b1 B : Nat) (A : Option Addr) (c : Nat) (L : List Int) (w : World) (ho : w.ownsRow B 3 1 (.slice A L.length c) (L).length ((L).map (Value.int .i64))) (hB : B ≤ w.heap.size) (hl : L.length ≤ 1000000) (HF0 : ∀ (x : Int) (W : World), x ∈ L → Below B w W → Calls Try.prog 44 #[.int .i64 x, .pointer (some ⟨b1, 0, none⟩)] W fun e w' => e = .returned (.bool (!q x)) ∧ Below W.heap.size W w') :
    Calls Try.prog 59 #[.slice A L.length c, .func (.func 44) #[] #[.pointer (some ⟨b1, 0, none⟩)]] w (IxPost q L w) := by
  have HCE := Lib.hid (fun W (b : Below w.heap.size w W) => cells_F (own_keepP ho b))
  have HBB := Lib.hid hB
  obtain ⟨a, ha⟩ : ∃ a, L.length = a := ⟨_, rfl⟩
  have HA := Lib.hid ha
  have HF := Lib.hid HF0
  rw [ha] at hl
  rw [ha]
  have HL : Hid (a ≤ 1000000) := hl
  unfold IxPost
  clear ha ho hl hB HF0
  go_enter Try.func59, Try.ntmps59
  go_wp2_with fail
  go_loopw [8] (fun i wr => ∃ k : Nat, k ≤ L.length ∧ i = .int .i64 (k : Int) ∧ (∀ j y, j < k → L[j]? = some y → q y = true) ∧ Below w.heap.size w wr) (fun i _ => a - (intOf i).toNat)
  case atStart => exact ⟨0, Nat.zero_le _, rfl, fun j y hj => by omega, Below.refl _ _⟩
  case round =>
    obtain ⟨k, hk, rfl, hall, hb⟩ := hrel
    have HALL := Lib.hid hall
    have HB := Lib.hid hb
    have hka : k ≤ a := by rw [← HA.out]; exact hk
    clear hk hall hb
    by_cases hlt : k < a
    · obtain ⟨x, hx⟩ : ∃ x, L[k]? = some x := ⟨_, List.getElem?_eq_getElem (by rw [HA.out]; exact hlt)⟩
      obtain ⟨g, rfl, c1⟩ := HCE.out _ HB.out k x hx
      have HXK := Lib.hid hx
      have hg := HF.out x wr (List.mem_of_getElem? hx) (HB.out.mono HBB.out)
      have hki : (0 : Int) ≤ k := by omega
      have hkb : (k : Int) < a := by omega
      have hl := HL.out
      have hk1 : IntKind.i64.wrap ((k : Int) + 1) = (k : Int) + 1 := IntWalk.i64_in _ (by omega)
      obtain ⟨b, hb⟩ : ∃ b, q x = b := ⟨_, rfl⟩
      have HNB := Lib.hid hb
      rw [hb] at hg
      have HG := Lib.hid hg
      clear hx hb hg
      go_wp2_with fail
      refine HG.out.mono ?_
      rintro e w6 ⟨rfl, hb6⟩
      have HB6 := Lib.hid (HB.out.trans (hb6.mono HB.out.size))
      clear hb6 c1 HG
      cases b with
      | false =>
        go_wp2
        go_ret
        exact ⟨.inr ⟨k, x, rfl, HXK.out, HNB.out, HALL.out⟩, HB6.out⟩
      | true =>
        go_wp2
        go_roundw
        case rel => exact ⟨k + 1, by rw [HA.out]; omega, by go_num, fun j y hj hy => by
          by_cases hjk : j = k
          · subst hjk
            rw [HXK.out] at hy
            obtain rfl := Option.some.inj hy
            exact HNB.out
          · exact HALL.out j y (by omega) hy, HB6.out⟩
        case measure => simp [intOf]; omega
    · obtain rfl : k = a := by omega
      go_wp2
      go_ret
      exact ⟨.inl ⟨rfl, fun j y hy => HALL.out j y (by rw [← HA.out]; exact (List.getElem?_eq_some_iff.1 hy).1) hy⟩, HB.out⟩
def Dl_F (q : Int → Bool) (L : List Int) (g B : Nat) (tl : List Value) (w : World) (j i : Value) (wr : World) : Prop :=
  ∃ (jn ki : Nat) (xs : List Int), j = .int .i64 (jn : Int) ∧ i = .int .i64 (ki : Int) ∧ Del q L xs ki jn ∧ wr.heap[g]? = some (.cells (((xs).map (Value.int .i64)) ++ tl).toArray 3 (0, 0)) ∧ Below B w wr
set_option maxRecDepth 8000 in
set_option maxHeartbeats 6400000 in
theorem delete_F (q : Int → Bool) (b1 B : Nat) (A : Option Addr) (c : Nat) (L : List Int) (w : World) (ho : w.ownsRow B 3 1 (.slice A L.length c) (L).length ((L).map (Value.int .i64))) (hB : B ≤ w.heap.size) (hl : L.length ≤ 1000000) (HF0 : ∀ (x : Int) (W : World), x ∈ L → Below B w W → Calls Try.prog 44 #[.int .i64 x, .pointer (some ⟨b1, 0, none⟩)] W fun e w' => e = .returned (.bool (!q x)) ∧ Below W.heap.size W w') :
    Calls Try.prog 40 #[.slice A L.length c, .func (.func 44) #[] #[.pointer (some ⟨b1, 0, none⟩)]] w fun e w' => ∃ V', e = .returned V' ∧ w'.ownsRow B 3 1 V' (L.filter q).length ((L.filter q).map (Value.int .i64)) ∧ Below B w w' := by
  have HIX := Lib.hid (index_F q b1 B A c L w ho hB hl HF0)
  have HO := Lib.hid ho
  have HBS := Lib.hid hB
  obtain ⟨m, hm⟩ : ∃ m, L.length = m := ⟨_, rfl⟩
  have HM := Lib.hid hm
  have HL : Hid (m ≤ 1000000) := by show _ ≤ _; omega
  have HF := Lib.hid HF0
  rw [hm] at HIX HO
  rw [hm]
  clear ho hB hl hm HF0
  go_enter Try.func40, Try.ntmps40
  go_wp2_with fail
  refine HIX.out.mono ?_
  rintro e w2 ⟨(⟨rfl, hall⟩ | ⟨k, x, rfl, hx, hn, hbb⟩), hb2⟩
  · have HO2 := Lib.hid (own_keepP HO.out hb2)
    have HB2 := Lib.hid (hb2.mono HBS.out)
    have HFI : Hid (L.filter q = L) := List.filter_eq_self.2 fun y hy => by
      obtain ⟨j, hj⟩ := List.mem_iff_getElem?.1 hy
      exact hall j y hj
    clear hb2 HIX HO hall
    go_wp2
    go_ret
    rw [HFI.out, HM.out]
    exact ⟨_, rfl, HO2.out, HB2.out⟩
  · have hk : k < m := by rw [← HM.out]; exact (List.getElem?_eq_some_iff.1 hx).1
    have HD0 := Lib.hid (Del.start hx hn hbb)
    rcases HO.out.2 with ⟨e, h0⟩ | ⟨g, cap, cur, e, hgB, hg, r1, r2, r3, r4⟩
    · omega
    simp only [Value.slice.injEq] at e
    obtain ⟨rfl, _, rfl⟩ := e
    have hfl : (L.map (Value.int .i64)).length = m := by simp [HM.out]
    obtain ⟨tl, htl⟩ : ∃ tl, cur.toList = L.map (Value.int .i64) ++ tl := ⟨cur.toList.drop (m * 1), by rw [← r4, List.take_append_drop]⟩
    have hcur : cur = (L.map (Value.int .i64) ++ tl).toArray := by rw [← htl]
    subst hcur
    have HG2 := Lib.hid ((hb2.block _ (lt_of_block hg)).trans hg)
    have HB2 := Lib.hid (hb2.mono HBS.out)
    have HGB := Lib.hid hgB
    have HC : Hid (m ≤ c ∧ c ≤ maxLen) := ⟨r1, r2⟩
    have HTL : Hid (m + tl.length = c) := by
      have h := r3
      rw [List.size_toArray, List.length_append, hfl] at h
      show _ = _
      simpa using h
    have hk1 : IntKind.i64.wrap ((k : Int) + 1) = (k : Int) + 1 := IntWalk.i64_in _ (by have := HL.out; omega)
    have hkn : ((k : Int) == -1) = false := by first | (simp; done) | (simp; omega)
    have HSTA : Hid (Dl_F q L g B tl w (.int .i64 ((k : Int) + 1)) (.int .i64 (k : Int)) w2) := ⟨k + 1, k, L, by simp, rfl, HD0.out, HG2.out, HB2.out⟩
    clear hb2 HIX HO hx hn hbb hg hgB r1 r2 r3 r4 htl hfl HG2 HB2 HD0
    go_wp2_with fail
    go_loopw [6, 5] (fun j i wr => Dl_F q L g B tl w j i wr) (fun j _ _ => m - (intOf j).toNat)
    case atStart => exact HSTA.out
    case round =>
      obtain ⟨j, i, xs, rfl, rfl, hD, hg, hb⟩ := hrel
      have HD := Lib.hid hD
      have HG := Lib.hid hg
      have HB := Lib.hid hb
      have hji : i < j := hD.lt
      have hjm : j ≤ m := by rw [← HM.out]; exact hD.le
      clear hD hg hb hk1 hkn hk HSTA
      by_cases hlt : j < m
      · obtain ⟨x, hx⟩ : ∃ x, L[j]? = some x := ⟨_, List.getElem?_eq_getElem (by rw [HM.out]; exact hlt)⟩
        have hxx := HD.out.at_.trans hx
        have c1 : wr.cell? ⟨g, j, none⟩ = some (.int .i64 x) := by
          rw [cell_of_row _ _ _ _ _ _ HG.out, List.getElem?_toArray, List.getElem?_append_left (by simp [HD.out.len, HM.out]; omega), List.getElem?_map, hxx]; rfl
        have HXK := Lib.hid hx
        have hki : (0 : Int) ≤ j := by omega
        have hkb : (j : Int) < m := by omega
        have hl := HL.out
        have hj1 : IntKind.i64.wrap ((j : Int) + 1) = (j : Int) + 1 := IntWalk.i64_in _ (by omega)
        have hi1 : IntKind.i64.wrap ((i : Int) + 1) = (i : Int) + 1 := IntWalk.i64_in _ (by omega)
        have hfx := (HF.out x wr (List.mem_of_getElem? HXK.out) HB.out)
        obtain ⟨b, hb⟩ : ∃ b, q x = b := ⟨_, rfl⟩
        have HNB := Lib.hid hb
        rw [hb] at hfx
        have HFX := Lib.hid hfx
        clear hx hb hxx hfx
        go_wp2_with fail
        refine HFX.out.mono ?_
        rintro e w6 ⟨rfl, hb6⟩
        have HB6 := Lib.hid (HB.out.trans (hb6.mono (Nat.le_trans HBS.out HB.out.size)))
        have HG6 := Lib.hid ((hb6.block _ (lt_of_block HG.out)).trans HG.out)
        clear hb6 c1 HB HG HFX
        cases b with
        | false =>
          go_wp2
          go_roundw
          case rel => exact ⟨j + 1, i, xs, by first | rfl | go_num, rfl, HD.out.skip HXK.out HNB.out, HG6.out, HB6.out⟩
          case measure => simp [intOf]; omega
        | true =>
          have hii : (0 : Int) ≤ i := by omega
          have hib : (i : Int) < m := by omega
          have hil : i < (xs.map (Value.int .i64) ++ tl).toArray.size := by simp [HD.out.len, HM.out]; omega
          obtain ⟨v0, z0⟩ : ∃ v, w6.cell? ⟨g, i, none⟩ = some v := by rw [cell_of_row _ _ _ _ _ _ HG6.out, Array.getElem?_eq_getElem hil]; exact ⟨_, rfl⟩
          have f0 : w6.frozen? ⟨g, i, none⟩ = false := by simp [World.frozen?, HG6.out]
          have hset : w6.setCell ⟨g, i, none⟩ (.int .i64 x) = w6.setRow g ((xs.set i x).map (Value.int .i64) ++ tl).toArray := by
            rw [setCell_eq_setRow w6 g i _ _ _ _ HG6.out]
            congr 1
            rw [List.setIfInBounds_toArray, List.set_append_left _ _ (by simp [HD.out.len, HM.out]; omega), List.map_set]
          have HG7 : Hid ((w6.setCell ⟨g, i, none⟩ (.int .i64 x)).heap[g]? = some (.cells ((xs.set i x).map (Value.int .i64) ++ tl).toArray 3 (0, 0))) := by
            show _ = _
            rw [hset]; exact setRow_heap _ _ _ _ _ _ HG6.out
          have HB7 : Hid (Below B w (w6.setCell ⟨g, i, none⟩ (.int .i64 x))) := by
            show Below _ _ _
            rw [hset]; exact blw_setRow HB6.out HGB.out _
          clear hset hil
          go_wp2
          go_roundw
          case rel => exact ⟨j + 1, i + 1, xs.set i x, by first | rfl | go_num, by first | rfl | go_num, HD.out.keep HXK.out HNB.out, HG7.out, HB7.out⟩
          case measure => simp [intOf]; omega
      · obtain rfl : j = m := by omega
        have hDi := HD.out.pre
        have hDn := HD.out.num
        have eL : L.take j = L := List.take_of_length_le (by rw [HM.out]; exact Nat.le_refl _)
        rw [eL] at hDi hDn
        clear eL
        obtain ⟨zs, hz, hcl⟩ := run_clear1 (P := Try.prog) wr 29 3 (.int .i64 0) [.int .i64 0] Try.underlying29 zeroInt9 rfl rfl (by intro v hv; simp at hv; rw [hv]; rfl) g i (j - i) (c - i) (by omega) _ _ HG.out (by
          have := HTL.out
          have := HC.out.1
          rw [List.size_toArray, List.length_append, List.length_map, HD.out.len, HM.out]
          omega)
        have HIC := HC.out.1
        have hii : (0 : Int) ≤ i := by omega
        have hij : (i : Int) ≤ j := by omega
        have hic : (i : Int) ≤ c := by omega
        have t3 : ¬ c = i := by omega
        have t4 : ¬ c - i = 0 := by omega
        have hG9 := setRow_heap wr g _ (splice (xs.map (Value.int .i64) ++ tl).toArray.toList (i) zs).toArray 3 (0, 0) HG.out
        have hB9 := blw_setRow HB.out HGB.out (splice (xs.map (Value.int .i64) ++ tl).toArray.toList (i) zs).toArray
        have HFIN : Hid (((splice (xs.map (Value.int .i64) ++ tl).toArray.toList (i) zs).toArray.toList.take (i)) = (L.filter q).map (Value.int .i64)) := by
          show _ = _
          rw [← hDi]
          unfold splice
          rw [List.take_left' (by
            rw [List.length_take]
            have := HTL.out
            simp only [List.length_append, List.length_map, HD.out.len, HM.out]
            omega)]
          show List.take (i) (xs.map (Value.int .i64) ++ tl) = _
          rw [List.take_append_of_le_length (by rw [List.length_map, HD.out.len, HM.out]; omega), ← List.map_take]
        have HSZ : Hid ((splice (xs.map (Value.int .i64) ++ tl).toArray.toList i zs).toArray.size = c * 1) := by
          show _ = _
          rw [List.size_toArray, length_splice _ _ _ (by
            have := HTL.out
            simp only [List.length_append, List.length_map, HD.out.len, HM.out, hz]
            omega)]
          simp only [List.length_append, List.length_map, HD.out.len, HM.out]
          have := HTL.out
          omega
        obtain ⟨cu, hcu⟩ : ∃ cu, (splice (xs.map (Value.int .i64) ++ tl).toArray.toList (i) zs).toArray = cu := ⟨_, rfl⟩
        rw [hcu] at hcl hG9 hB9 HFIN HSZ
        have HG9 := Lib.hid hG9
        have HB9 := Lib.hid hB9
        have HNUM := Lib.hid hDn
        clear hDi hDn hcu hG9 hB9 HG HB
        go_wp2
        go_ret
        refine ⟨_, rfl, ?_, HB9.out⟩
        rw [← HNUM.out]
        refine ⟨by simp [HNUM.out], .inr ⟨g, c, cu, rfl, HGB.out, HG9.out, by omega, HC.out.2, HSZ.out, ?_⟩⟩
        rw [Nat.mul_one]; exact HFIN.out

theorem cells_B {B c : Nat} {A : Option Addr} {L : List P2} {W : World} (h : OwnP B A L.length c L W) : ∀ k x, L[k]? = some x → ∃ g, A = some ⟨g, 0, none⟩ ∧ W.cell? ⟨g, k * 2, none⟩ = some (.int .i64 x.f) ∧ W.cell? ⟨g, k * 2 + 1, none⟩ = some (.int .i64 x.t) := fun k x hx => by
  have hk := (List.getElem?_eq_some_iff.1 hx).1
  exact h.at_ k x hx
set_option maxRecDepth 8000 in
set_option maxHeartbeats 3200000 in
theorem index_B (q : P2 → Bool) (b1 B : Nat) (A : Option Addr) (c : Nat) (L : List P2) (w : World) (ho : OwnP B A L.length c L w) (hB : B ≤ w.heap.size) (hl : L.length ≤ 1000000) (HF0 : ∀ (x : P2) (W : World), x ∈ L → Below B w W → Calls Try.prog 46 #[.agg #[.int .i64 x.f, .int .i64 x.t], .pointer (some ⟨b1, 0, none⟩)] W fun e w' => e = .returned (.bool (!q x)) ∧ Below W.heap.size W w') :
    Calls Try.prog 64 #[.slice A L.length c, .func (.func 46) #[] #[.pointer (some ⟨b1, 0, none⟩)]] w (IxPost q L w) := by
  have HCE := Lib.hid (fun W (b : Below w.heap.size w W) => cells_B (OwnP.keep ho b))
  have HBB := Lib.hid hB
  obtain ⟨a, ha⟩ : ∃ a, L.length = a := ⟨_, rfl⟩
  have HA := Lib.hid ha
  have HF := Lib.hid HF0
  rw [ha] at hl
  rw [ha]
  have HL : Hid (a ≤ 1000000) := hl
  unfold IxPost
  clear ha ho hl hB HF0
  go_enter Try.func64, Try.ntmps64
  go_wp2_with fail
  go_loopw [8] (fun i wr => ∃ k : Nat, k ≤ L.length ∧ i = .int .i64 (k : Int) ∧ (∀ j y, j < k → L[j]? = some y → q y = true) ∧ Below w.heap.size w wr) (fun i _ => a - (intOf i).toNat)
  case atStart => exact ⟨0, Nat.zero_le _, rfl, fun j y hj => by omega, Below.refl _ _⟩
  case round =>
    obtain ⟨k, hk, rfl, hall, hb⟩ := hrel
    have HALL := Lib.hid hall
    have HB := Lib.hid hb
    have hka : k ≤ a := by rw [← HA.out]; exact hk
    clear hk hall hb
    by_cases hlt : k < a
    · obtain ⟨x, hx⟩ : ∃ x, L[k]? = some x := ⟨_, List.getElem?_eq_getElem (by rw [HA.out]; exact hlt)⟩
      obtain ⟨g, rfl, c1, c2⟩ := HCE.out _ HB.out k x hx
      have HXK := Lib.hid hx
      have hg := HF.out x wr (List.mem_of_getElem? hx) (HB.out.mono HBB.out)
      have hki : (0 : Int) ≤ k := by omega
      have hkb : (k : Int) < a := by omega
      have hl := HL.out
      have hk1 : IntKind.i64.wrap ((k : Int) + 1) = (k : Int) + 1 := IntWalk.i64_in _ (by omega)
      obtain ⟨b, hb⟩ : ∃ b, q x = b := ⟨_, rfl⟩
      have HNB := Lib.hid hb
      rw [hb] at hg
      have HG := Lib.hid hg
      clear hx hb hg
      go_wp2_with fail
      refine HG.out.mono ?_
      rintro e w6 ⟨rfl, hb6⟩
      have HB6 := Lib.hid (HB.out.trans (hb6.mono HB.out.size))
      clear hb6 c1 c2 HG
      cases b with
      | false =>
        go_wp2
        go_ret
        exact ⟨.inr ⟨k, x, rfl, HXK.out, HNB.out, HALL.out⟩, HB6.out⟩
      | true =>
        go_wp2
        go_roundw
        case rel => exact ⟨k + 1, by rw [HA.out]; omega, by go_num, fun j y hj hy => by
          by_cases hjk : j = k
          · subst hjk
            rw [HXK.out] at hy
            obtain rfl := Option.some.inj hy
            exact HNB.out
          · exact HALL.out j y (by omega) hy, HB6.out⟩
        case measure => simp [intOf]; omega
    · obtain rfl : k = a := by omega
      go_wp2
      go_ret
      exact ⟨.inl ⟨rfl, fun j y hy => HALL.out j y (by rw [← HA.out]; exact (List.getElem?_eq_some_iff.1 hy).1) hy⟩, HB.out⟩
def Dl_B (q : P2 → Bool) (L : List P2) (g B : Nat) (tl : List Value) (w : World) (j i : Value) (wr : World) : Prop :=
  ∃ (jn ki : Nat) (xs : List P2), j = .int .i64 (jn : Int) ∧ i = .int .i64 (ki : Int) ∧ Del q L xs ki jn ∧ wr.heap[g]? = some (.cells ((flatP (xs)) ++ tl).toArray 24 (0, 0)) ∧ Below B w wr
set_option maxRecDepth 8000 in
set_option maxHeartbeats 6400000 in
theorem delete_B (q : P2 → Bool) (b1 B : Nat) (A : Option Addr) (c : Nat) (L : List P2) (w : World) (ho : OwnP B A L.length c L w) (hB : B ≤ w.heap.size) (hl : L.length ≤ 1000000) (HF0 : ∀ (x : P2) (W : World), x ∈ L → Below B w W → Calls Try.prog 46 #[.agg #[.int .i64 x.f, .int .i64 x.t], .pointer (some ⟨b1, 0, none⟩)] W fun e w' => e = .returned (.bool (!q x)) ∧ Below W.heap.size W w') :
    Calls Try.prog 45 #[.slice A L.length c, .func (.func 46) #[] #[.pointer (some ⟨b1, 0, none⟩)]] w fun e w' => ∃ A' n' c', e = .returned (.slice A' n' c') ∧ OwnP B A' n' c' (L.filter q) w' ∧ Below B w w' := by
  have HIX := Lib.hid (index_B q b1 B A c L w ho hB hl HF0)
  have HO := Lib.hid ho
  have HBS := Lib.hid hB
  obtain ⟨m, hm⟩ : ∃ m, L.length = m := ⟨_, rfl⟩
  have HM := Lib.hid hm
  have HL : Hid (m ≤ 1000000) := by show _ ≤ _; omega
  have HF := Lib.hid HF0
  rw [hm] at HIX HO
  rw [hm]
  clear ho hB hl hm HF0
  go_enter Try.func45, Try.ntmps45
  go_wp2_with fail
  refine HIX.out.mono ?_
  rintro e w2 ⟨(⟨rfl, hall⟩ | ⟨k, x, rfl, hx, hn, hbb⟩), hb2⟩
  · have HO2 := Lib.hid (OwnP.keep HO.out hb2)
    have HB2 := Lib.hid (hb2.mono HBS.out)
    have HFI : Hid (L.filter q = L) := List.filter_eq_self.2 fun y hy => by
      obtain ⟨j, hj⟩ := List.mem_iff_getElem?.1 hy
      exact hall j y hj
    clear hb2 HIX HO hall
    go_wp2
    go_ret
    rw [HFI.out]
    exact ⟨_, _, _, rfl, HO2.out, HB2.out⟩
  · have hk : k < m := by rw [← HM.out]; exact (List.getElem?_eq_some_iff.1 hx).1
    have HD0 := Lib.hid (Del.start hx hn hbb)
    rcases HO.out.2.2.2 with ⟨_, h0, _⟩ | ⟨g, tl, rfl, hgB, hg⟩
    · omega
    have r1 := HO.out.2.1
    have r2 := HO.out.2.2.1
    have HG2 := Lib.hid ((hb2.block _ (lt_of_block hg)).trans hg)
    have HB2 := Lib.hid (hb2.mono HBS.out)
    have HGB := Lib.hid hgB
    have HC : Hid (m ≤ c ∧ c ≤ maxLen) := ⟨r1, r2⟩
    have hk1 : IntKind.i64.wrap ((k : Int) + 1) = (k : Int) + 1 := IntWalk.i64_in _ (by have := HL.out; omega)
    have hkn : ((k : Int) == -1) = false := by first | (simp; done) | (simp; omega)
    have HSTA : Hid (Dl_B q L g B tl w (.int .i64 ((k : Int) + 1)) (.int .i64 (k : Int)) w2) := ⟨k + 1, k, L, by simp, rfl, HD0.out, HG2.out, HB2.out⟩
    clear hb2 HIX HO hx hn hbb hg hgB r1 r2 HG2 HB2 HD0
    go_wp2_with fail
    go_loopw [6, 5] (fun j i wr => Dl_B q L g B tl w j i wr) (fun j _ _ => m - (intOf j).toNat)
    case atStart => exact HSTA.out
    case round =>
      obtain ⟨j, i, xs, rfl, rfl, hD, hg, hb⟩ := hrel
      have HD := Lib.hid hD
      have HG := Lib.hid hg
      have HB := Lib.hid hb
      have hji : i < j := hD.lt
      have hjm : j ≤ m := by rw [← HM.out]; exact hD.le
      clear hD hg hb hk1 hkn hk HSTA
      by_cases hlt : j < m
      · obtain ⟨x, hx⟩ : ∃ x, L[j]? = some x := ⟨_, List.getElem?_eq_getElem (by rw [HM.out]; exact hlt)⟩
        have hxx := HD.out.at_.trans hx
        obtain ⟨c1, c2⟩ := (show RowP g tl xs wr from HG.out).cells hxx
        have HXK := Lib.hid hx
        have hb5 : Below wr.heap.size wr (wr.alloc (.cells #[.int .i64 x.f, .int .i64 x.t] 24)) := (Below.refl _ _).alloc (Nat.le_refl _) _
        have hx5 := heap_alloc_new wr (.cells #[.int .i64 x.f, .int .i64 x.t] 24)
        obtain ⟨W5, hW5⟩ : ∃ W5, wr.alloc (.cells #[.int .i64 x.f, .int .i64 x.t] 24) = W5 := ⟨_, rfl⟩
        obtain ⟨bx, hbx⟩ : ∃ bx, wr.heap.size = bx := ⟨_, rfl⟩
        rw [hW5] at hb5 hx5
        rw [hbx] at hx5
        have HW5 := Lib.hid hW5
        have HBX := Lib.hid hbx
        have HB5 := Lib.hid hb5
        have HX5 := Lib.hid hx5
        clear hW5 hbx hb5 hx5
        have hki : (0 : Int) ≤ j := by omega
        have hkb : (j : Int) < m := by omega
        have hl := HL.out
        have hj1 : IntKind.i64.wrap ((j : Int) + 1) = (j : Int) + 1 := IntWalk.i64_in _ (by omega)
        have hi1 : IntKind.i64.wrap ((i : Int) + 1) = (i : Int) + 1 := IntWalk.i64_in _ (by omega)
        have hfx := (HF.out x W5 (List.mem_of_getElem? HXK.out) (HB.out.trans (HB5.out.mono (Nat.le_trans HBS.out HB.out.size))))
        obtain ⟨b, hb⟩ : ∃ b, q x = b := ⟨_, rfl⟩
        have HNB := Lib.hid hb
        rw [hb] at hfx
        have HFX := Lib.hid hfx
        clear hx hb hxx hfx
        go_upto_region 8 with fail
        rw [HW5.out, HBX.out]
        clear c1 c2
        have c1 := cell_of_row _ _ 0 _ _ _ HX5.out
        have c2 := cell_of_row _ _ 1 _ _ _ HX5.out
        simp only [List.getElem?_toArray, List.getElem?_cons_zero, List.getElem?_cons_succ] at c1 c2
        go_wp2_with fail
        refine HFX.out.mono ?_
        rintro e w6 ⟨rfl, hb6⟩
        have HB6 := Lib.hid (HB.out.trans ((HB5.out.trans (hb6.mono HB5.out.size)).mono (Nat.le_trans HBS.out HB.out.size)))
        have HG6 := Lib.hid (((HB5.out.trans (hb6.mono HB5.out.size)).block _ (lt_of_block HG.out)).trans HG.out)
        have HX6 := Lib.hid ((hb6.block _ (lt_of_block HX5.out)).trans HX5.out)
        clear hb6 c1 c2 HB HG HX5 HB5 HFX
        cases b with
        | false =>
          go_wp2
          go_roundw
          case rel => exact ⟨j + 1, i, xs, by first | rfl | go_num, rfl, HD.out.skip HXK.out HNB.out, HG6.out, HB6.out⟩
          case measure => simp [intOf]; omega
        | true =>
          have HR6 : RowP g tl xs w6 := HG6.out
          have hii : (0 : Int) ≤ i := by omega
          have hib : (i : Int) < m := by omega
          have HFIT : Hid (i * 2 + 2 ≤ (flatP xs ++ tl).toArray.size) := by
            show _ ≤ _
            rw [List.size_toArray, List.length_append, flatP_len, HD.out.len, HM.out]
            omega
          have hset : (w6.setCell ⟨g, i * 2, none⟩ (.int .i64 x.f)).setCell ⟨g, i * 2 + 1, none⟩ (.int .i64 x.t) = w6.setRow g (flatP (xs.set i x) ++ tl).toArray := by
            have h := setCells_rowP g _ [.int .i64 x.f, .int .i64 x.t] (i * 2) _ w6 HG6.out HFIT.out
            have e := splice_flatP xs tl i x (by rw [HD.out.len, HM.out]; omega)
            simp only [List.toList_toArray] at h
            rw [show splice (flatP xs ++ tl) (i * 2) [.int .i64 x.f, .int .i64 x.t] = flatP (xs.set i x) ++ tl from e] at h
            exact h
          have k1 : (w6.setCell ⟨g, i * 2, none⟩ (.int .i64 x.f)).heap[g]? = some (.cells ((flatP xs ++ tl).toArray.setIfInBounds (i * 2) (.int .i64 x.f)) 24 (0, 0)) := by
            rw [setCell_eq_setRow w6 g (i * 2) _ _ _ _ HG6.out]; exact setRow_heap _ _ _ _ _ _ HG6.out
          have hfit := HFIT.out
          obtain ⟨v0, z0⟩ : ∃ v, w6.cell? ⟨g, i * 2, none⟩ = some v := by rw [cell_of_row _ _ _ _ _ _ HG6.out, Array.getElem?_eq_getElem (by omega)]; exact ⟨_, rfl⟩
          obtain ⟨v1, z1⟩ : ∃ v, (w6.setCell ⟨g, i * 2, none⟩ (.int .i64 x.f)).cell? ⟨g, i * 2 + 1, none⟩ = some v := by rw [cell_of_row _ _ _ _ _ _ k1, Array.getElem?_eq_getElem (by rw [Array.size_setIfInBounds]; omega)]; exact ⟨_, rfl⟩
          have f0 : w6.frozen? ⟨g, i * 2, none⟩ = false := by simp [World.frozen?, HG6.out]
          have f1 : (w6.setCell ⟨g, i * 2, none⟩ (.int .i64 x.f)).frozen? ⟨g, i * 2 + 1, none⟩ = false := by simp [World.frozen?, k1]
          have HG7 : Hid (((w6.setCell ⟨g, i * 2, none⟩ (.int .i64 x.f)).setCell ⟨g, i * 2 + 1, none⟩ (.int .i64 x.t)).heap[g]? = some (.cells (flatP (xs.set i x) ++ tl).toArray 24 (0, 0))) := by
            show _ = _
            rw [hset]; exact HR6.set _
          have HB7 : Hid (Below B w ((w6.setCell ⟨g, i * 2, none⟩ (.int .i64 x.f)).setCell ⟨g, i * 2 + 1, none⟩ (.int .i64 x.t))) := by
            show Below _ _ _
            rw [hset]; exact blw_setRow HB6.out HGB.out _
          have y0 := cell_of_row _ _ 0 _ _ _ HX6.out
          have y1 := cell_of_row _ _ 1 _ _ _ HX6.out
          simp only [List.getElem?_toArray, List.getElem?_cons_zero, List.getElem?_cons_succ] at y0 y1
          clear HR6 hset k1 hfit HFIT
          go_wp2
          go_roundw
          case rel => exact ⟨j + 1, i + 1, xs.set i x, by first | rfl | go_num, by first | rfl | go_num, HD.out.keep HXK.out HNB.out, HG7.out, HB7.out⟩
          case measure => simp [intOf]; omega
      · obtain rfl : j = m := by omega
        have hDi := HD.out.pre
        have hDn := HD.out.num
        have eL : L.take j = L := List.take_of_length_le (by rw [HM.out]; exact Nat.le_refl _)
        rw [eL] at hDi hDn
        clear eL
        obtain ⟨zs, hz, hcl⟩ := run_clear2 (P := Try.prog) wr 22 24 (.agg #[.int .i64 0, .int .i64 0]) [.int .i64 0, .int .i64 0] Try.underlying22 zeroPair rfl rfl (by intro v hv; simp at hv; rw [hv]; rfl) g (i * 2) (j - i) (c - i) (by omega) _ _ HG.out (by
          have := HC.out.1
          rw [List.size_toArray, List.length_append, flatP_len, HD.out.len, HM.out]
          omega)
        have HIC := HC.out.1
        have hii : (0 : Int) ≤ i := by omega
        have hij : (i : Int) ≤ j := by omega
        have hic : (i : Int) ≤ c := by omega
        have t3 : ¬ c = i := by omega
        have t4 : ¬ c - i = 0 := by omega
        have hG9 := setRow_heap wr g _ (splice (flatP xs ++ tl).toArray.toList (i * 2) zs).toArray 24 (0, 0) HG.out
        have hB9 := blw_setRow HB.out HGB.out (splice (flatP xs ++ tl).toArray.toList (i * 2) zs).toArray
        have HFIN : Hid (((splice (flatP xs ++ tl).toArray.toList (i * 2) zs).toArray.toList.take (i * 2)) = flatP (L.filter q)) := by
          show _ = _
          rw [← hDi]
          unfold splice
          rw [List.take_left' (by
            rw [List.length_take]
            simp only [List.length_append, flatP_len, HD.out.len, HM.out]
            omega)]
          show List.take (i * 2) (flatP xs ++ tl) = _
          rw [List.take_append_of_le_length (by rw [flatP_len, HD.out.len, HM.out]; omega), flatP_take]
        obtain ⟨cu, hcu⟩ : ∃ cu, (splice (flatP xs ++ tl).toArray.toList (i * 2) zs).toArray = cu := ⟨_, rfl⟩
        rw [hcu] at hcl hG9 hB9 HFIN
        have HG9 := Lib.hid hG9
        have HB9 := Lib.hid hB9
        have HNUM := Lib.hid hDn
        clear hDi hDn hcu hG9 hB9 HG HB
        go_wp2
        go_ret
        refine ⟨some ⟨g, 0, none⟩, i, c, rfl, ⟨HNUM.out.symm, by omega, HC.out.2, .inr ⟨g, cu.toList.drop (i * 2), rfl, HGB.out, ?_⟩⟩, HB9.out⟩
        show _ = _
        rw [HG9.out, ← HFIN.out, List.take_append_drop]
end Go.Proofs.Ytnngldkpkhabeaa.Pai
