
/- Shots that came in; shots but those of an id. Condition: at most a thousand shots of a thousand cells each. -/

import Derived.Test.YtjdgpbjjhgfikaaCrH

import Derived.Test.YtjdgpbjjhgfikaaArgN

namespace Go.Proofs.Ytjdgpbjjhgfikaa.Crw

open Go.RowKit Go.PlainAid Go.Proofs.Ytjdgpbjjhgfikaa.Args Go.Proofs.Ytjdgpbjjhgfikaa.Cel Go.Proofs.Ytjdgpbjjhgfikaa.Pt Go.Proofs.Ytjdgpbjjhgfikaa.Mpv

set_option linter.unusedVariables false

set_option linter.unusedSimpArgs false

/-- A shot, and where its numbers lie. -/
structure SX where
  x : Sh
  V : Option Addr
  c : Nat
def SX.blk (s : SX) : List Value := [.int .i64 s.x.i, .int .i64 s.x.m, .int .i64 s.x.s, .int .i64 s.x.c, .slice s.V s.x.l.length s.c]
def SX.ok (s : SX) : Prop := (s.V = none → s.c = 0) ∧ s.x.l.length ≤ s.c
def XAt (w : World) (A : Option Addr) (l : List SX) : Prop :=
  ∀ i s, l[i]? = some s → ∃ y, A = some y ∧ w.cell? (y.add (i * 5)) = some (.int .i64 s.x.i) ∧ w.cell? ⟨(y.add (i * 5)).block, (y.add (i * 5)).off + 1, none⟩ = some (.int .i64 s.x.m) ∧ w.cell? ⟨(y.add (i * 5)).block, (y.add (i * 5)).off + 2, none⟩ = some (.int .i64 s.x.s) ∧ w.cell? ⟨(y.add (i * 5)).block, (y.add (i * 5)).off + 3, none⟩ = some (.int .i64 s.x.c) ∧ w.cell? ⟨(y.add (i * 5)).block, (y.add (i * 5)).off + 4, none⟩ = some (.slice s.V s.x.l.length s.c) ∧ NumsAt w s.V s.x.l
theorem XAt.kept {w w' : World} {A : Option Addr} {l : List SX} (h : XAt w A l) (b : Below w.heap.size w w') : XAt w' A l := by
  intro i x hx
  obtain ⟨y, e, h1, h2, h3, h4, h5, h6⟩ := h i x hx
  exact ⟨y, e, (b.cell (Go.block_lt_of_cell h1)).trans h1, (b.cell (Go.block_lt_of_cell h2)).trans h2, (b.cell (Go.block_lt_of_cell h3)).trans h3, (b.cell (Go.block_lt_of_cell h4)).trans h4, (b.cell (Go.block_lt_of_cell h5)).trans h5, h6.kept b⟩
theorem XAt.ss {w : World} {A : Option Addr} {l : List SX} (h : XAt w A l) : SsAt w A (l.map SX.x) := by
  intro i x hx
  rw [List.getElem?_map] at hx
  obtain ⟨s, hs, rfl⟩ := Option.map_eq_some_iff.1 hx
  obtain ⟨y, e, h1, h2, h3, h4, h5, h6⟩ := h i s hs
  exact ⟨y, s.V, s.c, e, h1, h2, h3, h4, h5, h6⟩
theorem nums_in {w : World} {a : Option Addr} {len cap : Nat} (h : IsNums .u32 w a len cap) : ∃ l : List Nat, l.length = len ∧ NumsAt w a l ∧ (a = none → cap = 0) ∧ len ≤ cap := by
  rcases h with ⟨rfl, rfl, rfl⟩ | ⟨y, rfl, hlc, hcm, hcell⟩
  · exact ⟨[], rfl, fun i x hx => by simp at hx, fun _ => rfl, Nat.le_refl _⟩
  · obtain ⟨l, hl, hp⟩ := list_of (fun i (v : Nat) => w.cell? (y.add i) = some (.int .u32 (v : Int))) len (by
      intro i hi
      obtain ⟨z, hz, hw⟩ := hcell i hi
      have hb := bounds_u32 hw
      obtain ⟨v, rfl⟩ := Int.eq_ofNat_of_zero_le hb.1
      exact ⟨v, hz⟩)
    exact ⟨l, hl, fun i x hx => ⟨y, rfl, hp i x hx⟩, (fun h => by cases h), hlc⟩
theorem shots_in {w : World} {a : Option Addr} {len cap : Nat} (h : IsNRows w a len cap [.one (.int .i64), .one (.int .i64), .one (.int .i64), .one (.int .i64), .nums .u32]) : ∃ l : List SX, l.length = len ∧ XAt w a l ∧ (∀ s ∈ l, s.ok) ∧ (a = none → cap = 0 ∧ len = 0) ∧ len ≤ cap ∧ cap ≤ maxLen := by
  rcases h with ⟨rfl, rfl, rfl⟩ | ⟨y, rfl, hlc, hcm, hcell⟩
  · exact ⟨[], rfl, fun i x hx => by simp at hx, by simp, fun _ => ⟨rfl, rfl⟩, Nat.le_refl _, Nat.zero_le _⟩
  · obtain ⟨l, hl, hp⟩ := list_of (fun i (s : SX) => (w.cell? (y.add (i * 5)) = some (.int .i64 s.x.i) ∧ w.cell? ⟨(y.add (i * 5)).block, (y.add (i * 5)).off + 1, none⟩ = some (.int .i64 s.x.m) ∧ w.cell? ⟨(y.add (i * 5)).block, (y.add (i * 5)).off + 2, none⟩ = some (.int .i64 s.x.s) ∧ w.cell? ⟨(y.add (i * 5)).block, (y.add (i * 5)).off + 3, none⟩ = some (.int .i64 s.x.c) ∧ w.cell? ⟨(y.add (i * 5)).block, (y.add (i * 5)).off + 4, none⟩ = some (.slice s.V s.x.l.length s.c) ∧ NumsAt w s.V s.x.l) ∧ s.ok) len (by
      intro i hi
      obtain ⟨_, c0, a0, rfl, _⟩ := hcell i hi 0 _ rfl
      obtain ⟨_, c1, a1, rfl, _⟩ := hcell i hi 1 _ rfl
      obtain ⟨_, c2, a2, rfl, _⟩ := hcell i hi 2 _ rfl
      obtain ⟨_, c3, a3, rfl, _⟩ := hcell i hi 3 _ rfl
      obtain ⟨_, c4, V, vl, vc, rfl, hr⟩ := hcell i hi 4 _ rfl
      obtain ⟨ns, hnl, hna, hnn, hnc⟩ := nums_in hr
      subst hnl
      exact ⟨⟨⟨a0, a1, a2, a3, ns⟩, V, vc⟩, ⟨c0, c1, c2, c3, c4, hna⟩, hnn, hnc⟩)
    refine ⟨l, hl, fun i s hs => ⟨y, rfl, (hp i s hs).1⟩, fun s hs => ?_, (fun h => by cases h), hlc, hcm⟩
    obtain ⟨i, hi, rfl⟩ := List.mem_iff_getElem.1 hs
    exact (hp i _ (List.getElem?_eq_getElem hi)).2
def flX (l : List SX) : List Value := (l.map SX.blk).flatten
theorem flX_len (l : List SX) : (flX l).length = l.length * 5 := by
  unfold flX
  rw [flat_len 5 _ (fun x hx => by obtain ⟨s, _, rfl⟩ := List.mem_map.1 hx; rfl), List.length_map]
theorem flX_get {l : List SX} {i : Nat} {s : SX} (h : l[i]? = some s) (j : Nat) (hj : j < 5) : (flX l)[i * 5 + j]? = s.blk[j]? :=
  flat_get 5 _ i s.blk (fun x hx => by obtain ⟨s, _, rfl⟩ := List.mem_map.1 hx; rfl) (by rw [List.getElem?_map, h]; rfl) j hj
theorem flX_snoc (l : List SX) (s : SX) : flX (l ++ [s]) = flX l ++ s.blk := by unfold flX; simp
theorem flX_app (l m : List SX) : flX (l ++ m) = flX l ++ flX m := by unfold flX; simp
theorem flX_one (l : List SX) : ∀ u ∈ flX l, u.oneCell' = true := by
  intro u hu
  unfold flX at hu
  obtain ⟨b, hb, hub⟩ := List.mem_flatten.1 hu
  obtain ⟨s, _, rfl⟩ := List.mem_map.1 hb
  simp only [SX.blk, List.mem_cons, List.not_mem_nil, or_false] at hub
  rcases hub with rfl | rfl | rfl | rfl | rfl <;> rfl
/-- Shots that lie at an address, cell by cell. -/
theorem XAt.flat {w : World} {y : Addr} {l : List SX} (h : XAt w (some y) l) : ∀ j u, (flX l)[j]? = some u → w.cell? (y.add j) = some u := by
  intro j u hj
  have hjl := (List.getElem?_eq_some_iff.1 hj).1
  rw [flX_len] at hjl
  obtain ⟨i, r, rfl, hr⟩ : ∃ i r, j = i * 5 + r ∧ r < 5 := ⟨j / 5, j % 5, by omega, by omega⟩
  obtain ⟨s, hs⟩ : ∃ s, l[i]? = some s := ⟨_, List.getElem?_eq_getElem (by omega)⟩
  rw [flX_get hs r hr] at hj
  obtain ⟨y', e, h1, h2, h3, h4, h5, h6⟩ := h i s hs
  obtain rfl := Option.some.inj e
  rcases (show r = 0 ∨ r = 1 ∨ r = 2 ∨ r = 3 ∨ r = 4 by omega) with rfl | rfl | rfl | rfl | rfl
  · simp [SX.blk] at hj; subst hj; exact h1
  · simp [SX.blk] at hj; subst hj; rw [Srt.add_two y (i * 5) 0]; exact h2
  · simp [SX.blk] at hj; subst hj; rw [Srt.add_two y (i * 5) 1]; exact h3
  · simp [SX.blk] at hj; subst hj; rw [Srt.add_two y (i * 5) 2]; exact h4
  · simp [SX.blk] at hj; subst hj; rw [Srt.add_two y (i * 5) 3]; exact h5
/-- A row of the call's own, as shots. -/
theorem xat_own {w : World} {B n c : Nat} {A : Option Addr} {l : List SX} (h : w.ownsRow B 79 5 (.slice A n c) n (flX l)) (hl : l.length = n) (hn : ∀ s ∈ l, NumsAt w s.V s.x.l) : XAt w A l := by
  intro i s hs
  have hi := (List.getElem?_eq_some_iff.1 hs).1
  rcases h.2 with ⟨h0, h1⟩ | ⟨g, c', cur, h0, hg1, hg2, hg3, hg4, hg5⟩
  · omega
  · injection h0 with h2 h3 h4
    subst h2 h4
    have e : ∀ r, r < 5 → w.cell? ⟨g, i * 5 + r, none⟩ = s.blk[r]? := fun r hr => (h.cellAt (i * 5 + r) (by omega)).trans (flX_get hs r hr)
    refine ⟨_, rfl, ?_, ?_, ?_, ?_, ?_, hn s (List.mem_of_getElem? hs)⟩
    all_goals (rw [add_blk])
    · exact (e 0 (by omega)).trans rfl
    · exact (e 1 (by omega)).trans rfl
    · exact (e 2 (by omega)).trans rfl
    · exact (e 3 (by omega)).trans rfl
    · exact (e 4 (by omega)).trans rfl
/-- The document's: two rows of numbers of whatever lengths. -/
theorem rsameG_any (A D : Option Addr) (c d n k : Nat) (l m : List Nat) (w : World) (h1 : NumsAt w A l) (h2 : NumsAt w D m) (hl1 : l.length = n) (hl2 : m.length = k) (hl : n ≤ 1000) :
    Calls Try.prog 28 #[.slice A n c, .slice D k d] w fun e w' => e = .returned (.bool (decide (l = m))) ∧ ∃ q, w' = w.drewN q := by
  by_cases hk : n = k
  · subst hk
    exact rsame_any A D c d n l m w h1 h2 hl1 hl2 hl
  · have hb : decide (l = m) = false := decide_eq_false (fun e => hk (by rw [← hl1, ← hl2, e]))
    rw [hb]
    have t0 : ((n : Int) != (k : Int)) = true := by simp; omega
    have t1 : (n != k) = true := by simp; omega
    have t2 : ((n : Int) == (k : Int)) = false := by simp; omega
    have t3 : (n == k) = false := by simp; omega
    clear h1 h2 hl1 hl2 hl hb hk
    go_enter Try.func28, Try.ntmps28
    go_wp2
    go_ret
    exact ⟨rfl, 0, rfl⟩
end Go.Proofs.Ytjdgpbjjhgfikaa.Crw
