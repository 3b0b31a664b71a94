/- Worlds of which just a block and a row have changed; rows of the call's own. It says nothing of the program. No condition. stub A module that came in, as the latch asks it: its partitions, schedules and pairs; whether it is long; ids; what is among them. Condition: at most a million of each where it is said. -/
import Derived.Test.YtmcmmbkodllpkaaGreatDoorProg
import Derived.WalkKit
import Derived.PlainAid
import Derived.Lib.Hide
import Derived.Deep.CutRange
import Derived.BigQuiet
import Derived.BigRegion
import Derived.Deep.RegionHeld3
import Derived.OwnWalk
import Derived.IntWalk
import Derived.Laws.AppendOwn
import Derived.Laws.OwnMore
import Derived.Lib.SliceRun
import Derived.Deep.CutBlock
import Derived.Test.YtmcmmbkodllpkaaGreatDoorMg28
import Derived.Test.YtmcmmbkodllpkaaGreatDoorMg01
import Derived.Laws.AppendOwnNone
namespace Go.Proofs.YtmcmmbkodllpkaaGreatDoor.Cel

open Go.RowKit Go.PlainAid

set_option linter.unusedVariables false

theorem own_slice {w : World} {B e s n : Nat} {v : Value} {xs : List Value} (h : w.ownsRow B e s v n xs) : ∃ A c, v = .slice A n c := by
  rcases h.2 with ⟨rfl, rfl⟩ | ⟨g, cap, cur, rfl, _⟩
  · exact ⟨none, 0, rfl⟩
  · exact ⟨_, _, rfl⟩
theorem own_keep {w w' : World} {B e s n : Nat} {v : Value} {xs : List Value} (h : w.ownsRow B e s v n xs) (b : Below w.heap.size w w') : w'.ownsRow B e s v n xs := by
  refine ⟨h.1, ?_⟩
  rcases h.2 with h | ⟨g, cap, cur, h1, h2, h3, h4⟩
  · exact .inl h
  · exact .inr ⟨g, cap, cur, h1, h2, (b.block g (lt_of_block h3)).trans h3, h4⟩
/-- Just block g and the row A have changed. -/
structure Two (g : Nat) (A : Option Addr) (w w' : World) : Prop where
  os : w'.os = w.os
  tape : w'.tape = w.tape
  output : w'.output = w.output
  size : w.heap.size ≤ w'.heap.size
  block : ∀ k, k < w.heap.size → k ≠ g → (∀ a, A = some a → a.block ≠ k) → w'.heap[k]? = w.heap[k]?
theorem Two.refl (g : Nat) (A : Option Addr) (w : World) : Two g A w w := ⟨rfl, rfl, rfl, Nat.le_refl _, fun _ _ _ _ => rfl⟩
theorem Two.trans {g : Nat} {A : Option Addr} {a b c : World} (h : Two g A a b) (k : Two g A b c) : Two g A a c :=
  ⟨k.os.trans h.os, k.tape.trans h.tape, k.output.trans h.output, Nat.le_trans h.size k.size, fun i hi h1 h2 => (k.block i (Nat.lt_of_lt_of_le hi h.size) h1 h2).trans (h.block i hi h1 h2)⟩
theorem two_below {g : Nat} {A : Option Addr} {w w' : World} (b : Below w.heap.size w w') : Two g A w w' := ⟨b.os, b.tape, b.output, b.size, fun k hk _ _ => b.block k hk⟩
theorem two_cell {g : Nat} {A : Option Addr} (w : World) (a : Addr) (v : Value) (h : a.block = g ∨ ∃ b, A = some b ∧ b.block = a.block) : Two g A w (w.setCell a v) :=
  ⟨rfl, rfl, rfl, by simp, fun k _ h1 h2 => heap_setCell_other w a k v (by
    rcases h with h | ⟨b, hb, h⟩
    · rw [h]; exact h1
    · intro e; exact h2 b hb (by rw [h]; exact e.symm))⟩
theorem Two.below {g : Nat} {A : Option Addr} {w0 w w' : World} {B : Nat} (h : Below B w0 w) (k : Two g A w w') (hB : B ≤ w.heap.size) (hg : B ≤ g) (hA : ∀ a, A = some a → B ≤ a.block) : Below B w0 w' :=
  ⟨k.os.trans h.os, k.tape.trans h.tape, k.output.trans h.output, Nat.le_trans h.size k.size, fun i hi => (k.block i (by omega) (by omega) (fun a ha => by have := hA a ha; omega)).trans (h.block i hi)⟩
theorem own_at {w : World} {B e s n c : Nat} {A : Option Addr} {xs : List Value} (h : w.ownsRow B e s (.slice A n c) n xs) : ∀ a, A = some a → a = ⟨a.block, 0, none⟩ ∧ B ≤ a.block ∧ a.block < w.heap.size := by
  intro a ha
  subst ha
  obtain ⟨h1, h2⟩ := h.lt a.block rfl
  rcases h.2 with ⟨h0, _⟩ | ⟨g, c', cur, h0, _⟩
  · injection h0 with h3; cases h3
  · injection h0 with h3
    obtain rfl := Option.some.inj h3
    exact ⟨rfl, h1, h2⟩
theorem own_base {w : World} {B B' e s n : Nat} {v : Value} {xs : List Value} (h : w.ownsRow B e s v n xs) (hB : B' ≤ B) : w.ownsRow B' e s v n xs := by
  refine ⟨h.1, ?_⟩
  rcases h.2 with h | ⟨g, cap, cur, h1, h2, h3⟩
  · exact .inl h
  · exact .inr ⟨g, cap, cur, h1, by omega, h3⟩
theorem own_apart {w w' : World} {g : Nat} {R : Option Addr} {B e s n c : Nat} {A : Option Addr} {xs : List Value} (h : w.ownsRow B e s (.slice A n c) n xs) (t : Two g R w w') (h1 : ∀ a, A = some a → a.block ≠ g) (h2 : ∀ a b, A = some a → R = some b → b.block ≠ a.block) : w'.ownsRow B e s (.slice A n c) n xs := by
  refine ⟨h.1, ?_⟩
  rcases h.2 with h | ⟨r, cap, cur, h3, h4, h5, h6⟩
  · exact .inl h
  · injection h3 with h7 h8 h9
    subst h7
    refine .inr ⟨r, cap, cur, by rw [h9], h4, (t.block r (lt_of_block h5) (h1 _ rfl) (fun b hb => h2 _ b rfl hb)).trans h5, h6⟩
end Go.Proofs.YtmcmmbkodllpkaaGreatDoor.Cel

namespace Go.Proofs.YtmcmmbkodllpkaaGreatDoor.Lat

open Go.RowKit Go.PlainAid Go.Proofs.YtmcmmbkodllpkaaGreatDoor.Args Go.Proofs.YtmcmmbkodllpkaaGreatDoor.Cel Go.Proofs.YtmcmmbkodllpkaaGreatDoor.Mpv

set_option linter.unusedVariables false

set_option linter.unusedSimpArgs false

theorem below_drewN {B : Nat} {a w : World} (h : Below B a w) (n : Nat) : Below B a (w.drewN n) := ⟨h.os, h.tape, h.output, h.size, h.block⟩
theorem list_of {α : Type} (P : Nat → α → Prop) : ∀ n, (∀ i, i < n → ∃ x, P i x) → ∃ l : List α, l.length = n ∧ ∀ i x, l[i]? = some x → P i x
  | 0, _ => ⟨[], rfl, fun i x h => by simp at h⟩
  | n + 1, h => by
    obtain ⟨l, hl, hp⟩ := list_of P n fun i hi => h i (by omega)
    obtain ⟨x, hx⟩ := h n (by omega)
    refine ⟨l ++ [x], by simp [hl], fun i y hy => ?_⟩
    by_cases hi : i < n
    · rw [List.getElem?_append_left (by omega)] at hy
      exact hp i y hy
    · rw [List.getElem?_append_right (by omega)] at hy
      have : i = n := by
        have := (List.getElem?_eq_some_iff.1 hy).1
        simp at this; omega
      subst this
      rw [hl] at hy
      simp at hy
      rw [← hy]; exact hx
structure LP where
  id : Int
  nm : ByteArray
  may : Bool
  B : Option Addr
  bn : Nat
  bc : Nat
structure LS where
  id : Int
  fr : Int
  W : Option Addr
  wn : Nat
  wc : Nat
  N : Option Addr
  nn : Nat
  nc : Nat
structure P2 where
  f : Int
  t : Int
def LPAt (w : World) (A : Option Addr) (l : List LP) : Prop :=
  ∀ i x, l[i]? = some x → ∃ y, A = some y ∧ w.cell? (y.add (i * 4)) = some (.int .i64 x.id) ∧ w.cell? ⟨(y.add (i * 4)).block, (y.add (i * 4)).off + 1, none⟩ = some (.string x.nm) ∧ w.cell? ⟨(y.add (i * 4)).block, (y.add (i * 4)).off + 2, none⟩ = some (.bool x.may) ∧ w.cell? ⟨(y.add (i * 4)).block, (y.add (i * 4)).off + 3, none⟩ = some (.slice x.B x.bn x.bc)
theorem LPAt.kept {w w' : World} {A : Option Addr} {l : List LP} (h : LPAt w A l) (b : Below w.heap.size w w') : LPAt w' A l := by
  intro i x hx
  obtain ⟨y, e, h1, h2, h3, h4⟩ := h i x hx
  exact ⟨y, e, (b.cell (Go.block_lt_of_cell h1)).trans h1, (b.cell (Go.block_lt_of_cell h2)).trans h2, (b.cell (Go.block_lt_of_cell h3)).trans h3, (b.cell (Go.block_lt_of_cell h4)).trans h4⟩
def LSAt (w : World) (A : Option Addr) (l : List LS) : Prop :=
  ∀ i x, l[i]? = some x → ∃ y, A = some y ∧ w.cell? (y.add (i * 4)) = some (.int .i64 x.id) ∧ w.cell? ⟨(y.add (i * 4)).block, (y.add (i * 4)).off + 1, none⟩ = some (.int .i64 x.fr) ∧ w.cell? ⟨(y.add (i * 4)).block, (y.add (i * 4)).off + 2, none⟩ = some (.slice x.W x.wn x.wc) ∧ w.cell? ⟨(y.add (i * 4)).block, (y.add (i * 4)).off + 3, none⟩ = some (.slice x.N x.nn x.nc)
theorem LSAt.kept {w w' : World} {A : Option Addr} {l : List LS} (h : LSAt w A l) (b : Below w.heap.size w w') : LSAt w' A l := by
  intro i x hx
  obtain ⟨y, e, h1, h2, h3, h4⟩ := h i x hx
  exact ⟨y, e, (b.cell (Go.block_lt_of_cell h1)).trans h1, (b.cell (Go.block_lt_of_cell h2)).trans h2, (b.cell (Go.block_lt_of_cell h3)).trans h3, (b.cell (Go.block_lt_of_cell h4)).trans h4⟩
def LQAt (w : World) (A : Option Addr) (l : List P2) : Prop :=
  ∀ i x, l[i]? = some x → ∃ y, A = some y ∧ w.cell? (y.add (i * 2)) = some (.int .i64 x.f) ∧ w.cell? ⟨(y.add (i * 2)).block, (y.add (i * 2)).off + 1, none⟩ = some (.int .i64 x.t)
theorem LQAt.kept {w w' : World} {A : Option Addr} {l : List P2} (h : LQAt w A l) (b : Below w.heap.size w w') : LQAt w' A l := by
  intro i x hx
  obtain ⟨y, e, h1, h2⟩ := h i x hx
  exact ⟨y, e, (b.cell (Go.block_lt_of_cell h1)).trans h1, (b.cell (Go.block_lt_of_cell h2)).trans h2⟩
/-- A module's lists in memory. -/
structure MAt (w : World) (PA SA QA : Option Addr) (np ns nq : Nat) (ps : List LP) (ss : List LS) (qs : List P2) : Prop where
  p : LPAt w PA ps
  s : LSAt w SA ss
  q : LQAt w QA qs
  pl : ps.length = np
  sl : ss.length = ns
  ql : qs.length = nq
  pi : ∀ x ∈ ps, I64 x.id
  si : ∀ x ∈ ss, I64 x.id
  qi : ∀ x ∈ qs, I64 x.f ∧ I64 x.t
  pm : np ≤ maxLen
  sm : ns ≤ maxLen
  qm : nq ≤ maxLen
theorem MAt.kept {w w' : World} {PA SA QA : Option Addr} {np ns nq : Nat} {ps : List LP} {ss : List LS} {qs : List P2} (h : MAt w PA SA QA np ns nq ps ss qs) (b : Below w.heap.size w w') : MAt w' PA SA QA np ns nq ps ss qs :=
  ⟨h.p.kept b, h.s.kept b, h.q.kept b, h.pl, h.sl, h.ql, h.pi, h.si, h.qi, h.pm, h.sm, h.qm⟩
theorem ps_in {w : World} {a : Option Addr} {len cap : Nat} (h : IsRows w a len cap [.one (.int .i64), .one .string, .one .bool, .recs [.int .u32, .bool]]) : ∃ l : List LP, l.length = len ∧ LPAt w a l ∧ (∀ x ∈ l, I64 x.id) ∧ len ≤ maxLen := by
  rcases h with ⟨rfl, rfl, rfl⟩ | ⟨y, rfl, hlc, hcm, hcell⟩
  · exact ⟨[], rfl, fun i x hx => by simp at hx, by simp, Nat.zero_le _⟩
  · obtain ⟨l, hl, hp⟩ := list_of (fun i (x : LP) => (w.cell? (y.add (i * 4)) = some (.int .i64 x.id) ∧ w.cell? ⟨(y.add (i * 4)).block, (y.add (i * 4)).off + 1, none⟩ = some (.string x.nm) ∧ w.cell? ⟨(y.add (i * 4)).block, (y.add (i * 4)).off + 2, none⟩ = some (.bool x.may) ∧ w.cell? ⟨(y.add (i * 4)).block, (y.add (i * 4)).off + 3, none⟩ = some (.slice x.B x.bn x.bc)) ∧ I64 x.id) len (by
      intro i hi
      obtain ⟨_, c0, id, rfl, hid⟩ := hcell i hi 0 _ rfl
      obtain ⟨_, c1, nm, rfl, hnm⟩ := hcell i hi 1 _ rfl
      obtain ⟨_, c2, may, rfl⟩ := hcell i hi 2 _ rfl
      obtain ⟨_, c3, B, bl, bc, rfl, hr⟩ := hcell i hi 3 _ rfl
      exact ⟨⟨id, nm, may, B, bl, bc⟩, ⟨c0, c1, c2, c3⟩, bounds_i64 hid⟩)
    refine ⟨l, hl, fun i x hx => ⟨y, rfl, (hp i x hx).1⟩, fun x hx => ?_, by omega⟩
    obtain ⟨i, hi, rfl⟩ := List.mem_iff_getElem.1 hx
    exact (hp i _ (List.getElem?_eq_getElem hi)).2
theorem ss_in {w : World} {a : Option Addr} {len cap : Nat} (h : IsRows w a len cap [.one (.int .i64), .one (.int .i64), .recs [.int .i64, .int .i64, .int .i64], .recs [.int .i64, .int .i64, .int .i64]]) : ∃ l : List LS, l.length = len ∧ LSAt w a l ∧ (∀ x ∈ l, I64 x.id) ∧ len ≤ maxLen := by
  rcases h with ⟨rfl, rfl, rfl⟩ | ⟨y, rfl, hlc, hcm, hcell⟩
  · exact ⟨[], rfl, fun i x hx => by simp at hx, by simp, Nat.zero_le _⟩
  · obtain ⟨l, hl, hp⟩ := list_of (fun i (x : LS) => (w.cell? (y.add (i * 4)) = some (.int .i64 x.id) ∧ w.cell? ⟨(y.add (i * 4)).block, (y.add (i * 4)).off + 1, none⟩ = some (.int .i64 x.fr) ∧ w.cell? ⟨(y.add (i * 4)).block, (y.add (i * 4)).off + 2, none⟩ = some (.slice x.W x.wn x.wc) ∧ w.cell? ⟨(y.add (i * 4)).block, (y.add (i * 4)).off + 3, none⟩ = some (.slice x.N x.nn x.nc)) ∧ I64 x.id) len (by
      intro i hi
      obtain ⟨_, c0, id, rfl, hid⟩ := hcell i hi 0 _ rfl
      obtain ⟨_, c1, fr, rfl, hfr⟩ := hcell i hi 1 _ rfl
      obtain ⟨_, c2, W, wl, wc, rfl, hw⟩ := hcell i hi 2 _ rfl
      obtain ⟨_, c3, N, nl, nc, rfl, hn⟩ := hcell i hi 3 _ rfl
      exact ⟨⟨id, fr, W, wl, wc, N, nl, nc⟩, ⟨c0, c1, c2, c3⟩, bounds_i64 hid⟩)
    refine ⟨l, hl, fun i x hx => ⟨y, rfl, (hp i x hx).1⟩, fun x hx => ?_, by omega⟩
    obtain ⟨i, hi, rfl⟩ := List.mem_iff_getElem.1 hx
    exact (hp i _ (List.getElem?_eq_getElem hi)).2
theorem qs_in {w : World} {a : Option Addr} {len cap : Nat} (h : IsRecs w a len cap [.int .i64, .int .i64]) : ∃ l : List P2, l.length = len ∧ LQAt w a l ∧ (∀ x ∈ l, I64 x.f ∧ I64 x.t) ∧ len ≤ maxLen := by
  rcases h with ⟨rfl, rfl, rfl⟩ | ⟨y, rfl, hlc, hcm, hcell⟩
  · exact ⟨[], rfl, fun i x hx => by simp at hx, by simp, Nat.zero_le _⟩
  · obtain ⟨l, hl, hp⟩ := list_of (fun i (x : P2) => (w.cell? (y.add (i * 2)) = some (.int .i64 x.f) ∧ w.cell? ⟨(y.add (i * 2)).block, (y.add (i * 2)).off + 1, none⟩ = some (.int .i64 x.t)) ∧ I64 x.f ∧ I64 x.t) len (by
      intro i hi
      obtain ⟨_, c0, f, rfl, hf⟩ := hcell i hi 0 _ rfl
      obtain ⟨_, c1, t, rfl, ht⟩ := hcell i hi 1 _ rfl
      exact ⟨⟨f, t⟩, ⟨c0, c1⟩, bounds_i64 hf, bounds_i64 ht⟩)
    refine ⟨l, hl, fun i x hx => ⟨y, rfl, (hp i x hx).1⟩, fun x hx => ?_, by omega⟩
    obtain ⟨i, hi, rfl⟩ := List.mem_iff_getElem.1 hx
    exact (hp i _ (List.getElem?_eq_getElem hi)).2
/-- A module that came in. -/
theorem mod_in {w : World} {aj : Array Value} (h : IsMod w modK aj) : ∃ (e f : Int) (PA SA QA AA : Option Addr) (np pc ns sc nq qc na acp : Nat) (ps : List LP) (ss : List LS) (qs : List P2),
    aj = #[.int .u64 e, .int .i64 f, .slice PA np pc, .slice SA ns sc, .slice QA nq qc, .slice AA na acp] ∧ MAt w PA SA QA np ns nq ps ss qs ∧ na ≤ maxLen ∧ I64 f := by
  obtain ⟨hsz, hk⟩ := h
  obtain ⟨v0, h0, e, he, hew⟩ := hk 0 _ rfl
  obtain ⟨v1, h1, f, hf, hfw⟩ := hk 1 _ rfl
  obtain ⟨v2, h2, PA, np, pc, hp, hpr⟩ := hk 2 _ rfl
  obtain ⟨v3, h3, SA, ns, sc, hs, hsr⟩ := hk 3 _ rfl
  obtain ⟨v4, h4, QA, nq, qc, hq, hqr⟩ := hk 4 _ rfl
  obtain ⟨v5, h5, AA, na, acp, ha, har⟩ := hk 5 _ rfl
  subst he hf hp hs hq ha
  obtain ⟨ps, hpl, hpa, hpi, hpm⟩ := ps_in hpr
  obtain ⟨ss, hsl, hsa, hsi, hsm⟩ := ss_in hsr
  obtain ⟨qs, hql, hqa, hqi, hqm⟩ := qs_in hqr
  refine ⟨e, f, PA, SA, QA, AA, np, pc, ns, sc, nq, qc, na, acp, ps, ss, qs, ?_, ⟨hpa, hsa, hqa, hpl, hsl, hql, hpi, hsi, hqi, hpm, hsm, hqm⟩, ?_, bounds_i64 hfw⟩
  · apply Array.ext_getElem?
    intro i
    match i with
    | 0 => exact h0
    | 1 => exact h1
    | 2 => exact h2
    | 3 => exact h3
    | 4 => exact h4
    | 5 => exact h5
    | n + 6 =>
      have hm : aj.size = 6 := hsz
      rw [Array.getElem?_eq_none (by omega), Array.getElem?_eq_none (by simp)]
  · rcases har with ⟨_, rfl, _⟩ | ⟨y, _, hlc, hcm, _⟩
    · exact Nat.zero_le _
    · omega
/-! ### Among numbers -/

def inB (zs : List Int) (v : Int) : Bool := zs.any fun z => z == v
theorem inB_take {zs : List Int} {k : Nat} {v x : Int} (hx : zs[k]? = some x) (h : inB (zs.take k) v = false) : inB (zs.take (k + 1)) v = (x == v) := by
  unfold inB at h ⊢
  rw [List.take_add_one, hx, List.any_append, h]
  simp
theorem inB_of {zs : List Int} {k : Nat} {v : Int} (h : inB (zs.take k) v = true) : inB zs v = true := by
  unfold inB at *
  rw [List.any_eq_true] at h ⊢
  obtain ⟨x, hx, he⟩ := h
  exact ⟨x, List.mem_of_mem_take hx, he⟩
def ZAt (w : World) (A : Option Addr) (l : List Int) : Prop := ∀ i x, l[i]? = some x → ∃ y, A = some y ∧ w.cell? (y.add i) = some (.int .i64 x)
theorem ZAt.kept {w w' : World} {A : Option Addr} {l : List Int} (h : ZAt w A l) (b : Below w.heap.size w w') : ZAt w' A l := by
  intro i x hx
  obtain ⟨y, e, h1⟩ := h i x hx
  exact ⟨y, e, (b.cell (Go.block_lt_of_cell h1)).trans h1⟩
theorem zat_own {w : World} {B n c : Nat} {A : Option Addr} {l : List Int} (h : w.ownsRow B 3 1 (.slice A n c) n (l.map (Value.int .i64))) : ZAt w A l := by
  intro i x hx
  have hl : l.length = n := by have := h.1; rw [List.length_map] at this; omega
  have hi := (List.getElem?_eq_some_iff.1 hx).1
  rcases h.2 with ⟨e, h0⟩ | ⟨g, cap, cur, e, _⟩
  · omega
  · have h1 := h
    rw [e] at h1
    injection e with e1 _ _
    refine ⟨⟨g, 0, none⟩, e1, ?_⟩
    have := h1.cellAt i (by omega)
    rw [List.getElem?_map, hx] at this
    have e2 : (⟨g, 0, none⟩ : Addr).add i = ⟨g, i, none⟩ := by cases i <;> simp [Addr.add]
    rw [e2]
    exact this
def InRel (zs : List Int) (v : Int) (w : World) (i : Value) (wr : World) : Prop :=
  ∃ k : Nat, k ≤ zs.length ∧ i = .int .i64 (k : Int) ∧ inB (zs.take k) v = false ∧ Below w.heap.size w wr
set_option maxRecDepth 4000 in
set_option maxHeartbeats 1600000 in
theorem rin15_any (A : Option Addr) (cap n : Nat) (zs : List Int) (v : Int) (w : World) (h : ZAt w A zs) (hln : zs.length = n) (hl : n ≤ 1000000) :
    Calls Tryz.prog 23 #[.slice A n cap, .int .i64 v] w fun e w' => e = .returned (.bool (inB zs v)) ∧ Below w.heap.size w w' := by
  have HA := Lib.hid hln
  have H := Lib.hid h
  obtain ⟨r, hr⟩ : ∃ r, inB zs v = r := ⟨_, rfl⟩
  have HR := Lib.hid hr
  rw [hr]
  clear h hln hr
  go_enter Tryz.func23, Tryz.ntmps23
  go_wp2_with fail
  go_loopw [5] (fun i wr => InRel zs v w i wr) (fun i _ => n - (intOf i).toNat)
  case atStart => exact ⟨0, Nat.zero_le _, rfl, rfl, Below.refl _ _⟩
  case round =>
    obtain ⟨k, hk, rfl, hno, hb⟩ := hrel
    have HNO := Lib.hid hno
    have HB := Lib.hid hb
    have hka : k ≤ n := by rw [← HA.out]; exact hk
    clear hk hno hb
    by_cases hlt : k < n
    · obtain ⟨x, hx⟩ : ∃ x, zs[k]? = some x := ⟨_, List.getElem?_eq_getElem (by rw [HA.out]; exact hlt)⟩
      obtain ⟨ax, rfl, c1⟩ := (H.out.kept HB.out) k x hx
      have HSN := Lib.hid (inB_take hx HNO.out)
      have hki : (0 : Int) ≤ k := by omega
      have hkb : (k : Int) < n := by omega
      have hk1 : IntKind.i64.wrap ((k : Int) + 1) = (k : Int) + 1 := IntWalk.i64_in _ (by omega)
      obtain ⟨q, hq⟩ : ∃ q, (x == v) = q := ⟨_, rfl⟩
      rw [hq] at HSN
      clear hx
      cases q with
      | true =>
        have HT : Hid (r = true) := by show _ = _; rw [← HR.out]; exact inB_of HSN.out
        go_wp2
        go_ret
        exact ⟨by rw [HT.out]; rfl, HB.out⟩
      | false =>
        go_wp2
        go_roundw
        case rel => exact ⟨k + 1, by rw [HA.out]; omega, by go_num, HSN.out, HB.out⟩
        case measure => simp [intOf]; omega
    · obtain rfl : n = k := by omega
      have HT : Hid (r = false) := by
        show _ = _
        have h := HNO.out
        rw [List.take_of_length_le (by rw [HA.out]; exact Nat.le_refl _)] at h
        rw [← HR.out]; exact h
      clear hlt
      go_wp2
      go_ret
      exact ⟨by rw [HT.out]; rfl, HB.out⟩
/-! ### Among pairs -/

def eqP2 (a b : P2) : Bool := a.f == b.f && a.t == b.t
def hasB (l : List P2) (p : P2) : Bool := l.any fun x => eqP2 x p
theorem has_snoc (l : List P2) (k : Nat) (x p : P2) (hx : l[k]? = some x) (h : hasB (l.take k) p = false) : hasB (l.take (k + 1)) p = eqP2 x p := by
  unfold hasB at h ⊢
  rw [List.take_add_one, hx, List.any_append, h]
  simp
theorem has_take (l : List P2) (k : Nat) (p : P2) (h : hasB (l.take k) p = true) : hasB l p = true := by
  unfold hasB at *
  rw [List.any_eq_true] at h ⊢
  obtain ⟨x, hx, he⟩ := h
  exact ⟨x, List.mem_of_mem_take hx, he⟩
theorem eq_pair (a b c d : Int) (w : World) : (Op.equalIn 10000 86 (.agg #[.int .i64 a, .int .i64 b]) (.agg #[.int .i64 c, .int .i64 d])).run Tryz.prog w = .ok ((a == c) && (b == d)) w := by
  have hS : Tryz.prog.underlying 86 = some (.struct (Tryz.prog.fieldsOf 86)) := by kernel_rfl
  rw [show (10000 : Nat) = 9999 + 1 from rfl, run_equalIn_agg w 9999 86 _ _ hS (by kernel_rfl)]
  simp only [Program.fieldsOf, Tryz.underlying86]
  cases h1 : (a == c) <;> cases h2 : (b == d) <;> simp [go_sem, h1, h2]
def HRel (p : P2) (l : List P2) (b : Nat) (w : World) (i : Value) (wr : World) : Prop :=
  ∃ k : Nat, k ≤ l.length ∧ i = .int .i64 (k : Int) ∧ hasB (l.take k) p = false ∧ wr.heap[b]? = some (.cells #[.int .i64 p.f, .int .i64 p.t] 86 (0, 0)) ∧ Below w.heap.size w wr
end Go.Proofs.YtmcmmbkodllpkaaGreatDoor.Lat
