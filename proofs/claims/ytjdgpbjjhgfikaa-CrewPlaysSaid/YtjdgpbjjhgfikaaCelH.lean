
/- Cells of a partition: two of them, side by side. Condition: at most a thousand cells. -/

import Derived.Test.YtjdgpbjjhgfikaaCelG

namespace Go.Proofs.Ytjdgpbjjhgfikaa.Cel

open Go.RowKit Go.PlainAid Go.Proofs.Ytjdgpbjjhgfikaa.Args

set_option linter.unusedVariables false

set_option linter.unusedSimpArgs false

/-- A call of the law's. -/
structure O3 where
  k : Int
  i : Int
  v : Nat
def OpsAt (w : World) (A : Option Addr) (l : List O3) : Prop :=
  ∀ i x, l[i]? = some x → ∃ y, A = some y ∧ w.cell? (y.add (i * 3)) = some (.int .i64 x.k) ∧ w.cell? ⟨(y.add (i * 3)).block, (y.add (i * 3)).off + 1, none⟩ = some (.int .i64 x.i) ∧ w.cell? ⟨(y.add (i * 3)).block, (y.add (i * 3)).off + 2, none⟩ = some (.int .u32 (x.v : Int))
theorem OpsAt.kept {w w' : World} {A : Option Addr} {l : List O3} (h : OpsAt w A l) (b : Below w.heap.size w w') : OpsAt w' A l := by
  intro i x hx
  obtain ⟨y, e, h1, h2, h3⟩ := h i x hx
  exact ⟨y, e, (b.cell (Go.block_lt_of_cell h1)).trans h1, (b.cell (Go.block_lt_of_cell h2)).trans h2, (b.cell (Go.block_lt_of_cell h3)).trans h3⟩
theorem ops_of {w : World} {a : Option Addr} {len cap : Nat} (h : IsRecs w a len cap [.int .i64, .int .i64, .int .u32]) : ∃ l : List O3, l.length = len ∧ OpsAt w a l := by
  rcases h with ⟨rfl, rfl, rfl⟩ | ⟨y, rfl, hlc, hcm, hcell⟩
  · exact ⟨[], rfl, fun i x hx => by simp at hx⟩
  · obtain ⟨l, hl, hp⟩ := list_of (fun i (x : O3) => w.cell? (y.add (i * 3)) = some (.int .i64 x.k) ∧ w.cell? ⟨(y.add (i * 3)).block, (y.add (i * 3)).off + 1, none⟩ = some (.int .i64 x.i) ∧ w.cell? ⟨(y.add (i * 3)).block, (y.add (i * 3)).off + 2, none⟩ = some (.int .u32 (x.v : Int))) len (by
      intro i hi
      obtain ⟨_, c0, s, rfl, hs⟩ := hcell i hi 0 _ rfl
      obtain ⟨_, c1, b, rfl, hb⟩ := hcell i hi 1 _ rfl
      obtain ⟨_, c2, u, rfl, hu⟩ := hcell i hi 2 _ rfl
      have hb := bounds_u32 hu
      obtain ⟨v, rfl⟩ := Int.eq_ofNat_of_zero_le hb.1
      exact ⟨⟨s, b, v⟩, c0, c1, c2⟩)
    exact ⟨l, hl, fun i x hx => ⟨y, rfl, hp i x hx⟩⟩
/-- Is there such a cell? -/
def inB (n : Nat) (i : Int) : Bool := decide (0 ≤ i ∧ i < (n : Int))
def setN (n : Nat) (i : Int) (v : Nat) (ns : List Nat) : List Nat := if inB n i then ns.set i.toNat v else ns
def setW (n : Nat) (i : Int) (wn : Int) : Int := if inB n i then wn + 1 else wn
theorem setW_in (n : Nat) (i wn : Int) : wn ≤ setW n i wn ∧ setW n i wn ≤ wn + 1 := by unfold setW; split <;> omega
section

variable {B : Nat} {FA : Option Addr} {fc : Nat} {fs : List C2} {A : Option Addr} {c : Nat} {ns : List Nat} {n : Nat} {wn : Int}

theorem set_any (g : Nat) (i : Int) (v : Nat) (w : World) (h : IsC w B g FA fc fs A c ns n wn) (hw : 0 ≤ wn ∧ wn ≤ 1000000) :
    Calls Try.prog 42 #[.pointer (some ⟨g, 0, none⟩), .int .i64 i, .int .u32 (v : Int)] w fun e w' => e = .returned (.bool (inB n i)) ∧ IsC w' B g FA fc fs A c (setN n i v ns) n (setW n i wn) ∧ Two g A w w' := by
  by_cases hi : 0 ≤ i ∧ i < (n : Int)
  · have e : inB n i = true := decide_eq_true hi
    obtain ⟨j, rfl⟩ : ∃ j : Nat, i = j := ⟨i.toNat, by omega⟩
    unfold setN setW
    rw [e]
    simp only [if_true, Int.toNat_natCast]
    exact set_in g j v w h (by omega) hw
  · have e : inB n i = false := decide_eq_false hi
    unfold setN setW
    rw [e]
    simp only [Bool.false_eq_true, if_false]
    refine (set_out g i v w h (by omega)).mono ?_
    rintro e w' ⟨rfl, rfl⟩
    exact ⟨rfl, h, Two.refl _ _ _⟩
end

/-- Where cells lie. -/
structure CD where
  g : Nat
  FA : Option Addr
  fc : Nat
  A : Option Addr
  c : Nat
/-- Cells stay where another one's are changed. -/
theorem IsC.apart {w w' : World} {g' : Nat} {R : Option Addr} {B g fc c n : Nat} {FA A : Option Addr} {fs : List C2} {ns : List Nat} {wn : Int} (h : IsC w B g FA fc fs A c ns n wn) (t : Two g' R w w') (h1 : g ≠ g') (h2 : ∀ b, R = some b → b.block ≠ g)
    (h3 : ∀ a, A = some a → a.block ≠ g' ∧ ∀ b, R = some b → b.block ≠ a.block) (h4 : ∀ a, FA = some a → a.block ≠ g' ∧ ∀ b, R = some b → b.block ≠ a.block) : IsC w' B g FA fc fs A c ns n wn :=
  ⟨(t.block g (lt_of_block h.box) h1 h2).trans h.box, own_apart h.fst t (fun a ha => (h4 a ha).1) (fun a b ha hb => (h4 a ha).2 b hb), own_apart h.own t (fun a ha => (h3 a ha).1) (fun a b ha hb => (h3 a ha).2 b hb), h.flen, h.nlen, h.ge, h.d1, h.d2, h.d3⟩
/-- Two partitions' cells: the one's blocks lie below N, the other one's from N on. -/
structure P2 (w0 : World) (N : Nat) (p q : CD) (fs : List C2) (ns ms : List Nat) (n : Nat) (a b : Int) (W : World) : Prop where
  one : IsC W w0.heap.size p.g p.FA p.fc fs p.A p.c ns n a
  two : IsC W N q.g q.FA q.fc fs q.A q.c ms n b
  below : Below w0.heap.size w0 W
  ge : w0.heap.size ≤ N
  lg : p.g < N
  lA : ∀ x, p.A = some x → x.block < N
  lF : ∀ x, p.FA = some x → x.block < N
section

variable {w0 W W' : World} {N : Nat} {p q : CD} {fs : List C2} {ns ms ks : List Nat} {n : Nat} {a b x : Int}

theorem P2.keep (h : P2 w0 N p q fs ns ms n a b W) (k : Below W.heap.size W W') : P2 w0 N p q fs ns ms n a b W' := ⟨h.one.keep k, h.two.keep k, h.below.trans (k.mono h.below.size), h.ge, h.lg, h.lA, h.lF⟩
theorem P2.drewN (h : P2 w0 N p q fs ns ms n a b W) (m : Nat) : P2 w0 N p q fs ns ms n a b (W.drewN m) := h.keep ⟨rfl, rfl, rfl, Nat.le_refl _, fun _ _ => rfl⟩
theorem P2.first (h : P2 w0 N p q fs ns ms n a b W) (i : IsC W' w0.heap.size p.g p.FA p.fc fs p.A p.c ks n x) (t : Two p.g p.A W W') : P2 w0 N p q fs ks ms n x b W' := by
  have hA := fun y hy => (own_at h.two.own y hy).2.1
  have hF := fun y hy => (own_at h.two.fst y hy).2.1
  have hg := h.two.ge
  refine ⟨i, h.two.apart t (by have := h.lg; omega) (fun y hy => by have := h.lA y hy; omega) (fun y hy => ⟨by have := hA y hy; have := h.lg; omega, fun z hz => by have := hA y hy; have := h.lA z hz; omega⟩) (fun y hy => ⟨by have := hF y hy; have := h.lg; omega, fun z hz => by have := hF y hy; have := h.lA z hz; omega⟩), ?_, h.ge, h.lg, h.lA, h.lF⟩
  exact Two.below h.below t h.below.size h.one.ge (fun y hy => (own_at h.one.own y hy).2.1)
theorem P2.second (h : P2 w0 N p q fs ns ms n a b W) (i : IsC W' N q.g q.FA q.fc fs q.A q.c ks n x) (t : Two q.g q.A W W') : P2 w0 N p q fs ns ks n a x W' := by
  have hA := fun y hy => (own_at h.two.own y hy).2.1
  have hg := h.two.ge
  refine ⟨h.one.apart t (by have := h.lg; omega) (fun y hy => by have := hA y hy; have := h.lg; omega) (fun y hy => ⟨by have := h.lA y hy; omega, fun z hz => by have := hA z hz; have := h.lA y hy; omega⟩) (fun y hy => ⟨by have := h.lF y hy; omega, fun z hz => by have := hA z hz; have := h.lF y hy; omega⟩), i, ?_, h.ge, h.lg, h.lA, h.lF⟩
  exact Two.below h.below t h.below.size (Nat.le_trans h.ge hg) (fun y hy => Nat.le_trans h.ge (hA y hy))
end

theorem fresh_eq (b : Bool) : (b != b) = false := by cases b <;> rfl
end Go.Proofs.Ytjdgpbjjhgfikaa.Cel
