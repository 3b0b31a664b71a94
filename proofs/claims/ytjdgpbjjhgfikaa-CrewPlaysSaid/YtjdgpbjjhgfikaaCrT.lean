
/- The document's crew beside the program's: what a round of calls keeps. No condition. -/

import Derived.Test.YtjdgpbjjhgfikaaCrS

import Derived.Test.YtjdgpbjjhgfikaaSrtR

import Derived.Test.YtjdgpbjjhgfikaaCrR

import Derived.Test.YtjdgpbjjhgfikaaCrK

import Derived.Test.YtjdgpbjjhgfikaaCrQ

namespace Go.Proofs.Ytjdgpbjjhgfikaa.Crw

open Go.RowKit Go.PlainAid Go.Proofs.Ytjdgpbjjhgfikaa.Args Go.Proofs.Ytjdgpbjjhgfikaa.Cel Go.Proofs.Ytjdgpbjjhgfikaa.Pt Go.Proofs.Ytjdgpbjjhgfikaa.Mpv

open Go.Proofs.Ytjdgpbjjhgfikaa.Mod (askN startN setM setS actN actM actS)

open Go.Proofs.Ytjdgpbjjhgfikaa.Srt (AcS AcS.kept A3 forN rfor_any)

set_option linter.unusedVariables false

set_option linter.unusedSimpArgs false

/-- Calls that came in. -/
structure O5 where
  k : Int
  s : Int
  id : Int
  i : Int
  v : Nat
def Op5At (w : World) (A : Option Addr) (l : List O5) : Prop :=
  ∀ i x, l[i]? = some x → Mpv.I64 x.id ∧ ∃ y, A = some y ∧ w.cell? (y.add (i * 5)) = some (.int .i64 x.k) ∧ w.cell? ⟨(y.add (i * 5)).block, (y.add (i * 5)).off + 1, none⟩ = some (.int .i64 x.s) ∧ w.cell? ⟨(y.add (i * 5)).block, (y.add (i * 5)).off + 2, none⟩ = some (.int .i64 x.id) ∧ w.cell? ⟨(y.add (i * 5)).block, (y.add (i * 5)).off + 3, none⟩ = some (.int .i64 x.i) ∧ w.cell? ⟨(y.add (i * 5)).block, (y.add (i * 5)).off + 4, none⟩ = some (.int .u32 (x.v : Int))
theorem Op5At.kept {w w' : World} {A : Option Addr} {l : List O5} (h : Op5At w A l) (b : Below w.heap.size w w') : Op5At w' A l := by
  intro i x hx
  obtain ⟨h0, y, e, h1, h2, h3, h4, h5⟩ := h i x hx
  exact ⟨h0, y, e, (b.cell (Go.block_lt_of_cell h1)).trans h1, (b.cell (Go.block_lt_of_cell h2)).trans h2, (b.cell (Go.block_lt_of_cell h3)).trans h3, (b.cell (Go.block_lt_of_cell h4)).trans h4, (b.cell (Go.block_lt_of_cell h5)).trans h5⟩
theorem ops5_in {w : World} {a : Option Addr} {len cap : Nat} (h : IsRecs w a len cap [.int .i64, .int .i64, .int .i64, .int .i64, .int .u32]) : ∃ l : List O5, l.length = len ∧ Op5At w a l := by
  rcases h with ⟨rfl, rfl, rfl⟩ | ⟨y, rfl, hlc, hcm, hcell⟩
  · exact ⟨[], rfl, fun i x hx => by simp at hx⟩
  · obtain ⟨l, hl, hp⟩ := list_of (fun i (x : O5) => Mpv.I64 x.id ∧ w.cell? (y.add (i * 5)) = some (.int .i64 x.k) ∧ w.cell? ⟨(y.add (i * 5)).block, (y.add (i * 5)).off + 1, none⟩ = some (.int .i64 x.s) ∧ w.cell? ⟨(y.add (i * 5)).block, (y.add (i * 5)).off + 2, none⟩ = some (.int .i64 x.id) ∧ w.cell? ⟨(y.add (i * 5)).block, (y.add (i * 5)).off + 3, none⟩ = some (.int .i64 x.i) ∧ w.cell? ⟨(y.add (i * 5)).block, (y.add (i * 5)).off + 4, none⟩ = some (.int .u32 (x.v : Int))) len (by
      intro i hi
      obtain ⟨_, c0, k, rfl, hk⟩ := hcell i hi 0 _ rfl
      obtain ⟨_, c1, s, rfl, hs⟩ := hcell i hi 1 _ rfl
      obtain ⟨_, c2, id, rfl, hid⟩ := hcell i hi 2 _ rfl
      obtain ⟨_, c3, b, rfl, hb⟩ := hcell i hi 3 _ rfl
      obtain ⟨_, c4, u, rfl, hu⟩ := hcell i hi 4 _ rfl
      have hb := bounds_u32 hu
      obtain ⟨v, rfl⟩ := Int.eq_ofNat_of_zero_le hb.1
      exact ⟨⟨k, s, id, b, v⟩, bounds_i64 hid, c0, c1, c2, c3, c4⟩)
    exact ⟨l, hl, fun i x hx => ⟨(hp i x hx).1, y, rfl, (hp i x hx).2⟩⟩
theorem own_base {w : World} {B C e s n : Nat} {v : Value} {xs : List Value} (h : w.ownsRow B e s v n xs) (hle : C ≤ B) : w.ownsRow C e s v n xs := by
  refine ⟨h.1, ?_⟩
  rcases h.2 with h | ⟨g, cap, cur, h1, h2, h3⟩
  · exact .inl h
  · exact .inr ⟨g, cap, cur, h1, Nat.le_trans hle h2, h3⟩
theorem own_pr {L : List CP} {w w' : World} {B e s n : Nat} {v : Value} {xs : List Value} (h : w.ownsRow B e s v n xs) (p : PR L w w') (hL : ∀ q ∈ L, q.hi ≤ B) : w'.ownsRow B e s v n xs := by
  refine ⟨h.1, ?_⟩
  rcases h.2 with h | ⟨g, cap, cur, h1, h2, h3, h4⟩
  · exact .inl h
  · exact .inr ⟨g, cap, cur, h1, h2, (p.block g (lt_of_block h3) (fun q hq => .inr (Nat.le_trans (hL q hq) h2))).trans h3, h4⟩
theorem nums_pr {L : List CP} {w w' : World} {N : Option Addr} {ns : List Nat} {H : Nat} (h : NumsAt w N ns) (p : PR L w w') (hN : ns ≠ [] → ∀ y, N = some y → H ≤ y.block) (hL : ∀ q ∈ L, q.hi ≤ H) : NumsAt w' N ns := by
  intro i v hv
  have hne : ns ≠ [] := fun e => by rw [e] at hv; simp at hv
  obtain ⟨y, e, hc⟩ := h i v hv
  have e2 : (y.add i).block = y.block := by cases i <;> simp [Addr.add]
  exact ⟨y, e, p.cell hc (fun q hq => .inr (by rw [e2]; have := hN hne y e; have := hL q hq; omega))⟩
theorem map_pair {α β γ δ : Type} {f : α → β} {g : α → γ} {f' : δ → β} {g' : δ → γ} {l : List α} {l' : List δ} (h1 : l.map f = l'.map f') (h2 : l.map g = l'.map g') : l.map (fun x => (f x, g x)) = l'.map fun x => (f' x, g' x) := by
  apply List.ext_getElem?
  intro i
  have e1 := congrArg (·[i]?) h1
  have e2 := congrArg (·[i]?) h2
  simp only [List.getElem?_map] at e1 e2 ⊢
  rcases h3 : l[i]? with _ | x <;> rcases h4 : l'[i]? with _ | z <;> rw [h3, h4] at e1 e2 <;> simp at e1 e2 ⊢
  exact ⟨e1, e2⟩
/-- The document's crew, all of it from block H on, but the cells that came in. -/
structure RD (W : World) (H : Nat) (l : List AP) (V : Value) (out : List RX) : Prop where
  row : RRow W H V out
  num : ∀ r ∈ out, r.ns ≠ [] → ∀ y, r.N = some y → H ≤ y.block
  bc : out.map (fun r => ((r.B, r.bc), r.s)) = l.map fun x => ((x.B, x.c), x.s)
theorem RD.keep {W W' : World} {H : Nat} {l : List AP} {V : Value} {out : List RX} (h : RD W H l V out) (b : Below W.heap.size W W') : RD W' H l V out := ⟨h.row.keep b, h.num, h.bc⟩
theorem RD.cells {w W' : World} {l : List AP} {out : List RX} (h : out.map (fun r => ((r.B, r.bc), r.s)) = l.map fun x => ((x.B, x.c), x.s)) (hok : ∀ x ∈ l, x.ok w) (b : Below w.heap.size w W') : ∀ o ∈ out, CellsAt W' o.B o.s.fs := by
  intro o ho
  have h1 : ((o.B, o.bc), o.s) ∈ l.map fun x => ((x.B, x.c), x.s) := by rw [← h]; exact List.mem_map.2 ⟨o, ho, rfl⟩
  obtain ⟨z, hz, hze⟩ := List.mem_map.1 h1
  injection hze with e1 e2
  injection e1 with e3 e4
  rw [← e2, ← e3]
  exact (hok z hz).1.kept b
theorem RD.pr {w W W' : World} {H : Nat} {l : List AP} {V : Value} {out : List RX} {L : List CP} (h : RD W H l V out) (p : PR L W W') (hL : ∀ q ∈ L, q.hi ≤ H) (hok : ∀ x ∈ l, x.ok w) (b : Below w.heap.size w W') : RD W' H l V out :=
  ⟨⟨own_pr h.row.1 p hL, fun r hr => ⟨nums_pr (h.row.2 r hr).1 p (h.num r hr) hL, (h.row.2 r hr).2.1, RD.cells h.bc hok b r hr, (h.row.2 r hr).2.2.2⟩⟩, h.num, h.bc⟩
/-- Another one in the place of one. -/
theorem RD.put {W W' : World} {H H' : Nat} {l : List AP} {V V' : Value} {out : List RX} {j : Nat} {r r' : RX} (h : RD W H l V out) (hr : out[j]? = some r) (hw : RRow W' H' V' (out.set j r')) (hH : H ≤ H') (e1 : r'.B = r.B) (e2 : r'.bc = r.bc) (e3 : r'.s = r.s) (hn : r'.ns ≠ [] → ∀ y, r'.N = some y → H ≤ y.block) : RD W' H l V' (out.set j r') := by
  refine ⟨⟨own_base hw.1 hH, hw.2⟩, fun o ho => ?_, ?_⟩
  · rcases List.mem_or_eq_of_mem_set ho with ho | rfl
    · exact h.num o ho
    · exact hn
  · rw [← h.bc, List.map_set]
    refine set_same ?_
    rw [List.getElem?_map, hr]
    simp [e1, e2, e3]
where
  set_same {α : Type} {l : List α} {i : Nat} {x : α} (h : l[i]? = some x) : l.set i x = l := by
    apply List.ext_getElem?
    intro j
    rw [List.getElem?_set]
    split
    · rename_i e
      subst e
      rw [if_pos (List.getElem?_eq_some_iff.1 h).1, h]
    · rfl
/-- Made anew, or by a change. -/
theorem RD.made {W : World} {H H' : Nat} {l : List AP} {V : Value} {out : List RX} (h : RRow W H' V out) (hH : H ≤ H') (hn : ∀ r ∈ out, r.ns ≠ [] → ∀ y, r.N = some y → H ≤ y.block) (h1 : out.map (fun r => (r.B, r.bc)) = l.map fun x => (x.B, x.c)) (h2 : out.map (fun r => r.s) = l.map fun x => x.s) : RD W H l V out :=
  ⟨⟨own_base h.1 hH, h.2⟩, hn, map_pair h1 h2⟩
/-- A cell of a row of the call's own. -/
theorem own_cells1 {w : World} {B e n c : Nat} {A : Option Addr} {xs : List Value} (h : w.ownsRow B e 1 (.slice A n c) n xs) {i : Nat} {v : Value} (hi : xs[i]? = some v) : ∃ g, A = some ⟨g, 0, none⟩ ∧ w.cell? ⟨g, i, none⟩ = some v := by
  have hl : xs.length = n := by have := h.1; omega
  have hi2 := (List.getElem?_eq_some_iff.1 hi).1
  rcases h.2 with ⟨e, h0⟩ | ⟨g, cap, cur, e, _⟩
  · omega
  · have h1 := h
    rw [e] at h1
    injection e with e1 _ _
    exact ⟨g, e1, (h1.cellAt i (by omega)).trans hi⟩
theorem goes_both {m a : Int} (h : goes (actS m a) = true) : m ≠ 0 ∧ a ≠ 0 := by
  refine ⟨fun e => ?_, fun e => ?_⟩
  · subst e
    have : actS 0 a = 0 := by unfold actS; split <;> simp_all
    rw [this] at h
    exact absurd h (by decide)
  · subst e
    have : actS m 0 = 0 := by unfold actS; split <;> simp
    rw [this] at h
    exact absurd h (by decide)
/-- A box of the document's. -/
def RbPost (r : RX) (m st ca : Int) (ns : List Nat) (wr : Int) (dv : Value) (W0 : World) (p d : Value) (W : World) : Prop :=
  ∃ (N' : Option Addr) (nc X : Nat), p = .pointer (some ⟨X, 0, none⟩) ∧ d = dv ∧ W0.heap.size ≤ X ∧ W.heap[X]? = some (.cells #[.int .i64 r.s.id, .string r.s.nm, .bool r.s.may, .slice r.B r.s.n r.bc, .int .i64 m, .int .i64 st, .int .i64 ca, .slice r.B r.s.n r.bc, .slice N' r.s.n nc, .int .i64 wr] 51 (0, 0)) ∧
    NumsAt W N' ns ∧ (∀ y, N' = some y → W0.heap.size ≤ y.block ∨ r.N = some y) ∧ Below W0.heap.size W0 W
theorem rb_done {r : RX} {m st ca : Int} {ns : List Nat} {wr : Int} {dv : Value} {W Wx : World} {X : Nat} {N' : Option Addr} {nc : Nat} (hX : W.heap.size ≤ X) (hx : Wx.heap[X]? = some (.cells zR 51 (0, 0))) (hb : Below W.heap.size W Wx) (hn : NumsAt Wx N' ns)
    (hne : ns ≠ [] → ∀ y, N' = some y → y.block ≠ X) (hnb : ∀ y, N' = some y → W.heap.size ≤ y.block ∨ r.N = some y) :
    Sem.run Try.prog (storeVar 51 ⟨X, 0, none⟩ (.agg #[.int .i64 r.s.id, .string r.s.nm, .bool r.s.may, .slice r.B r.s.n r.bc, .int .i64 m, .int .i64 st, .int .i64 ca, .slice r.B r.s.n r.bc, .slice N' r.s.n nc, .int .i64 wr])) Wx = .ok () (Wx.setRow X #[.int .i64 r.s.id, .string r.s.nm, .bool r.s.may, .slice r.B r.s.n r.bc, .int .i64 m, .int .i64 st, .int .i64 ca, .slice r.B r.s.n r.bc, .slice N' r.s.n nc, .int .i64 wr]) ∧ RbPost r m st ca ns wr dv W (.pointer (some ⟨X, 0, none⟩)) dv (Wx.setRow X #[.int .i64 r.s.id, .string r.s.nm, .bool r.s.may, .slice r.B r.s.n r.bc, .int .i64 m, .int .i64 st, .int .i64 ca, .slice r.B r.s.n r.bc, .slice N' r.s.n nc, .int .i64 wr]) ∧ Below W.heap.size W (Wx.setRow X #[.int .i64 r.s.id, .string r.s.nm, .bool r.s.may, .slice r.B r.s.n r.bc, .int .i64 m, .int .i64 st, .int .i64 ca, .slice r.B r.s.n r.bc, .slice N' r.s.n nc, .int .i64 wr]) := by
  have h1 := box_stored (W := Wx) (X := X) #[.int .i64 r.s.id, .string r.s.nm, .bool r.s.may, .slice r.B r.s.n r.bc, .int .i64 m, .int .i64 st, .int .i64 ca, .slice r.B r.s.n r.bc, .slice N' r.s.n nc, .int .i64 wr] rfl (by simp [Value.oneCell']) hx
  have hb5 := Rng.below hb (rng_setRow Wx X #[.int .i64 r.s.id, .string r.s.nm, .bool r.s.may, .slice r.B r.s.n r.bc, .int .i64 m, .int .i64 st, .int .i64 ca, .slice r.B r.s.n r.bc, .slice N' r.s.n nc, .int .i64 wr]) hb.size hX
  exact ⟨h1.1, ⟨N', nc, X, rfl, rfl, hX, h1.2, nums_row hn X _ hne, hnb, hb5⟩, hb5⟩
/-- A partition's call and the document's: the relation of the two goes on. -/
theorem set_qs {L : List CP} {out : List RX} {j : Nat} {p' : CP} {r' : RX} (h : out.map RX.q = L.map CP.q) (e : r'.q = p'.q) : (out.set j r').map RX.q = (L.set j p').map CP.q := by
  rw [List.map_set, List.map_set, h, e]
theorem set_los {L : List CP} {los : List (Nat × Nat)} {j : Nat} {p p' : CP} (h : L.map (fun p => (p.lo, p.hi)) = los) (hp : L[j]? = some p) (e1 : p'.lo = p.lo) (e2 : p'.hi = p.hi) : (L.set j p').map (fun p => (p.lo, p.hi)) = los := by
  rw [List.map_set, e1, e2, h]
  refine RD.put.set_same ?_
  rw [← h, List.getElem?_map, hp]
  rfl
theorem set_bd {L : List CP} {j k : Nat} {p' : CP} (h : ∀ p ∈ L, Bd p.m p.st p.wr k) (hp : Bd p'.m p'.st p'.wr (k + 1)) : ∀ p ∈ L.set j p', Bd p.m p.st p.wr (k + 1) := by
  intro p hm
  rcases List.mem_or_eq_of_mem_set hm with hm | rfl
  · obtain ⟨h1, h2, h3⟩ := h p hm
    exact ⟨h1, ⟨h2.1, by have := h2.2; omega⟩, h3.1, by have := h3.2; omega⟩
  · exact hp
/-- Where an id stands: on both sides at one place, or on none. -/
theorem both_at {L : List CP} {out : List RX} (hq : out.map RX.q = L.map CP.q) (hu : L.Pairwise fun p q => p.s.id < q.s.id) (id : Int) :
    (∃ (j : Nat) (p : CP) (r : RX), L[j]? = some p ∧ out[j]? = some r ∧ r.q = p.q ∧ p.s.id = id ∧ fndP L id = some p ∧ atR out id = (j : Int)) ∨ (fndP L id = none ∧ atR out id = -1) := by
  have hat : ∀ (j : Nat) (p : CP), L[j]? = some p → ∃ r, out[j]? = some r ∧ r.q = p.q := fun j p hp => by
    have h1 := congrArg (·[j]?) hq
    simp only [List.getElem?_map, hp] at h1
    obtain ⟨r, hr, hrq⟩ := Option.map_eq_some_iff.1 h1
    exact ⟨r, hr, hrq⟩
  have hta : ∀ (j : Nat) (r : RX), out[j]? = some r → ∃ p, L[j]? = some p ∧ r.q = p.q := fun j r hr => by
    have h1 := congrArg (·[j]?) hq
    simp only [List.getElem?_map, hr] at h1
    obtain ⟨p, hp, hpq⟩ := Option.map_eq_some_iff.1 h1.symm
    exact ⟨p, hp, hpq.symm⟩
  by_cases hex : ∃ p ∈ L, p.s.id = id
  · obtain ⟨p, hp, hid⟩ := hex
    obtain ⟨j, hj, hjp⟩ := List.mem_iff_getElem.1 hp
    have hjp' : L[j]? = some p := by rw [List.getElem?_eq_getElem hj, hjp]
    obtain ⟨r, hr, hrq⟩ := hat j p hjp'
    refine .inl ⟨j, p, r, hjp', hr, hrq, hid, by rw [← hid]; exact fnd_at hu hjp', ?_⟩
    refine idx_here hr (by have := congrArg (fun q : QS => q.s.id) hrq; exact this.trans hid) (fun z hz => ?_)
    obtain ⟨i, hi, hiz⟩ := List.mem_iff_getElem.1 hz
    have hil : i < j := by rw [List.length_take] at hi; omega
    have hiz' : out[i]? = some z := by
      rw [← hiz, List.getElem_take]
      exact List.getElem?_eq_getElem _
    obtain ⟨p2, hp2, hq2⟩ := hta i z hiz'
    have hlt := (List.pairwise_iff_getElem.1 hu) i j (List.getElem?_eq_some_iff.1 hp2).1 hj hil
    rw [(List.getElem?_eq_some_iff.1 hp2).2, hjp] at hlt
    have e : z.s.id = p2.s.id := congrArg (fun q : QS => q.s.id) hq2
    omega
  · right
    refine ⟨List.find?_eq_none.2 (fun p hp => ?_), idx_none (fun z hz => ?_)⟩
    · have : ¬ p.s.id = id := fun e => hex ⟨p, hp, e⟩
      simpa using this
    · obtain ⟨i, hi, hiz⟩ := List.mem_iff_getElem.1 hz
      obtain ⟨p2, hp2, hq2⟩ := hta i z (by rw [List.getElem?_eq_getElem hi, hiz])
      have e : z.s.id = p2.s.id := congrArg (fun q : QS => q.s.id) hq2
      rw [e]
      exact fun e2 => hex ⟨p2, List.mem_of_getElem? hp2, e2⟩
end Go.Proofs.Ytjdgpbjjhgfikaa.Crw
