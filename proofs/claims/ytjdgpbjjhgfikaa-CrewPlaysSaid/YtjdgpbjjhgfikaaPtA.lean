
/- A partition that runs: what it is, what its calls do. Condition: at most a thousand cells. -/

import Derived.Test.YtjdgpbjjhgfikaaCelU

import Derived.Test.YtjdgpbjjhgfikaaModA

namespace Go.Proofs.Ytjdgpbjjhgfikaa.Pt

open Go.RowKit Go.PlainAid Go.Proofs.Ytjdgpbjjhgfikaa.Args Go.Proofs.Ytjdgpbjjhgfikaa.Cel

open Go.Proofs.Ytjdgpbjjhgfikaa.Mod (askN startN setM setS actN actM actS)

set_option linter.unusedVariables false

set_option linter.unusedSimpArgs false

/-- Just blocks from lo to hi, or new ones, have changed. -/
structure Rng (lo hi : Nat) (w w' : World) : Prop where
  os : w'.os = w.os
  tape : w'.tape = w.tape
  output : w'.output = w.output
  size : w.heap.size ≤ w'.heap.size
  block : ∀ k, k < w.heap.size → (k < lo ∨ hi ≤ k) → w'.heap[k]? = w.heap[k]?
theorem Rng.refl (lo hi : Nat) (w : World) : Rng lo hi w w := ⟨rfl, rfl, rfl, Nat.le_refl _, fun _ _ _ => rfl⟩
theorem Rng.trans {lo hi : Nat} {a b c : World} (h : Rng lo hi a b) (k : Rng lo hi b c) : Rng lo hi a c :=
  ⟨k.os.trans h.os, k.tape.trans h.tape, k.output.trans h.output, Nat.le_trans h.size k.size, fun i hi h1 => (k.block i (Nat.lt_of_lt_of_le hi h.size) h1).trans (h.block i hi h1)⟩
theorem rng_below {lo hi : Nat} {w w' : World} (b : Below w.heap.size w w') : Rng lo hi w w' := ⟨b.os, b.tape, b.output, b.size, fun k hk _ => b.block k hk⟩
theorem Rng.below {lo hi B : Nat} {w0 w w' : World} (h : Below B w0 w) (k : Rng lo hi w w') (hB : B ≤ w.heap.size) (hl : B ≤ lo) : Below B w0 w' :=
  ⟨k.os.trans h.os, k.tape.trans h.tape, k.output.trans h.output, Nat.le_trans h.size k.size, fun i hi => (k.block i (by omega) (by omega)).trans (h.block i hi)⟩
theorem Rng.mono {lo hi lo' hi' : Nat} {w w' : World} (h : Rng lo hi w w') (h1 : lo' ≤ lo) (h2 : hi ≤ hi') : Rng lo' hi' w w' := ⟨h.os, h.tape, h.output, h.size, fun k hk h3 => h.block k hk (by omega)⟩
theorem two_rng {g lo hi : Nat} {A : Option Addr} {w w' : World} (t : Two g A w w') (h1 : lo ≤ g) (h2 : g < hi) (hA : ∀ a, A = some a → lo ≤ a.block ∧ a.block < hi) : Rng lo hi w w' :=
  ⟨t.os, t.tape, t.output, t.size, fun k hk h => t.block k hk (by omega) (fun a ha => by have := hA a ha; omega)⟩
/-- Where a partition lies. -/
structure PD where
  g : Nat
  cg : Nat
  FA : Option Addr
  fc : Nat
  A : Option Addr
  c : Nat
/-- What of a partition stays. -/
structure PK where
  id : Int
  nm : ByteArray
  may : Bool
  fs : List C2
  n : Nat
/-- Block d.g is a partition of mode m that started st times, last by ca; all of its blocks are from lo on, below hi. -/
structure IsP (w : World) (lo hi : Nat) (d : PD) (s : PK) (m st ca : Int) (ns : List Nat) (wr : Int) : Prop where
  box : w.heap[d.g]? = some (.cells #[.int .i64 m, .int .i64 st, .int .i64 ca, .pointer (some ⟨d.cg, 0, none⟩), .int .i64 s.id, .string s.nm, .bool s.may] 61 (0, 0))
  ic : IsC w lo d.cg d.FA d.fc s.fs d.A d.c ns s.n wr
  glo : lo ≤ d.g
  ghi : d.g < hi
  chi : d.cg < hi
  ahi : ∀ a, d.A = some a → a.block < hi
  fhi : ∀ a, d.FA = some a → a.block < hi
  gc : d.g ≠ d.cg
  ga : ∀ a, d.A = some a → a.block ≠ d.g
  gf : ∀ a, d.FA = some a → a.block ≠ d.g
  hs : hi ≤ w.heap.size
section

variable {w w' : World} {lo hi : Nat} {d : PD} {s : PK} {m st ca : Int} {ns : List Nat} {wr : Int}

theorem IsP.keep (h : IsP w lo hi d s m st ca ns wr) (b : Below w.heap.size w w') : IsP w' lo hi d s m st ca ns wr :=
  ⟨(b.block _ (lt_of_block h.box)).trans h.box, h.ic.keep b, h.glo, h.ghi, h.chi, h.ahi, h.fhi, h.gc, h.ga, h.gf, Nat.le_trans h.hs b.size⟩
theorem IsP.drewN (h : IsP w lo hi d s m st ca ns wr) (k : Nat) : IsP (w.drewN k) lo hi d s m st ca ns wr := h.keep ⟨rfl, rfl, rfl, Nat.le_refl _, fun _ _ => rfl⟩
theorem IsP.cells (h : IsP w lo hi d s m st ca ns wr) : w.cell? ⟨d.g, 0, none⟩ = some (.int .i64 m) ∧ w.cell? ⟨d.g, 1, none⟩ = some (.int .i64 st) ∧ w.cell? ⟨d.g, 2, none⟩ = some (.int .i64 ca) ∧ w.cell? ⟨d.g, 3, none⟩ = some (.pointer (some ⟨d.cg, 0, none⟩)) ∧ w.cell? ⟨d.g, 4, none⟩ = some (.int .i64 s.id) ∧ w.cell? ⟨d.g, 5, none⟩ = some (.string s.nm) ∧ w.cell? ⟨d.g, 6, none⟩ = some (.bool s.may) := by
  refine ⟨?_, ?_, ?_, ?_, ?_, ?_, ?_⟩
  all_goals (rw [cell_of_row w _ _ _ _ _ h.box]; rfl)
theorem IsP.free (h : IsP w lo hi d s m st ca ns wr) (o : Nat) : w.frozen? ⟨d.g, o, none⟩ = false := by simp [World.frozen?, h.box]
/-- A partition stays where others' blocks are changed. -/
theorem IsP.apart {lo' hi' : Nat} (h : IsP w lo hi d s m st ca ns wr) (t : Rng lo' hi' w w') (hd : hi ≤ lo' ∨ hi' ≤ lo) : IsP w' lo hi d s m st ca ns wr := by
  have e : ∀ k, k < w.heap.size → lo ≤ k → k < hi → w'.heap[k]? = w.heap[k]? := fun k h1 h2 h3 => t.block k h1 (by omega)
  have hcg := h.ic.ge
  have own : ∀ {e' sz n c : Nat} {A : Option Addr} {xs : List Value}, w.ownsRow lo e' sz (.slice A n c) n xs → (∀ a, A = some a → a.block < hi) → w'.ownsRow lo e' sz (.slice A n c) n xs := by
    intro e' sz n c A xs ho hA
    refine ⟨ho.1, ?_⟩
    rcases ho.2 with h0 | ⟨r, cap, cur, h3, h4, h5, h6⟩
    · exact .inl h0
    · injection h3 with h7 h8 h9
      subst h7
      exact .inr ⟨r, cap, cur, by rw [h9], h4, (e r (lt_of_block h5) h4 (hA _ rfl)).trans h5, h6⟩
  refine ⟨(e _ (lt_of_block h.box) h.glo h.ghi).trans h.box, ⟨(e _ (lt_of_block h.ic.box) h.ic.ge h.chi).trans h.ic.box, own h.ic.fst h.fhi, own h.ic.own h.ahi, h.ic.flen, h.ic.nlen, h.ic.ge, h.ic.d1, h.ic.d2, h.ic.d3⟩, h.glo, h.ghi, h.chi, h.ahi, h.fhi, h.gc, h.ga, h.gf, Nat.le_trans h.hs t.size⟩
/-- Its own cells have changed. -/
theorem IsP.cel {ms : List Nat} {x : Int} (h : IsP w lo hi d s m st ca ns wr) (i : IsC w' lo d.cg d.FA d.fc s.fs d.A d.c ms s.n x) (t : Two d.cg d.A w w') : IsP w' lo hi d s m st ca ms x ∧ Rng lo hi w w' :=
  ⟨⟨(t.block _ (lt_of_block h.box) h.gc (fun a ha => h.ga a ha)).trans h.box, i, h.glo, h.ghi, h.chi, h.ahi, h.fhi, h.gc, h.ga, h.gf, Nat.le_trans h.hs t.size⟩, two_rng t h.ic.ge h.chi (fun a ha => ⟨(own_at h.ic.own a ha).2.1, h.ahi a ha⟩)⟩
theorem IsP.stored (h : IsP w lo hi d s m st ca ns wr) (o : Nat) (v : Value) {m' st' ca' : Int}
    (e : (#[.int .i64 m, .int .i64 st, .int .i64 ca, .pointer (some ⟨d.cg, 0, none⟩), .int .i64 s.id, .string s.nm, .bool s.may] : Array Value).setIfInBounds o v = #[.int .i64 m', .int .i64 st', .int .i64 ca', .pointer (some ⟨d.cg, 0, none⟩), .int .i64 s.id, .string s.nm, .bool s.may]) :
    IsP (w.setCell ⟨d.g, o, none⟩ v) lo hi d s m' st' ca' ns wr ∧ Rng lo hi w (w.setCell ⟨d.g, o, none⟩ v) := by
  have t : Two d.g none w (w.setCell ⟨d.g, o, none⟩ v) := two_cell w _ _ (.inl rfl)
  refine ⟨⟨?_, h.ic.apart t (fun e => h.gc e.symm) (fun _ hb => by cases hb) (fun a ha => ⟨h.ga a ha, fun _ hb => by cases hb⟩) (fun a ha => ⟨h.gf a ha, fun _ hb => by cases hb⟩), h.glo, h.ghi, h.chi, h.ahi, h.fhi, h.gc, h.ga, h.gf, Nat.le_trans h.hs t.size⟩, two_rng t h.glo h.ghi (fun _ ha => by cases ha)⟩
  rw [heap_setCell_same w _ _ _ _ _ h.box, ← e]
theorem IsP.st0 (h : IsP w lo hi d s m st ca ns wr) (x : Int) : IsP (w.setCell ⟨d.g, 0, none⟩ (.int .i64 x)) lo hi d s x st ca ns wr ∧ Rng lo hi w (w.setCell ⟨d.g, 0, none⟩ (.int .i64 x)) := h.stored 0 _ rfl
theorem IsP.st1 (h : IsP w lo hi d s m st ca ns wr) (x : Int) : IsP (w.setCell ⟨d.g, 1, none⟩ (.int .i64 x)) lo hi d s m x ca ns wr ∧ Rng lo hi w (w.setCell ⟨d.g, 1, none⟩ (.int .i64 x)) := h.stored 1 _ rfl
theorem IsP.st2 (h : IsP w lo hi d s m st ca ns wr) (x : Int) : IsP (w.setCell ⟨d.g, 2, none⟩ (.int .i64 x)) lo hi d s m st x ns wr ∧ Rng lo hi w (w.setCell ⟨d.g, 2, none⟩ (.int .i64 x)) := h.stored 2 _ rfl
theorem id_any (h : IsP w lo hi d s m st ca ns wr) : Calls Try.prog 33 #[.pointer (some ⟨d.g, 0, none⟩)] w fun e w' => e = .returned (.int .i64 s.id) ∧ w = w' := by
  obtain ⟨c0, c1, c2, c3, c4, c5, c6⟩ := h.cells
  clear h
  go_enter Try.func33, Try.ntmps33
  go_wp2
  go_ret
  exact ⟨rfl, rfl⟩
theorem mode_any (h : IsP w lo hi d s m st ca ns wr) : Calls Try.prog 49 #[.pointer (some ⟨d.g, 0, none⟩)] w fun e w' => e = .returned (.int .i64 m) ∧ w = w' := by
  obtain ⟨c0, c1, c2, c3, c4, c5, c6⟩ := h.cells
  clear h
  go_enter Try.func49, Try.ntmps49
  go_wp2
  go_ret
  exact ⟨rfl, rfl⟩
theorem starts_any (h : IsP w lo hi d s m st ca ns wr) : Calls Try.prog 70 #[.pointer (some ⟨d.g, 0, none⟩)] w fun e w' => e = .returned (.int .i64 st) ∧ w = w' := by
  obtain ⟨c0, c1, c2, c3, c4, c5, c6⟩ := h.cells
  clear h
  go_enter Try.func70, Try.ntmps70
  go_wp2
  go_ret
  exact ⟨rfl, rfl⟩
theorem cause_any (h : IsP w lo hi d s m st ca ns wr) : Calls Try.prog 71 #[.pointer (some ⟨d.g, 0, none⟩)] w fun e w' => e = .returned (.int .i64 ca) ∧ w = w' := by
  obtain ⟨c0, c1, c2, c3, c4, c5, c6⟩ := h.cells
  clear h
  go_enter Try.func71, Try.ntmps71
  go_wp2
  go_ret
  exact ⟨rfl, rfl⟩
/-- What a start does: none, warm (1), cold (2). -/
def goL (how : Int) (fs : List C2) (ns : List Nat) : List Nat := if how = 1 then startL (fun x => !x.kept) fs ns else if how = 2 then startL (fun _ => true) fs ns else ns
def goW (how wr : Int) : Int := if how = 2 then 0 else wr
def goes (how : Int) : Bool := decide (how = 1 ∨ how = 2)
def goN (how st : Int) : Int := if goes how then st + 1 else st
def goC (how cause ca : Int) : Int := if goes how then cause else ca
set_option maxRecDepth 4000 in
theorem come_any (h : IsP w lo hi d s m st ca ns wr) (hn : s.n ≤ 1000) (hst : 0 ≤ st ∧ st ≤ 1000000) (x how k cause : Int) :
    Calls Try.prog 37 #[.pointer (some ⟨d.g, 0, none⟩), .agg #[.int .i64 x, .int .i64 how, .int .i64 k], .int .i64 cause] w fun e w' => e = .returned (.bool (goes how)) ∧ IsP w' lo hi d s x (goN how st) (goC how cause ca) (goL how s.fs ns) (goW how wr) ∧ Rng lo hi w w' := by
  have hb : Below w.heap.size w (w.alloc (.cells #[.int .i64 x, .int .i64 how, .int .i64 k] 99)) := (Below.refl _ _).alloc (Nat.le_refl _) _
  have hp := h.keep hb
  have hr : Rng lo hi w (w.alloc (.cells #[.int .i64 x, .int .i64 how, .int .i64 k] 99)) := rng_below hb
  have hx := heap_alloc_new w (.cells #[.int .i64 x, .int .i64 how, .int .i64 k] 99)
  have hne : d.g ≠ w.heap.size := by have := lt_of_block h.box; omega
  have hkx := fun (v : Value) => (heap_setCell_other (w.alloc (.cells #[.int .i64 x, .int .i64 how, .int .i64 k] 99)) ⟨d.g, 0, none⟩ w.heap.size v (fun e => hne e.symm)).trans hx
  obtain ⟨W1, hW1⟩ : ∃ W, w.alloc (.cells #[.int .i64 x, .int .i64 how, .int .i64 k] 99) = W := ⟨_, rfl⟩
  rw [hW1] at hp hr hx hkx
  have HW1 := Lib.hid hW1
  obtain ⟨X, hX⟩ : ∃ X, w.heap.size = X := ⟨_, rfl⟩
  rw [hX] at hx hkx
  have HX := Lib.hid hX
  have x0 := cell_of_row _ _ 0 _ _ _ hx
  simp only [List.getElem?_toArray, List.getElem?_cons_zero, List.getElem?_cons_succ] at x0
  have hs := hp.st0 x
  have y1 := cell_of_row _ _ 1 _ _ _ (hkx (.int .i64 x))
  simp only [List.getElem?_toArray, List.getElem?_cons_zero, List.getElem?_cons_succ] at y1
  obtain ⟨c0, -, -, -, -, -, -⟩ := hp.cells
  have f0 := hp.free 0
  have HP2 := Lib.hid hs.1
  have HR2 := Lib.hid (hr.trans hs.2)
  have tst : IntKind.i64.wrap (st + 1) = st + 1 := IntWalk.i64_in _ (by omega)
  clear h hb hp hr hx hne hkx hW1 hX hs hst
  go_enter Try.func37, Try.ntmps37
  go_upto_region 1 with fail
  rw [HW1.out, HX.out]
  go_upto_region 2 with fail
  obtain ⟨W2, hW2⟩ : ∃ W, W1.setCell ⟨d.g, 0, none⟩ (.int .i64 x) = W := ⟨_, rfl⟩
  rw [hW2] at HP2 HR2 y1
  rw [hW2]
  clear hW2 c0 x0 f0
  by_cases h1 : how = 1
  · subst h1
    obtain ⟨c0, c1, c2, c3, c4, c5, c6⟩ := HP2.out.cells
    go_wp2_with fail
    refine (warm_any d.cg _ HP2.out.ic hn).mono ?_
    rintro e w3 ⟨rfl, hic, htw⟩
    have h3 := HP2.out.cel hic htw
    have hs := h3.1.st1 (st + 1)
    have ht := hs.1.st2 cause
    have HF := Lib.hid ht.1
    have HR := Lib.hid ((HR2.out.trans h3.2).trans (hs.2.trans ht.2))
    obtain ⟨b0, b1, b2, b3, b4, b5, b6⟩ := h3.1.cells
    have f1 := h3.1.free 1
    obtain ⟨e0, e1, e2, e3, e4, e5, e6⟩ := hs.1.cells
    have f2 := hs.1.free 2
    clear hic htw h3 hs ht c0 c1 c2 c3 c4 c5 c6 y1
    go_wp2
    go_ret
    exact ⟨rfl, HF.out, HR.out⟩
  · by_cases h2 : how = 2
    · subst h2
      clear h1
      obtain ⟨c0, c1, c2, c3, c4, c5, c6⟩ := HP2.out.cells
      go_wp2_with fail
      refine (cold_any d.cg _ HP2.out.ic hn).mono ?_
      rintro e w3 ⟨rfl, hic, htw⟩
      have h3 := HP2.out.cel hic htw
      have hs := h3.1.st1 (st + 1)
      have ht := hs.1.st2 cause
      have HF := Lib.hid ht.1
      have HR := Lib.hid ((HR2.out.trans h3.2).trans (hs.2.trans ht.2))
      obtain ⟨b0, b1, b2, b3, b4, b5, b6⟩ := h3.1.cells
      have f1 := h3.1.free 1
      obtain ⟨e0, e1, e2, e3, e4, e5, e6⟩ := hs.1.cells
      have f2 := hs.1.free 2
      clear hic htw h3 hs ht c0 c1 c2 c3 c4 c5 c6 y1
      go_wp2
      go_ret
      exact ⟨rfl, HF.out, HR.out⟩
    · have t1 : (how == 1) = false := by simp [h1]
      have t2 : (how == 2) = false := by simp [h2]
      have e0 : goes how = false := decide_eq_false (by omega)
      have e1 : goN how st = st := by unfold goN; rw [e0]; rfl
      have e2 : goC how cause ca = ca := by unfold goC; rw [e0]; rfl
      have e3 : goL how s.fs ns = ns := by unfold goL; rw [if_neg h1, if_neg h2]
      have e4 : goW how wr = wr := by unfold goW; rw [if_neg h2]
      have HE : Hid (goes how = false ∧ goN how st = st ∧ goC how cause ca = ca ∧ goL how s.fs ns = ns ∧ goW how wr = wr) := ⟨e0, e1, e2, e3, e4⟩
      clear h1 h2 e0 e1 e2 e3 e4
      go_wp2
      go_ret
      obtain ⟨e0, e1, e2, e3, e4⟩ := HE.out
      rw [e0, e1, e2, e3, e4]
      exact ⟨rfl, HP2.out, HR2.out⟩
theorem told_any (b : Bool) (w : World) : Calls Try.prog 41 #[.bool b] w fun e w' => e = .returned (.int .i64 (if b then 0 else 3)) ∧ w = w' := by
  cases b
  all_goals
    go_enter Try.func41, Try.ntmps41
    go_wp2
    go_ret
    exact ⟨rfl, rfl⟩
theorem act_any2 (now act : Int) (w : World) :
    Calls Try.prog 69 #[.int .i64 now, .int .i64 act] w fun e w' => e = .returned (.agg #[.int .i64 (actM now act), .int .i64 (actS now act), .int .i64 (actN act)]) ∧ Below w.heap.size w w' := by
  have h := Go.Proofs.Ytjdgpbjjhgfikaa.Mod.act_any now act w
  have e1 : (if actN act = 0 then actM now act else now) = actM now act := by unfold actN actM; split <;> split <;> (try rfl) <;> omega
  have e2 : (if actN act = 0 then actS now act else 0) = actS now act := by unfold actN actS; split <;> split <;> (try rfl) <;> omega
  rw [e1, e2] at h
  exact h
end

end Go.Proofs.Ytjdgpbjjhgfikaa.Pt
