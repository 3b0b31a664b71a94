
/- The function SchedsFinds returns true for every slice of schedules, every number and every two schedules. Condition: the package-level variables hold what the program lays in them (the card ties that). This text: the walk through the Go text; the row is in the text without the W at its name's end. -/

import Derived.Test.YtbcjkongcnpdlaaDoorArgs

import Derived.Test.YtbcjkongcnpdlaaDoorScdS

import Derived.Test.YtbcjkongcnpdlaaDoorPrtL

import Derived.Test.YtbcjkongcnpdlaaDoorCnv

import Derived.Deep.RegionHeld3

import Derived.Deep.CutRange

namespace Go.Proofs.YtbcjkongcnpdlaaDoor.schedsFinds

open Go.RowKit Go.PlainAid Go.Proofs.YtbcjkongcnpdlaaDoor.Args

set_option linter.unusedVariables false

open Go.Proofs.YtbcjkongcnpdlaaDoor.Flt Go.Proofs.YtbcjkongcnpdlaaDoor.Rdr Go.Proofs.YtbcjkongcnpdlaaDoor.Oct Go.Proofs.YtbcjkongcnpdlaaDoor.Byt Go.Proofs.YtbcjkongcnpdlaaDoor.Act Go.Proofs.YtbcjkongcnpdlaaDoor.Scd

open Go.Proofs.YtbcjkongcnpdlaaDoor.Prt (allEq allEq_no allEq_yes allEq_len below_drewN add_at add_more)

/-- A schedule that came in by value. -/
theorem sched_of {w : World} {a : Array Value} (h : IsAgg w [.one (.int .i64), .one (.int .i64), .recs [.int .i64, .int .i64, .int .i64], .recs [.int .i64, .int .i64, .int .i64]] a) :
    ∃ (x : SC) (B : Option Addr) (cb : Nat) (C : Option Addr) (cc : Nat), a = #[.int .i64 x.id, .int .i64 x.fr, .slice B x.ws.length cb, .slice C x.ns.length cc] ∧ (ActsAt w B x.ws ∧ (B = none → cb = 0) ∧ x.ws.length ≤ cb ∧ cb ≤ maxLen ∧ ActsAt w C x.ns ∧ (C = none → cc = 0) ∧ x.ns.length ≤ cc ∧ cc ≤ maxLen) ∧ WideS x := by
  obtain ⟨hs, hf⟩ := h
  obtain ⟨v0, e0, id, rfl, w0⟩ := hf 0 _ rfl
  obtain ⟨v1, e1, fr, rfl, w1⟩ := hf 1 _ rfl
  obtain ⟨v2, e2, B, bl, bc, rfl, w2⟩ := hf 2 _ rfl
  obtain ⟨v3, e3, C, cl, cc, rfl, w3⟩ := hf 3 _ rfl
  obtain ⟨ws, hw1, hw2, hw3, hw4, hw5, hw6⟩ := rows3_of w2
  obtain ⟨ns, hn1, hn2, hn3, hn4, hn5, hn6⟩ := rows3_of w3
  refine ⟨⟨id, fr, ws, ns⟩, B, bc, C, cc, ?_, ⟨hw2, hw4, by show ws.length ≤ bc; omega, hw6, hn2, hn4, by show ns.length ≤ cc; omega, hn6⟩, bounds_i64 w0, hw3, hn3⟩
  have hs4 : a.size = 4 := hs
  apply Array.ext_getElem?
  intro i
  rcases (show i = 0 ∨ i = 1 ∨ i = 2 ∨ i = 3 ∨ 4 ≤ i by omega) with rfl | rfl | rfl | rfl | h
  · exact e0
  · exact e1
  · rw [e2, ← hw1]; rfl
  · rw [e3, ← hn1]; rfl
  · rw [Array.getElem?_eq_none (by omega), Array.getElem?_eq_none (by simp; omega)]
def HasR (W : World) (x : SC) (A : Option Addr) (ca : Nat) (C : Option Addr) (cc : Nat) : Prop := ActsAt W A x.ws ∧ (A = none → ca = 0) ∧ x.ws.length ≤ ca ∧ ca ≤ maxLen ∧ ActsAt W C x.ns ∧ (C = none → cc = 0) ∧ x.ns.length ≤ cc ∧ cc ≤ maxLen
/-- Schedules laid by a call of its own, one behind the other. -/
theorem laid_two {W : World} {b : Nat} {x y : SC} {A B C D : Option Addr} {ca cb cc cd : Nat} (hr : W.heap[b]? = some (.cells #[.int .i64 x.id, .int .i64 x.fr, .slice A x.ws.length ca, .slice C x.ns.length cc, .int .i64 y.id, .int .i64 y.fr, .slice B y.ws.length cb, .slice D y.ns.length cd] 51 (0, 0)))
    (h1 : HasR W x A ca C cc) (h2 : HasR W y B cb D cd) : ScdAt W (some ⟨b, 0, none⟩) [x, y] := by
  intro i z hz
  rcases (show i = 0 ∨ i = 1 ∨ 2 ≤ i by omega) with rfl | rfl | h
  · obtain rfl : x = z := by simpa using hz
    refine ⟨_, A, ca, C, cc, rfl, ?_, ?_, ?_, ?_, h1⟩
    all_goals (rw [add_at]; (try dsimp only); rw [cell_of_row _ _ _ _ _ _ hr]; rfl)
  · obtain rfl : y = z := by simpa using hz
    refine ⟨_, B, cb, D, cd, rfl, ?_, ?_, ?_, ?_, h2⟩
    all_goals (rw [add_at]; (try dsimp only); rw [cell_of_row _ _ _ _ _ _ hr]; rfl)
  · rw [List.getElem?_eq_none (by simpa using h)] at hz; cases hz
theorem laid_one {W : World} {b : Nat} {x : SC} {A C : Option Addr} {ca cc : Nat} (hr : W.heap[b]? = some (.cells #[.int .i64 x.id, .int .i64 x.fr, .slice A x.ws.length ca, .slice C x.ns.length cc] 51 (0, 0)))
    (h1 : HasR W x A ca C cc) : ScdAt W (some ⟨b, 0, none⟩) [x] := by
  intro i z hz
  rcases (show i = 0 ∨ 1 ≤ i by omega) with rfl | h
  · obtain rfl : x = z := by simpa using hz
    refine ⟨_, A, ca, C, cc, rfl, ?_, ?_, ?_, ?_, h1⟩
    all_goals (rw [add_at]; (try dsimp only); rw [cell_of_row _ _ _ _ _ _ hr]; rfl)
  · rw [List.getElem?_eq_none (by simpa using h)] at hz; cases hz
theorem HasR.kept {w W : World} {x : SC} {A C : Option Addr} {ca cc : Nat} (h : HasR w x A ca C cc) (b : Below w.heap.size w W) : HasR W x A ca C cc := by
  obtain ⟨h1, h2, h3, h4, h5, h6⟩ := h
  exact ⟨h1.kept b, h2, h3, h4, h5.kept b, h6⟩
/-- From row k on, the windows are as they were. -/
structure SW (k : Nat) (L : List (SC × Value × Value)) (V : Value) (w wr : World) : Prop where
  own : wr.ownsRow w.heap.size 51 4 V L.length (flatS L)
  subW : ∀ (i : Nat) (q : SC × Value × Value), k ≤ i → L[i]? = some q → wr.ownsRow w.heap.size 59 3 q.2.1 q.1.ws.length (flatA q.1.ws)
  subN : ∀ (i : Nat) (q : SC × Value × Value), L[i]? = some q → wr.ownsRow w.heap.size 68 3 q.2.2 q.1.ns.length (flatA q.1.ns)
  apart : ∀ (i j : Nat) (q q' : SC × Value × Value) (b : Nat), i ≠ j → L[i]? = some q → L[j]? = some q' → q.2.1.ownBlock = some b → q'.2.1.ownBlock ≠ some b
  below : Below w.heap.size w wr
theorem SW.keep {k : Nat} {L : List (SC × Value × Value)} {V : Value} {w wr w' : World} (f : SW k L V w wr) (b : Below wr.heap.size wr w') : SW k L V w w' :=
  ⟨row_below f.own b, fun i q hi hq => row_below (f.subW i q hi hq) b, fun i q hq => row_below (f.subN i q hq) b, f.apart, f.below.trans (b.mono f.below.size)⟩
theorem SW.drewN {k : Nat} {L : List (SC × Value × Value)} {V : Value} {w wr : World} (f : SW k L V w wr) (n : Nat) : SW k L V w (wr.drewN n) := f.keep ⟨rfl, rfl, rfl, Nat.le_refl _, fun _ _ => rfl⟩
theorem SW.next {k : Nat} {L : List (SC × Value × Value)} {V : Value} {w wr : World} (f : SW k L V w wr) : SW (k + 1) L V w wr := ⟨f.own, fun i q hi hq => f.subW i q (by omega) hq, f.subN, f.apart, f.below⟩
theorem sw_of {l : List SC} {L : List (SC × Value × Value)} {V : Value} {w wr : World} (f : DS L.length L.length l L V w wr) : SW 0 L V w wr :=
  ⟨f.own, fun i q _ hq => f.subW i q (List.getElem?_eq_some_iff.1 hq).1 hq, fun i q hq => f.subN i q (List.getElem?_eq_some_iff.1 hq).1 hq, fun i j q q' b hij hq hq' hb => f.apart i j q q' b (List.getElem?_eq_some_iff.1 hq).1 (List.getElem?_eq_some_iff.1 hq').1 hij hq hq' hb, f.below⟩
theorem SW.poke {k : Nat} {L : List (SC × Value × Value)} {V : Value} {w wr : World} {q : SC × Value × Value} {g : Nat} (f : SW k L V w wr) (hq : L[k]? = some q) (hg : q.2.1.ownBlock = some g) (v : Value) : SW (k + 1) L V w (wr.setCell ⟨g, 1, none⟩ v) := by
  have j : Just g wr (wr.setCell ⟨g, 1, none⟩ v) := (Just.refl g wr).setCell 1 v
  have hs := f.subW k q (Nat.le_refl _) hq
  refine ⟨row_beside f.own j (own_two f.own hs (by decide) hg), fun i q' hi hq' => row_beside (f.subW i q' (by omega) hq') j fun b hb e => ?_, fun i q' hq' => row_beside (f.subN i q' hq') j (own_two (f.subN i q' hq') hs (by decide) hg), f.apart, f.below.setCell (hs.lt g hg).1 v⟩
  subst e
  exact f.apart k i q q' b (by omega) hq hq' hg hb
theorem acts_poke {W : World} {B g c : Nat} {x : A3} {ws : List A3} (h : W.ownsRow B 59 3 (.slice (some ⟨g, 0, none⟩) (x :: ws).length c) (x :: ws).length (flatA (x :: ws))) (v : Int) :
    (W.setCell ⟨g, 1, none⟩ (.int .i64 v)).ownsRow B 59 3 (.slice (some ⟨g, 0, none⟩) ((⟨x.s, v, x.a⟩ : A3) :: ws).length c) ((⟨x.s, v, x.a⟩ : A3) :: ws).length (flatA (⟨x.s, v, x.a⟩ :: ws)) := (h.stored 1 (.int .i64 v)).1
theorem poke_cell1 {W : World} {g : Nat} {v : Value} {a : Addr} {u : Value} (h : W.cell? a = some u) (hne : a.block ≠ g) : (W.setCell ⟨g, 1, none⟩ v).cell? a = some u := by
  rw [← h]
  exact World.cell?_of_block (heap_setCell_other W ⟨g, 1, none⟩ a.block v hne)
set_option maxRecDepth 8000 in
theorem slice_one (w : World) (y : Addr) (n c m : Nat) (h : m + 1 ≤ c) : (Instr.slice 23 (.slice (some y) n c) (some (.int .i64 (m : Int))) (some (.int .i64 ((m : Int) + 1))) none).run Tryd.prog w = .ok (.slice (some (y.add (m * 4))) 1 (c - m)) w := by
  rw [run_slice_lh (P := Tryd.prog) w 23 (some y) n c rfl .i64 .i64 (m : Int) ((m : Int) + 1) (by omega) (by omega) (by omega)]
  have hc : ¬ c - m = 0 := by omega
  go_simp
  intro e
  omega
theorem scd_one {W : World} {y : Addr} {m : Nat} {x : SC} {B C : Option Addr} {cb cc : Nat} (c1 : W.cell? (y.add (m * 4)) = some (.int .i64 x.id)) (c2 : W.cell? ⟨(y.add (m * 4)).block, (y.add (m * 4)).off + 1, none⟩ = some (.int .i64 x.fr)) (c3 : W.cell? ⟨(y.add (m * 4)).block, (y.add (m * 4)).off + 2, none⟩ = some (.slice B x.ws.length cb)) (c4 : W.cell? ⟨(y.add (m * 4)).block, (y.add (m * 4)).off + 3, none⟩ = some (.slice C x.ns.length cc))
    (h : HasR W x B cb C cc) : ScdAt W (some (y.add (m * 4))) [x] := by
  intro i z hz
  rcases (show i = 0 ∨ 1 ≤ i by omega) with rfl | hi
  · obtain rfl : x = z := by simpa using hz
    have e : (y.add (m * 4)).add (0 * 4) = y.add (m * 4) := by rw [Nat.zero_mul]; rfl
    refine ⟨_, B, cb, C, cc, rfl, ?_, ?_, ?_, ?_, h⟩
    all_goals rw [e]
    all_goals assumption
  · rw [List.getElem?_eq_none (by simpa using hi)] at hz; cases hz
theorem xor_ne {v : Int} (h : I64 v) : bits .xor .i64 v 1 ≠ v := by
  intro e
  have e' : IntKind.i64.wrap ((BitVec.ofInt 64 v ^^^ BitVec.ofInt 64 1).toNat : Int) = v := e
  obtain ⟨X, hX⟩ : ∃ X, BitVec.ofInt 64 v ^^^ BitVec.ofInt 64 1 = X := ⟨_, rfl⟩
  rw [hX, IntKind.wrap_i64] at e'
  have hlt : X.toNat < 18446744073709551616 := X.isLt
  have hA : BitVec.ofInt 64 v = X := by
    apply BitVec.eq_of_toNat_eq
    rw [BitVec.toNat_ofInt]
    have h2 : ((2 ^ 64 : Nat) : Int) = 18446744073709551616 := rfl
    rw [h2]
    omega
  rw [← hA] at hX
  have h3 := congrArg (fun b => b.getLsbD 0) hX
  have h4 : (BitVec.ofInt 64 1).getLsbD 0 = true := by decide
  simp only [BitVec.getLsbD_xor, h4] at h3
  cases h5 : (BitVec.ofInt 64 v).getLsbD 0 <;> rw [h5] at h3 <;> cases h3
theorem own_has {w : World} {T : TypeId} {B c : Nat} {A : Option Addr} {l : List A3} (h : w.ownsRow B T 3 (.slice A l.length c) l.length (flatA l)) : ActsAt w A l ∧ (A = none → c = 0) ∧ l.length ≤ c ∧ c ≤ maxLen := by
  obtain ⟨A', c', e, h'⟩ := own_at3 h
  obtain ⟨rfl, _, rfl⟩ : A = A' ∧ True ∧ c = c' := by injection e with e1 e2 e3; exact ⟨e1, trivial, e3⟩
  exact h'
theorem eqA_refl (x : A3) : eqA x x = true := by simp [eqA]
theorem allA_refl (l : List A3) : allEq eqA l l = true := allEq_yes _ _ _ rfl fun i a b h1 h2 => by rw [h1] at h2; obtain rfl := Option.some.inj h2; exact eqA_refl _
theorem eqS_refl (x : SC) : eqS x x = true := by unfold eqS; rw [allA_refl, allA_refl]; simp
theorem allS_refl (l : List SC) : allEq eqS l l = true := allEq_yes _ _ _ rfl fun i a b h1 h2 => by rw [h1] at h2; obtain rfl := Option.some.inj h2; exact eqS_refl _
/-- The two schedules' own blocks, and what was there. -/
structure FH (w : World) (ca cb : Array Value) (W : World) : Prop where
  a : W.heap[w.heap.size]? = some (.cells ca 51 (0, 0))
  b : W.heap[w.heap.size + 1]? = some (.cells cb 51 (0, 0))
  below : Below w.heap.size w W
theorem FH.keep {w W W' : World} {ca cb : Array Value} (f : FH w ca cb W) (b : Below W.heap.size W W') : FH w ca cb W' :=
  ⟨(b.block _ (lt_of_block f.a)).trans f.a, (b.block _ (lt_of_block f.b)).trans f.b, f.below.trans (b.mono f.below.size)⟩
theorem FH.al {w W : World} {ca cb : Array Value} (f : FH w ca cb W) (o : Obj) : FH w ca cb (W.alloc o) := f.keep ((Below.refl _ _).alloc (Nat.le_refl _) o)
theorem FH.dr {w W : World} {ca cb : Array Value} (f : FH w ca cb W) : FH w ca cb W.drew := f.keep ⟨rfl, rfl, rfl, Nat.le_refl _, fun _ _ => rfl⟩
theorem FH.drN {w W : World} {ca cb : Array Value} (f : FH w ca cb W) (n : Nat) : FH w ca cb (W.drewN n) := f.keep ⟨rfl, rfl, rfl, Nat.le_refl _, fun _ _ => rfl⟩
theorem FH.cells {w W : World} {x0 x1 x2 x3 y0 y1 y2 y3 : Value} (f : FH w #[x0, x1, x2, x3] #[y0, y1, y2, y3] W) : (W.cell? ⟨w.heap.size, 0, none⟩ = some x0 ∧ W.cell? ⟨w.heap.size, 1, none⟩ = some x1 ∧ W.cell? ⟨w.heap.size, 2, none⟩ = some x2 ∧ W.cell? ⟨w.heap.size, 3, none⟩ = some x3) ∧ W.cell? ⟨w.heap.size + 1, 0, none⟩ = some y0 ∧ W.cell? ⟨w.heap.size + 1, 1, none⟩ = some y1 ∧ W.cell? ⟨w.heap.size + 1, 2, none⟩ = some y2 ∧ W.cell? ⟨w.heap.size + 1, 3, none⟩ = some y3 := by
  refine ⟨⟨?_, ?_, ?_, ?_⟩, ?_, ?_, ?_, ?_⟩
  all_goals first
    | (rw [cell_of_row W _ _ _ _ _ f.a]; rfl)
    | (rw [cell_of_row W _ _ _ _ _ f.b]; rfl)
theorem k8 {a b c d e f g h : Prop} (k : (a ∧ b ∧ c ∧ d) ∧ e ∧ f ∧ g ∧ h) : a ∧ b ∧ c ∧ d ∧ e ∧ f ∧ g ∧ h := ⟨k.1.1, k.1.2.1, k.1.2.2.1, k.1.2.2.2, k.2⟩
def SRel (l : List SC) (id : Int) (w : World) (ca cb : Array Value) (v sm i : Value) (wr : World) : Prop := ∃ k : Nat, k ≤ l.length ∧ i = .int .i64 k ∧ FH w ca cb wr ∧
  ((v = .int .i64 0 ∧ sm = .bool false ∧ ∀ (j : Nat) (y : SC), j < k → l[j]? = some y → (y.id == id) = false) ∨ ∃ o : Nat, v = .int .i64 o ∧ sm = .bool true ∧ fiS id l = some o)
set_option maxRecDepth 8000 in
set_option maxHeartbeats 6000000 in
theorem walk (a0 : Option Addr) (len0 cap0 : Nat) (a1 : Int) (a2 : Array Value) (a3 : Array Value) (w : World) (w0 : IsRows w a0 len0 cap0 [.one (.int .i64), .one (.int .i64), .recs [.int .i64, .int .i64, .int .i64], .recs [.int .i64, .int .i64, .int .i64]]) (w1 : (Lit.int .i64 a1).wf = true) (w2 : IsAgg w [.one (.int .i64), .one (.int .i64), .recs [.int .i64, .int .i64, .int .i64], .recs [.int .i64, .int .i64, .int .i64]] a2) (w3 : IsAgg w [.one (.int .i64), .one (.int .i64), .recs [.int .i64, .int .i64, .int .i64], .recs [.int .i64, .int .i64, .int .i64]] a3) (hn : Go.Proofs.YtbcjkongcnpdlaaDoor.Flt.Names w) :
    Calls Tryd.prog 5 #[.slice a0 len0 cap0, .int .i64 a1, .agg a2, .agg a3] w fun e w' => e = .returned (.bool true) ∧ Below w.heap.size w w' := by
  have HN := Lib.hid hn
  clear hn w1
  obtain ⟨l, hll, hpa, hwd, hlc0, hcm0⟩ := scheds_of w0
  obtain ⟨x, XA, xc, XB, xd, rfl, hx1, hx5⟩ := sched_of w2
  obtain ⟨y, YA, yc, YB, yd, rfl, hy1, hy5⟩ := sched_of w3
  have hl0 : len0 ≤ maxLen := Nat.le_trans hlc0 hcm0
  have hnil0 : a0 = none → cap0 = 0 := by
    rcases w0 with ⟨_, _, h⟩ | ⟨y, h, _⟩
    · exact fun _ => h
    · exact fun e => by rw [h] at e; cases e
  have HNC := Lib.hid (And.intro hnil0 hlc0)
  have hba : Below w.heap.size w ((w.alloc (.cells #[.int .i64 x.id, .int .i64 x.fr, .slice XA x.ws.length xc, .slice XB x.ns.length xd] 51)).alloc (.cells #[.int .i64 y.id, .int .i64 y.fr, .slice YA y.ws.length yc, .slice YB y.ns.length yd] 51)) := two_below w _ _
  have hra : ((w.alloc (.cells #[.int .i64 x.id, .int .i64 x.fr, .slice XA x.ws.length xc, .slice XB x.ns.length xd] 51)).alloc (.cells #[.int .i64 y.id, .int .i64 y.fr, .slice YA y.ws.length yc, .slice YB y.ns.length yd] 51)).heap[w.heap.size]? = some (.cells #[.int .i64 x.id, .int .i64 x.fr, .slice XA x.ws.length xc, .slice XB x.ns.length xd] 51 (0, 0)) := (heap_alloc_old _ _ (by simp)).trans (heap_alloc_new _ _)
  have hrb := Hdr.second_new w (.cells #[.int .i64 x.id, .int .i64 x.fr, .slice XA x.ws.length xc, .slice XB x.ns.length xd] 51) (.cells #[.int .i64 y.id, .int .i64 y.fr, .slice YA y.ws.length yc, .slice YB y.ns.length yd] 51)
  have HLG := Lib.hid (long_any a0 cap0 l _ (hpa.kept hba) (by rw [hll]; exact hl0))
  rw [hll] at HLG
  have HBA := Lib.hid hba
  have HRA := Lib.hid hra
  have HRB := Lib.hid hrb
  have HPA := Lib.hid hpa
  have HWD := Lib.hid hwd
  have HLL := Lib.hid hll
  have HX : Hid (HasR w x XA xc XB xd) := hx1
  have HY : Hid (HasR w y YA yc YB yd) := hy1
  have HXW := Lib.hid hx5
  have HYW := Lib.hid hy5
  have HSIZ := Lib.hid size_sc
  clear w0 w2 w3 hll hpa hwd hlc0 hcm0 hnil0 hx1 hx5 hy1 hy5 hba hra hrb hl0
  go_enter Tryd.func5, Tryd.ntmps5
  go_wp2_with fail
  refine HLG.out.mono ?_
  rintro e w1 ⟨b, rfl, hsh, hb1⟩
  have HB1 := Lib.hid hb1
  have HSH := Lib.hid hsh
  clear hb1 hsh HLG
  cases b
  · have HS0 := Lib.hid (HSH.out rfl)
    have hf1 : FH w #[.int .i64 x.id, .int .i64 x.fr, .slice XA x.ws.length xc, .slice XB x.ns.length xd] #[.int .i64 y.id, .int .i64 y.fr, .slice YA y.ws.length yc, .slice YB y.ns.length yd] w1 := (FH.mk HRA.out HRB.out HBA.out).keep HB1.out
    have HF1 := Lib.hid hf1
    have hb2 : Below w1.heap.size w1 (w1.alloc (.cells #[.int .i64 x.id, .int .i64 x.fr, .slice XA x.ws.length xc, .slice XB x.ns.length xd, .int .i64 y.id, .int .i64 y.fr, .slice YA y.ws.length yc, .slice YB y.ns.length yd] 51)) := (Below.refl _ _).alloc (Nat.le_refl _) _
    have HF2 := Lib.hid (hf1.keep hb2)
    have HXK : Hid (∀ W, Below w.heap.size w W → HasR W x XA xc XB xd) := fun W b => HX.out.kept b
    have HYK : Hid (∀ W, Below w.heap.size w W → HasR W y YA yc YB yd) := fun W b => HY.out.kept b
    have HLG := Lib.hid (long_any (some ⟨w1.heap.size, 0, none⟩) 2 [x, y] _ (laid_two (heap_alloc_new w1 _) (HXK.out _ HF2.out.below) (HYK.out _ HF2.out.below)) (by show 2 ≤ maxLen; unfold maxLen; omega))
    obtain ⟨LX, hLX⟩ : ∃ n, x.ws.length = n := ⟨_, rfl⟩
    obtain ⟨LY, hLY⟩ : ∃ n, y.ws.length = n := ⟨_, rfl⟩
    obtain ⟨MX, hMX⟩ : ∃ n, x.ns.length = n := ⟨_, rfl⟩
    obtain ⟨MY, hMY⟩ : ∃ n, y.ns.length = n := ⟨_, rfl⟩
    have HLX := Lib.hid hLX
    have HLY := Lib.hid hLY
    have HMX := Lib.hid hMX
    have HMY := Lib.hid hMY
    rw [hLX, hLY, hMX, hMY] at HF1 HF2 HLG
    rw [hLX, hLY, hMX, hMY]
    clear hf1 hb2 HSH HBA HRA HRB HB1 hLX hLY hMX hMY
    obtain ⟨⟨q0, q1, q2, q3⟩, p0, p1, p2, p3⟩ := HF1.out.cells
    go_wp2_with fail
    refine HLG.out.mono ?_
    rintro e w2 ⟨b, rfl, hsh, hb2⟩
    have HF3 := Lib.hid (HF2.out.keep hb2)
    have HSH := Lib.hid hsh
    clear hb2 hsh HLG
    cases b
    · have HS1 := Lib.hid (HSH.out rfl)
      clear HSH q0 q1 q2 q3 p0 p1 p2 p3 HF1 HF2
      go_wp2
      go_loopw [9, 10, 28] (fun v sm i wr => SRel l a1 w #[.int .i64 x.id, .int .i64 x.fr, .slice XA LX xc, .slice XB MX xd] #[.int .i64 y.id, .int .i64 y.fr, .slice YA LY yc, .slice YB MY yd] v sm i wr) (fun _ _ i _ => len0 - (intOf i).toNat)
      case atStart => exact ⟨0, Nat.zero_le _, rfl, HF3.out, .inl ⟨rfl, rfl, fun j y hj => by omega⟩⟩
      case round =>
        obtain ⟨k, hk, rfl, hf, hor⟩ := hrel
        have HF := Lib.hid hf
        have hka : k ≤ len0 := by rw [← HLL.out]; exact hk
        have hlm : len0 ≤ 20 := by rw [← HLL.out]; exact HS0.out.1
        clear hf hk HF3
        by_cases hlt : k < len0
        · obtain ⟨z, hz⟩ : ∃ z, l[k]? = some z := ⟨_, List.getElem?_eq_getElem (by rw [HLL.out]; exact hlt)⟩
          obtain ⟨ax, B, c, C, cc, rfl, c1, c2, c3, c4, _⟩ := (HPA.out.kept HF.out.below) k z hz
          have HZ := Lib.hid hz
          have hki : (0 : Int) ≤ k := by omega
          have hkb : (k : Int) < len0 := by omega
          have HFA : Hid (∀ o, FH w #[.int .i64 x.id, .int .i64 x.fr, .slice XA LX xc, .slice XB MX xd] #[.int .i64 y.id, .int .i64 y.fr, .slice YA LY yc, .slice YB MY yd] (wr.alloc o)) := fun o => HF.out.keep ((Below.refl _ _).alloc (Nat.le_refl _) o)
          cases t : (z.id == a1) with
          | true =>
            have HT := Lib.hid t
            rcases hor with ⟨rfl, rfl, hall⟩ | ⟨o, rfl, rfl, ho⟩
            · have HO := Lib.hid (fs_hit a1 l k z hz t hall)
              clear hall hz
              go_wp2
              go_roundw
              case rel => exact ⟨k + 1, by rw [HLL.out]; omega, by go_num, HFA.out _, .inr ⟨k, rfl, rfl, HO.out⟩⟩
              case measure => simp [intOf]; omega
            · have HO := Lib.hid ho
              clear ho hz
              go_wp2
              go_roundw
              case rel => exact ⟨k + 1, by rw [HLL.out]; omega, by go_num, HFA.out _, .inr ⟨o, rfl, rfl, HO.out⟩⟩
              case measure => simp [intOf]; omega
          | false =>
            have HT := Lib.hid t
            have HOR : Hid ((_ ∧ _ ∧ ∀ (j : Nat) (y : SC), j < k + 1 → l[j]? = some y → (y.id == a1) = false) ∨ _) := hor.imp (fun h => ⟨h.1, h.2.1, fun j y hj hy => by
              by_cases hjk : j = k
              · subst hjk
                rw [hz] at hy
                obtain rfl := Option.some.inj hy
                exact t
              · exact h.2.2 j y (by omega) hy⟩) id
            clear hor hz
            go_wp2
            go_roundw
            case rel => exact ⟨k + 1, by rw [HLL.out]; omega, by go_num, HFA.out _, HOR.out⟩
            case measure => simp [intOf]; omega
        · obtain rfl : k = len0 := by omega
          have hvs := hor.elim (fun h => (⟨h.1.trans (by rw [fs_none a1 l (fun j y hy => h.2.2 j y (by rw [← HLL.out]; exact (List.getElem?_eq_some_iff.1 hy).1) hy)]; rfl), h.2.1.trans (by rw [fs_none a1 l (fun j y hy => h.2.2 j y (by rw [← HLL.out]; exact (List.getElem?_eq_some_iff.1 hy).1) hy)]; rfl)⟩ : _ = Value.int .i64 (fiV (fiS a1 l)) ∧ _ = Value.bool (fiS a1 l).isSome))
            (fun ⟨o, h1, h2, h3⟩ => ⟨h1.trans (by rw [h3]; rfl), h2.trans (by rw [h3]; rfl)⟩)
          obtain ⟨rfl, rfl⟩ := hvs
          have HFI := Lib.hid (sfind_any a0 cap0 l a1 wr (HPA.out.kept HF.out.below) (by have := HS0.out.1; omega))
          rw [HLL.out] at HFI
          obtain ⟨fv, hfv⟩ : ∃ fv, fiV (fiS a1 l) = fv := ⟨_, rfl⟩
          obtain ⟨fs, hfs⟩ : ∃ fs, (fiS a1 l).isSome = fs := ⟨_, rfl⟩
          rw [hfv, hfs] at HFI
          rw [hfv, hfs]
          have tfs : (fs != fs) = false := by cases fs <;> rfl
          have tfv : (fv != fv) = false := by simp
          have tRR : ∀ z : Int, (z != z) = false := fun z => by simp
          clear hor hfv hfs
          go_wp2_with fail
          refine HFI.out.mono ?_
          rintro e w3 ⟨rfl, hb3⟩
          have HF4 := Lib.hid (HF.out.keep hb3)
          clear hb3 HFI
          go_wp2
          obtain ⟨⟨q0, q1, q2, q3⟩, p0, p1, p2, p3⟩ := HF4.out.cells
          have HSM : Hid (∀ W, Below w.heap.size w W → Calls Tryd.prog 19 #[.agg #[.int .i64 x.id, .int .i64 x.fr, .slice XA LX xc, .slice XB MX xd], .agg #[.int .i64 y.id, .int .i64 y.fr, .slice YA LY yc, .slice YB MY yd]] W fun e w' => e = .returned (.bool (eqS x y)) ∧ Below W.heap.size W w') := fun W b => by
            have hx := HXK.out W b
            have hy := HYK.out W b
            have sx := HS1.out.2 x (by simp)
            have sy := HS1.out.2 y (by simp)
            have h := ssame_any x y XA YA XB YB xc yc xd yd W hx.1 hy.1 hx.2.2.2.2.1 hy.2.2.2.2.1 (by omega) (by unfold maxLen; omega) (by omega) (by unfold maxLen; omega)
            rw [HLX.out, HLY.out, HMX.out, HMY.out] at h
            exact h
          have HSS : Hid (∀ W, Below w.heap.size w W → Calls Tryd.prog 19 #[.agg #[.int .i64 x.id, .int .i64 x.fr, .slice XA LX xc, .slice XB MX xd], .agg #[.int .i64 x.id, .int .i64 x.fr, .slice XA LX xc, .slice XB MX xd]] W fun e w' => e = .returned (.bool true) ∧ Below W.heap.size W w') := fun W b => by
            have hx := HXK.out W b
            have sx := HS1.out.2 x (by simp)
            have h := ssame_any x x XA XA XB XB xc xc xd xd W hx.1 hx.1 hx.2.2.2.2.1 hx.2.2.2.2.1 (by omega) (by unfold maxLen; omega) (by omega) (by unfold maxLen; omega)
            rw [HLX.out, HMX.out, eqS_refl] at h
            exact h
          have HRG : Hid (∀ W, Below w.heap.size w W → Calls Tryd.prog 20 #[.agg #[.int .i64 x.id, .int .i64 x.fr, .slice XA LX xc, .slice XB MX xd]] W fun e w' => e = .returned (.int .i64 (rgS x)) ∧ Below W.heap.size W w') := fun W b => by
            have hx := HXK.out W b
            have h := sright_any x XA xc XB xd W HXW.out.1 hx.1 hx.2.2.2.2.1 (fun y hy => (HXW.out.2.1 y hy).1) (fun y hy => (HXW.out.2.2 y hy).1) (by have := hx.2.2.1; have := hx.2.2.2.1; omega) (by have := hx.2.2.2.2.2.2.1; have := hx.2.2.2.2.2.2.2; omega)
            unfold scC at h
            rw [HLX.out, HMX.out] at h
            exact h
          have HR8 : Hid (∀ W, Below w.heap.size w W → Calls Tryd.prog 21 #[.agg #[.int .i64 x.id, .int .i64 x.fr, .slice XA LX xc, .slice XB MX xd]] W fun e w' => e = .returned (.int .i64 (rgS x)) ∧ Below W.heap.size W w') := fun W b => by
            have hx := HXK.out W b
            have h := sright09_any x XA xc XB xd W hx.1 hx.2.2.2.2.1 (by have := hx.2.2.1; have := hx.2.2.2.1; omega) (by have := hx.2.2.2.2.2.2.1; have := hx.2.2.2.2.2.2.2; omega)
            unfold scC at h
            rw [HLX.out, HMX.out] at h
            exact h
          obtain ⟨E, hE⟩ : ∃ E, eqS x y = E := ⟨_, rfl⟩
          have HRS : Hid (∀ W G1 G2, W.heap[G1]? = some (.cells #[.int .i64 x.id, .int .i64 x.fr, .slice XA LX xc, .slice XB MX xd] 51 (0, 0)) → W.heap[G2]? = some (.cells #[.int .i64 y.id, .int .i64 y.fr, .slice YA LY yc, .slice YB MY yd] 51 (0, 0)) → Below w.heap.size w W →
              Calls Tryd.prog 14 #[.slice (some ⟨G1, 0, none⟩) 1 1, .slice (some ⟨G2, 0, none⟩) 1 1] W fun e w' => e = .returned (.bool E) ∧ ∃ n, w' = W.drewN n) := fun W G1 G2 h1 h2 b => by
            rw [← HLX.out, ← HMX.out] at h1
            rw [← HLY.out, ← HMY.out] at h2
            have h := same09g_any (some ⟨G1, 0, none⟩) (some ⟨G2, 0, none⟩) 1 1 [x] [y] W (laid_one h1 (HXK.out W b)) (laid_one h2 (HYK.out W b)) (by show 1 ≤ maxLen; unfold maxLen; omega) (by show 1 ≤ maxLen; unfold maxLen; omega)
            have e : allEq eqS [x] [y] = E := by rw [← hE]; simp [allEq]
            rw [e] at h
            exact h
          rw [hE] at HSM
          have tEE : (E != E) = false := by cases E <;> rfl
          obtain ⟨R, hR⟩ : ∃ R, rgS x = R := ⟨_, rfl⟩
          rw [hR] at HRG HR8
          clear hE hR
          have HSMF : Hid (∀ W, FH w #[.int .i64 x.id, .int .i64 x.fr, .slice XA LX xc, .slice XB MX xd] #[.int .i64 y.id, .int .i64 y.fr, .slice YA LY yc, .slice YB MY yd] W → Calls Tryd.prog 19 #[.agg #[.int .i64 x.id, .int .i64 x.fr, .slice XA LX xc, .slice XB MX xd], .agg #[.int .i64 y.id, .int .i64 y.fr, .slice YA LY yc, .slice YB MY yd]] W fun e w' => e = .returned (.bool E) ∧ FH w #[.int .i64 x.id, .int .i64 x.fr, .slice XA LX xc, .slice XB MX xd] #[.int .i64 y.id, .int .i64 y.fr, .slice YA LY yc, .slice YB MY yd] w' ∧ Below W.heap.size W w') := fun W f => (HSM.out W f.below).mono fun e w' h => ⟨h.1, f.keep h.2, h.2⟩
          have HSSF : Hid (∀ W, FH w #[.int .i64 x.id, .int .i64 x.fr, .slice XA LX xc, .slice XB MX xd] #[.int .i64 y.id, .int .i64 y.fr, .slice YA LY yc, .slice YB MY yd] W → Calls Tryd.prog 19 #[.agg #[.int .i64 x.id, .int .i64 x.fr, .slice XA LX xc, .slice XB MX xd], .agg #[.int .i64 x.id, .int .i64 x.fr, .slice XA LX xc, .slice XB MX xd]] W fun e w' => e = .returned (.bool true) ∧ FH w #[.int .i64 x.id, .int .i64 x.fr, .slice XA LX xc, .slice XB MX xd] #[.int .i64 y.id, .int .i64 y.fr, .slice YA LY yc, .slice YB MY yd] w') := fun W f => (HSS.out W f.below).mono fun e w' h => ⟨h.1, f.keep h.2⟩
          have HRGF : Hid (∀ W, FH w #[.int .i64 x.id, .int .i64 x.fr, .slice XA LX xc, .slice XB MX xd] #[.int .i64 y.id, .int .i64 y.fr, .slice YA LY yc, .slice YB MY yd] W → Calls Tryd.prog 20 #[.agg #[.int .i64 x.id, .int .i64 x.fr, .slice XA LX xc, .slice XB MX xd]] W fun e w' => e = .returned (.int .i64 R) ∧ FH w #[.int .i64 x.id, .int .i64 x.fr, .slice XA LX xc, .slice XB MX xd] #[.int .i64 y.id, .int .i64 y.fr, .slice YA LY yc, .slice YB MY yd] w') := fun W f => (HRG.out W f.below).mono fun e w' h => ⟨h.1, f.keep h.2⟩
          have HR8F : Hid (∀ W, FH w #[.int .i64 x.id, .int .i64 x.fr, .slice XA LX xc, .slice XB MX xd] #[.int .i64 y.id, .int .i64 y.fr, .slice YA LY yc, .slice YB MY yd] W → Calls Tryd.prog 21 #[.agg #[.int .i64 x.id, .int .i64 x.fr, .slice XA LX xc, .slice XB MX xd]] W fun e w' => e = .returned (.int .i64 R) ∧ FH w #[.int .i64 x.id, .int .i64 x.fr, .slice XA LX xc, .slice XB MX xd] #[.int .i64 y.id, .int .i64 y.fr, .slice YA LY yc, .slice YB MY yd] w') := fun W f => (HR8.out W f.below).mono fun e w' h => ⟨h.1, f.keep h.2⟩
          have HRSF : Hid (∀ W G1 G2, W.heap[G1]? = some (.cells #[.int .i64 x.id, .int .i64 x.fr, .slice XA LX xc, .slice XB MX xd] 51 (0, 0)) → W.heap[G2]? = some (.cells #[.int .i64 y.id, .int .i64 y.fr, .slice YA LY yc, .slice YB MY yd] 51 (0, 0)) → FH w #[.int .i64 x.id, .int .i64 x.fr, .slice XA LX xc, .slice XB MX xd] #[.int .i64 y.id, .int .i64 y.fr, .slice YA LY yc, .slice YB MY yd] W → Calls Tryd.prog 14 #[.slice (some ⟨G1, 0, none⟩) 1 1, .slice (some ⟨G2, 0, none⟩) 1 1] W fun e w' => e = .returned (.bool E) ∧ FH w #[.int .i64 x.id, .int .i64 x.fr, .slice XA LX xc, .slice XB MX xd] #[.int .i64 y.id, .int .i64 y.fr, .slice YA LY yc, .slice YB MY yd] w') := fun W G1 G2 h1 h2 f => (HRS.out W G1 G2 h1 h2 f.below).mono fun e w' h => ⟨h.1, by obtain ⟨_, n, rfl⟩ := h; exact f.drN n⟩
          clear HSM HSS HRG HR8 HRS
          go_cut [80] from 49 to 80 (fun b wx => b = .bool false ∧ FH w #[.int .i64 x.id, .int .i64 x.fr, .slice XA LX xc, .slice XB MX xd] #[.int .i64 y.id, .int .i64 y.fr, .slice YA LY yc, .slice YB MY yd] wx)
          case first =>
            go_region_held3 (fun wx => wx.cell? ⟨w.heap.size, 0, none⟩ = some (.int .i64 x.id) ∧ wx.cell? ⟨w.heap.size, 1, none⟩ = some (.int .i64 x.fr) ∧ wx.cell? ⟨w.heap.size, 2, none⟩ = some (.slice XA LX xc) ∧ wx.cell? ⟨w.heap.size, 3, none⟩ = some (.slice XB MX xd) ∧ wx.cell? ⟨w.heap.size + 1, 0, none⟩ = some (.int .i64 y.id) ∧ wx.cell? ⟨w.heap.size + 1, 1, none⟩ = some (.int .i64 y.fr) ∧ wx.cell? ⟨w.heap.size + 1, 2, none⟩ = some (.slice YA LY yc) ∧ wx.cell? ⟨w.heap.size + 1, 3, none⟩ = some (.slice YB MY yd)) (first | (go_keep; done) | exact HKP.out | (refine ⟨?_, ?_, ?_, ?_, ?_, ?_, ?_, ?_⟩ <;> assumption))
              (first
                | (go_at_call 19; (with_reducible refine (HSMF.out _ ?hf).mono ?_); (case hf => first | exact HF4.out.dr | exact (HF4.out.al _).dr | exact HF4.out.dr.al _ | exact ((HF4.out.al _).al _).dr | exact (HF4.out.dr.al _).al _); rintro e w5 ⟨rfl, hf5, hb5⟩; have HP5 := Lib.hid hf5; have HB5 := Lib.hid hb5; have HKP := Lib.hid (k8 hf5.cells); clear hf5 hb5)
                | (go_at_call 14; (with_reducible refine (HRSF.out _ _ _ ?h1 ?h2 ?h3).mono ?_); (case h1 => first | exact (heap_alloc_old _ _ (by simp)).trans (heap_alloc_new _ _) | exact Hdr.second_new _ _ _ | exact heap_alloc_new _ _ | exact (heap_alloc_old _ _ (by have := HB5.out.size; simp at this; omega)).trans ((HB5.out.block _ (by simp)).trans (heap_alloc_new _ _)) | exact (HB5.out.block _ (by simp)).trans (heap_alloc_new _ _) | exact (HB5.out.block _ (by simp; omega)).trans ((heap_alloc_old _ _ (by simp)).trans (heap_alloc_new _ _)) | exact (HB5.out.block _ (by simp)).trans (Hdr.second_new _ _ _)); (case h2 => first | exact (heap_alloc_old _ _ (by simp)).trans (heap_alloc_new _ _) | exact Hdr.second_new _ _ _ | exact heap_alloc_new _ _ | exact (heap_alloc_old _ _ (by have := HB5.out.size; simp at this; omega)).trans ((HB5.out.block _ (by simp)).trans (heap_alloc_new _ _)) | exact (HB5.out.block _ (by simp)).trans (heap_alloc_new _ _) | exact (HB5.out.block _ (by simp; omega)).trans ((heap_alloc_old _ _ (by simp)).trans (heap_alloc_new _ _)) | exact (HB5.out.block _ (by simp)).trans (Hdr.second_new _ _ _)); (case h3 => first | exact (HP5.out.al _).al _ | exact HP5.out.al _ | exact HP5.out); rintro e w6 ⟨rfl, hf6⟩; have HP6 := Lib.hid hf6; have HKP := Lib.hid (k8 hf6.cells); clear hf6)
                | (go_at_call 19; (with_reducible refine (HSSF.out _ HP6.out).mono ?_); rintro e w7 ⟨rfl, hf7⟩; have HP7 := Lib.hid hf7; have HKP := Lib.hid (k8 hf7.cells); clear hf7)
                | (go_at_call 20; (with_reducible refine (HRGF.out _ HP7.out).mono ?_); rintro e w8 ⟨rfl, hf8⟩; have HP8 := Lib.hid hf8; have HKP := Lib.hid (k8 hf8.cells); clear hf8)
                | (go_at_call 21; (with_reducible refine (HR8F.out _ HP8.out).mono ?_); rintro e w9 ⟨rfl, hf9⟩; have HP9 := Lib.hid hf9; have HKP := Lib.hid (k8 hf9.cells); clear hf9)
                | fail)
            all_goals
              go_wp2
              go_meet
              case rel => exact ⟨rfl, HP9.out⟩
          case rest =>
          obtain ⟨rfl, hf⟩ := hcut
          have HF9 := Lib.hid hf
          have hcl := sclone_any a0 cap0 l _ (HPA.out.kept hf.below) HNC.out.1 (by rw [HLL.out]; exact HNC.out.2) (by have := HS0.out.1; omega) (fun z hz => by have := HS0.out.2 z hz; omega)
          rw [HLL.out] at hcl
          have HCL := Lib.hid hcl
          clear hf hcl HSMF HSSF HRGF HR8F HRSF HF4
          go_wp2_with fail
          refine HCL.out.mono ?_
          rintro e w13 ⟨V, L, rfl, hd⟩
          have hsp := sw_of hd
          have hb13 : Below w.heap.size w w13 := HF9.out.below.trans (hd.below.mono HF9.out.below.size)
          obtain ⟨A, c, rfl, hpt, _⟩ := srows_at hd.own (fun q hq => by
            obtain ⟨i, hi, rfl⟩ := List.mem_iff_getElem.1 hq
            exact ⟨_, hd.subW i _ hi (List.getElem?_eq_getElem hi)⟩) (fun q hq => by
            obtain ⟨i, hi, rfl⟩ := List.mem_iff_getElem.1 hq
            exact ⟨_, hd.subN i _ hi (List.getElem?_eq_getElem hi)⟩)
          have hfst := hd.fst
          rw [hfst] at hpt
          have hLn : L.length = k := by have h := congrArg List.length hfst; rw [List.length_map, HLL.out] at h; exact h
          have hsm := same09g_any A a0 c cap0 l l w13 hpt (HPA.out.kept hb13) (by have := HS0.out.1; unfold maxLen; omega) (by have := HS0.out.1; unfold maxLen; omega)
          rw [allS_refl, HLL.out] at hsm
          rw [hfst, HLL.out] at hsp
          have HFST := Lib.hid hfst
          have HSP := Lib.hid hsp
          have HLN := Lib.hid hLn
          have HB13 := Lib.hid hb13
          have HSM2 := Lib.hid hsm
          rw [hfst, HLL.out]
          clear hd hsp hb13 hpt hfst hLn hsm HCL
          go_wp2_with (go_at_call 14; refine HSM2.out.mono ?_; rintro e w14 ⟨rfl, n14, rfl⟩)
          have HSD := Lib.hid (HSP.out.drewN n14)
          have HBD := Lib.hid (below_drewN HB13.out n14)
          clear HSP HSM2
          obtain ⟨wb, hwb⟩ : ∃ x, wc = x := ⟨_, rfl⟩
          have HBB : Hid (Below w.heap.size w wb) := by show Below _ _ _; rw [← hwb]; exact HF9.out.below
          rw [hwb] at HSD
          clear hwb HF9
          go_loopw [89] (fun i wr => ∃ m : Nat, m ≤ k ∧ i = .int .i64 m ∧ SW m L (.slice A k c) wb wr) (fun i _ => k - (intOf i).toNat)
          case atStart => exact ⟨0, Nat.zero_le _, rfl, HSD.out⟩
          case round =>
            obtain ⟨m, hm, rfl, hf⟩ := hrel
            have HF := Lib.hid hf
            clear hf HSD HBD
            have hbw : Below w.heap.size w wr := HBB.out.trans (HF.out.below.mono HBB.out.size)
            have HBW := Lib.hid hbw
            clear hbw
            by_cases hlt : m < k
            · obtain ⟨q, hq⟩ : ∃ q, L[m]? = some q := ⟨_, List.getElem?_eq_getElem (by rw [HLN.out]; exact hlt)⟩
              have hql : l[m]? = some q.1 := by rw [← HFST.out, List.getElem?_map, hq]; rfl
              obtain ⟨ay, B0, c0, C0, d0, rfl, _, _, dd3, _, _⟩ := (HPA.out.kept HBW.out) m q.1 hql
              obtain ⟨G, rfl⟩ : ∃ G, A = some ⟨G, 0, none⟩ := by
                rcases HF.out.own.2 with ⟨h, h0⟩ | ⟨g', c', cur, h, _⟩
                · rw [HLN.out] at h0; omega
                · cases h; exact ⟨_, rfl⟩
              have ho := HF.out.own
              rw [HLN.out] at ho
              have hkc : k ≤ c := by
                rcases ho.2 with ⟨h, _⟩ | ⟨g', c', cur, h, _, _, h3, _⟩
                · cases h
                · cases h; exact h3
              have g0 := flatS_get L m q 0 hq (by omega)
              have g1 := flatS_get L m q 1 hq (by omega)
              have g2 := flatS_get L m q 2 hq (by omega)
              have g3 := flatS_get L m q 3 hq (by omega)
              have e0 := (ho.cellAt (m * 4) (by omega)).trans g0
              have e1 := (ho.cellAt (m * 4 + 1) (by omega)).trans g1
              have e2 := (ho.cellAt (m * 4 + 2) (by omega)).trans g2
              have e3 := (ho.cellAt (m * 4 + 3) (by omega)).trans g3
              simp only [scL, List.getElem?_cons_zero, List.getElem?_cons_succ] at e0 e1 e2 e3
              have hsub := HF.out.subW m q (Nat.le_refl _) hq
              have hsubN := HF.out.subN m q hq
              obtain ⟨Bq, cq, hqv, _⟩ := own_at3 hsub
              obtain ⟨Cq, dq, hqw, _⟩ := own_at3 hsubN
              rw [hqv] at e2
              rw [hqw] at e3
              obtain ⟨ax, hax⟩ : ∃ ax : Addr, (⟨G, 0, none⟩ : Addr) = ax := ⟨_, rfl⟩
              have had : ∀ j, ax.add j = ⟨G, j, none⟩ := fun j => by rw [← hax]; exact add_at G j
              have c1 : wr.cell? (ax.add (m * 4)) = some (.int .i64 q.1.id) := by rw [had]; exact e0
              have c2 : wr.cell? ⟨(ax.add (m * 4)).block, (ax.add (m * 4)).off + 1, none⟩ = some (.int .i64 q.1.fr) := by rw [had]; exact e1
              have c3 : wr.cell? ⟨(ax.add (m * 4)).block, (ax.add (m * 4)).off + 2, none⟩ = some (.slice Bq q.1.ws.length cq) := by rw [had]; exact e2
              have c4 : wr.cell? ⟨(ax.add (m * 4)).block, (ax.add (m * 4)).off + 3, none⟩ = some (.slice Cq q.1.ns.length dq) := by rw [had]; exact e3
              have HAX := Lib.hid hax
              have HBK : Hid ((ax.add (m * 4)).block = G) := by show _ = _; rw [had]
              have hmi : (0 : Int) ≤ m := by omega
              have hmk : (m : Int) < k := by omega
              have hck : (m : Int) + 1 ≤ c := by omega
              have hcp : (m : Int) + 1 ≤ cap0 := by have := HNC.out.2; omega
              rw [hax]
              have HQ := Lib.hid hq
              have HQV := Lib.hid hqv
              have HQW := Lib.hid hqw
              have HSB := Lib.hid hsub
              have HSN := Lib.hid hsubN
              have HO := Lib.hid ho
              have hsh := (HS0.out.2 q.1 (List.mem_of_getElem? hql))
              have HWD2 := Lib.hid ((HWD.out q.1 (List.mem_of_getElem? hql)).2.1)
              clear ho g0 g1 g2 g3 e0 e1 e2 e3 hsub hsubN hqv hqw hax had hq hql
              obtain ⟨p, u, uN⟩ := q
              obtain ⟨pid, pfr, ws, ns⟩ := p
              dsimp only at c1 c2 c3 c4 dd3 HQV HQW HSB HSN hsh HWD2
              cases ws with
              | nil =>
                simp only [List.length_nil] at c3 dd3
                have HN1 := Lib.hid HF.out.next
                go_wp2
                go_roundw
                case rel => exact ⟨m + 1, by omega, by go_num, by rw [← HAX.out]; exact HN1.out⟩
                case measure => simp [intOf]; omega
              | cons z ws =>
                obtain ⟨g, rfl⟩ : ∃ g, Bq = some ⟨g, 0, none⟩ := by
                  rcases HSB.out.2 with ⟨_, h0⟩ | ⟨g', c', cur, h, _⟩
                  · simp at h0
                  · rw [HQV.out] at h; cases h; exact ⟨_, rfl⟩
                obtain rfl := HQV.out
                obtain rfl := HQW.out
                have hg0 := HSB.out.lt g rfl
                have hGg : G ≠ g := own_two HO.out HSB.out (by decide) rfl G rfl
                have e0 : wr.cell? ⟨g, 1, none⟩ = some (.int .i64 z.p) := by
                  have h := HSB.out.cellAt 1 (by simp; omega)
                  exact h
                have f0 : wr.frozen? ⟨g, 1, none⟩ = false := HSB.out.frozenAt 1
                obtain ⟨vN, hvN⟩ : ∃ v : Int, bits .xor .i64 z.p 1 = v := ⟨_, rfl⟩
                have hzp := (HWD2.out z (by simp)).2.1
                have hne : eqA ⟨z.s, vN, z.a⟩ z = false := by
                  have h := xor_ne hzp
                  rw [hvN] at h
                  unfold eqA; simp [h]
                have HSP2 := Lib.hid (HF.out.poke HQ.out rfl (.int .i64 vN))
                have hw5 := acts_poke HSB.out vN
                have k1 := poke_cell1 (v := .int .i64 vN) c1 (by rw [HBK.out]; exact hGg)
                have k2 := poke_cell1 (v := .int .i64 vN) c2 (by rw [HBK.out]; exact hGg)
                have k3 := poke_cell1 (v := .int .i64 vN) c3 (by rw [HBK.out]; exact hGg)
                have k4 := poke_cell1 (v := .int .i64 vN) c4 (by rw [HBK.out]; exact hGg)
                have hbW2 : Below w.heap.size w (wr.setCell ⟨g, 1, none⟩ (.int .i64 vN)) := HBB.out.trans ((HF.out.below.setCell hg0.1 _).mono HBB.out.size)
                obtain ⟨ay2, B2, c2', C2, d2', hay, n1, n2, n3, n4, hlr⟩ := (HPA.out.kept hbW2) m _ (show l[m]? = some _ by rw [← HFST.out, List.getElem?_map, HQ.out]; rfl)
                obtain rfl := Option.some.inj hay
                have hcs : ScdAt (wr.setCell ⟨g, 1, none⟩ (.int .i64 vN)) (some (ax.add (m * 4))) [⟨pid, pfr, ⟨z.s, vN, z.a⟩ :: ws, ns⟩] := by
                  have hN2 := HSP2.out.subN m _ HQ.out
                  obtain ⟨a1', a2', a3', a4'⟩ := own_has hw5
                  obtain ⟨b1', b2', b3', b4'⟩ := own_has hN2
                  exact scd_one k1 k2 k3 k4 ⟨a1', a2', a3', a4', b1', b2', b3', b4'⟩
                have hls : ScdAt (wr.setCell ⟨g, 1, none⟩ (.int .i64 vN)) (some (ay.add (m * 4))) [⟨pid, pfr, z :: ws, ns⟩] := scd_one n1 n2 n3 n4 hlr
                have HSC : Hid (∀ n, Calls Tryd.prog 14 #[.slice (some (ax.add (m * 4))) 1 (c - m), .slice (some (ay.add (m * 4))) 1 (cap0 - m)] ((wr.setCell ⟨g, 1, none⟩ (.int .i64 vN)).drewN n) fun e w' => e = .returned (.bool false) ∧ ∃ m, w' = ((wr.setCell ⟨g, 1, none⟩ (.int .i64 vN)).drewN n).drewN m) := fun n => by
                  have h := same09g_any (some (ax.add (m * 4))) (some (ay.add (m * 4))) (c - m) (cap0 - m) [⟨pid, pfr, ⟨z.s, vN, z.a⟩ :: ws, ns⟩] [⟨pid, pfr, z :: ws, ns⟩] ((wr.setCell ⟨g, 1, none⟩ (.int .i64 vN)).drewN n) (hcs.kept ⟨rfl, rfl, rfl, Nat.le_refl _, fun _ _ => rfl⟩) (hls.kept ⟨rfl, rfl, rfl, Nat.le_refl _, fun _ _ => rfl⟩) (by show 1 ≤ maxLen; unfold maxLen; omega) (by show 1 ≤ maxLen; unfold maxLen; omega)
                  have e : allEq eqS [(⟨pid, pfr, ⟨z.s, vN, z.a⟩ :: ws, ns⟩ : SC)] [⟨pid, pfr, z :: ws, ns⟩] = false := by simp [allEq, eqS, hne]
                  rw [e] at h
                  exact h
                have hs1 := fun W => slice_one W ax k c m (by omega)
                have hs2 := fun W => slice_one W ay k cap0 m (by omega)
                have hm1 : IntKind.i64.wrap ((m : Int) + 1) = (m : Int) + 1 := IntWalk.i64_in _ (by have := HS0.out.1; have := HLL.out; omega)
                obtain ⟨LC, hLC⟩ : ∃ n, (z :: ws).length = n := ⟨_, rfl⟩
                have hp : 0 < LC := by rw [← hLC]; simp
                have tp : decide ((0 : Int) < (LC : Int)) = true := decide_eq_true (by omega)
                have tp2 : decide (0 < LC) = true := decide_eq_true hp
                have hpi : (0 : Int) < (LC : Int) := by omega
                rw [hLC] at c3 dd3 k3
                clear hg0 hGg hzp hne hw5 n1 n2 n3 n4 hlr hcs hls k1 k2 k4 hLC hbW2 hay HSB HSN HO hsh HWD2
                go_wp2
                go_quiet ((go_at_call 14; exact Calls.quiet_of (HSC.out _)))
                go_wp2
                go_roundw
                case rel => exact ⟨m + 1, by omega, by go_num, by rw [← HAX.out]; exact HSP2.out.drewN _⟩
                case measure => simp [intOf]; omega
            · obtain rfl : m = k := by omega
              go_wp2_with (go_at_call 7; refine (Go.Proofs.YtbcjkongcnpdlaaDoor.Scd.awake_any _ (HN.out.kept HBW.out)).mono ?_; rintro e w' ⟨rfl, hb⟩; have HBE := Lib.hid (HBW.out.trans (hb.mono HBW.out.size)); clear hb)
              go_ret
              exact ⟨rfl, HBE.out⟩
    · go_wp2_with (go_at_call 7; refine (Go.Proofs.YtbcjkongcnpdlaaDoor.Scd.awake_any _ (HN.out.kept HF3.out.below)).mono ?_; rintro e w' ⟨rfl, hb⟩)
      go_ret
      exact ⟨rfl, HF3.out.below.trans (hb.mono HF3.out.below.size)⟩
  · go_wp2_with (go_at_call 7; refine (Go.Proofs.YtbcjkongcnpdlaaDoor.Scd.awake_any _ (HN.out.kept (HBA.out.trans (HB1.out.mono HBA.out.size)))).mono ?_; rintro e w' ⟨rfl, hb⟩)
    go_ret
    exact ⟨rfl, (HBA.out.trans (HB1.out.mono HBA.out.size)).trans (hb.mono (HBA.out.trans (HB1.out.mono HBA.out.size)).size)⟩

end Go.Proofs.YtbcjkongcnpdlaaDoor.schedsFinds
