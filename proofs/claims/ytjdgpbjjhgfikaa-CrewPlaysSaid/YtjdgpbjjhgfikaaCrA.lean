
/- A crew of partitions: where it lies, what stays, one partition more. Condition: at most a thousand partitions of a thousand cells each. -/

import Derived.Test.YtjdgpbjjhgfikaaMpw

import Derived.Test.YtjdgpbjjhgfikaaPtC

import Derived.Maps.AppendAt

namespace Go.Proofs.Ytjdgpbjjhgfikaa.Crw

open Go.RowKit Go.PlainAid Go.Proofs.Ytjdgpbjjhgfikaa.Args Go.Proofs.Ytjdgpbjjhgfikaa.Cel Go.Proofs.Ytjdgpbjjhgfikaa.Pt Go.Proofs.Ytjdgpbjjhgfikaa.Mpv

set_option linter.unusedVariables false

set_option linter.unusedSimpArgs false

/-- A partition of a crew: where it lies, what it is. -/
structure CP where
  lo : Nat
  hi : Nat
  d : PD
  s : PK
  m : Int
  st : Int
  ca : Int
  ns : List Nat
  wr : Int
def CP.On (p : CP) (w : World) : Prop := IsP w p.lo p.hi p.d p.s p.m p.st p.ca p.ns p.wr
def CP.ptr (p : CP) : Value := .pointer (some ⟨p.d.g, 0, none⟩)
def CP.off (p : CP) (j : Nat) : Prop := j < p.lo ∨ p.hi ≤ j
def fndP (L : List CP) (i : Int) : Option CP := L.find? (fun p => p.s.id == i)
theorem fnd_snoc (L : List CP) (p : CP) (h : ∀ q ∈ L, q.s.id < p.s.id) (i : Int) : fndP (L ++ [p]) i = if i = p.s.id then some p else fndP L i := by
  unfold fndP
  rw [List.find?_append]
  by_cases hi : i = p.s.id
  · subst hi
    rw [if_pos rfl, List.find?_eq_none.2 (fun q hq => by have := h q hq; simp; omega)]
    simp
  · rw [if_neg hi]
    have : (p.s.id == i) = false := by simp; exact fun e => hi e.symm
    simp [this]
/-- Block g is a crew of the partitions L, whose map is mb, whose ids are V. -/
structure IsW (w : World) (B g mb : Nat) (V : Value) (L : List CP) : Prop where
  box : w.heap[g]? = some (.cells #[.map (some mb), V] 88 (0, 0))
  mp : MapV w mb L.length (fun i => (fndP L i).map CP.ptr)
  row : w.ownsRow B 3 1 V L.length (L.map fun p => Value.int .i64 p.s.id)
  gB : B ≤ g
  mB : B ≤ mb
  gm : g ≠ mb
  vg : ∀ j, V.ownBlock = some j → j ≠ g ∧ j ≠ mb
  pt : ∀ p ∈ L, p.On w ∧ B ≤ p.lo ∧ p.off g ∧ p.off mb ∧ (∀ j, V.ownBlock = some j → p.off j) ∧ Mpv.I64 p.s.id ∧ p.s.n ≤ 1000
  ap : L.Pairwise fun p q => p.hi ≤ q.lo
  up : L.Pairwise fun p q => p.s.id < q.s.id
theorem rng_row {w w' : World} {b : Nat} (h : w.grownBy w' (some b)) : Rng b (b + 1) w w' :=
  ⟨h.os, h.tape, h.output, h.size, fun k hk h1 => h.block k hk (fun e => by have := Option.some.inj e; omega)⟩
theorem rng_set (w : World) (b o : Nat) (v : Value) : Rng b (b + 1) w (w.setCell ⟨b, o, none⟩ v) :=
  ⟨rfl, rfl, rfl, by simp, fun k _ h1 => heap_setCell_other w ⟨b, o, none⟩ k v (by show k ≠ b; omega)⟩
theorem CP.rng {p : CP} {w w' : World} {j : Nat} (h : p.On w) (r : Rng j (j + 1) w w') (o : p.off j) : p.On w' :=
  IsP.apart h r (by rcases o with o | o <;> omega)
theorem CP.grown {p : CP} {w w' : World} {R : Option Nat} (h : p.On w) (r : w.grownBy w' R) (o : ∀ j, R = some j → p.off j) : p.On w' := by
  cases R with
  | none => exact IsP.keep h ⟨r.os, r.tape, r.output, r.size, fun k hk => r.block k hk (by simp)⟩
  | some j => exact CP.rng h (rng_row r) (o j rfl)
theorem own_rng {w w' : World} {B e s n b : Nat} {v : Value} {xs : List Value} (h : w.ownsRow B e s v n xs) (r : Rng b (b + 1) w w') (o : ∀ j, v.ownBlock = some j → j ≠ b) : w'.ownsRow B e s v n xs := by
  refine h.kept (row := some b) ⟨r.os, r.tape, r.output, r.size, fun k hk h1 => r.block k hk (by have : k ≠ b := fun e => h1 (by rw [e]); omega)⟩ ?_
  cases hv : v.ownBlock with
  | none => exact .inl rfl
  | some j => exact .inr (fun e => o j hv (by have := Option.some.inj e; omega))
section

variable {w w' w1 w2 w3 : World} {B g mb : Nat} {V V' : Value} {L : List CP} {p : CP}

theorem IsW.keep (h : IsW w B g mb V L) (b : Below w.heap.size w w') : IsW w' B g mb V L :=
  ⟨(b.block _ (lt_of_block h.box)).trans h.box, h.mp.keep b, own_keep h.row b, h.gB, h.mB, h.gm, h.vg, fun p hp => ⟨IsP.keep (h.pt p hp).1 b, (h.pt p hp).2⟩, h.ap, h.up⟩
theorem IsW.drewN (h : IsW w B g mb V L) (k : Nat) : IsW (w.drewN k) B g mb V L := h.keep ⟨rfl, rfl, rfl, Nat.le_refl _, fun _ _ => rfl⟩
theorem IsW.c0 (h : IsW w B g mb V L) : w.cell? ⟨g, 0, none⟩ = some (.map (some mb)) := by rw [cell_of_row w _ _ _ _ _ h.box]; rfl
theorem IsW.c1 (h : IsW w B g mb V L) : w.cell? ⟨g, 1, none⟩ = some V := by rw [cell_of_row w _ _ _ _ _ h.box]; rfl
/-- What an addition leaves as it was. -/
def AddFrame (w : World) (g mb : Nat) (V : Value) (w' : World) (V' : Value) : Prop :=
  (∀ q : CP, q.On w → q.off g → q.off mb → (∀ j, V.ownBlock = some j → q.off j) → q.On w') ∧ (∀ k, k < w.heap.size → k ≠ g → k ≠ mb → V.ownBlock ≠ some k → w'.heap[k]? = w.heap[k]?) ∧ ∀ j, V'.ownBlock = some j → V.ownBlock = some j ∨ w.heap.size ≤ j
/-- One partition more, above all others. -/
theorem IsW.added (h : IsW w B g mb V L) (hp : p.On w) (hpB : B ≤ p.lo) (hpi : Mpv.I64 p.s.id) (hpn : p.s.n ≤ 1000)
    (hgl : p.off g) (hml : p.off mb) (hvl : ∀ j, V.ownBlock = some j → p.off j) (hql : ∀ q ∈ L, q.hi ≤ p.lo ∧ q.s.id < p.s.id)
    (hm : MapV w1 mb (L.length + 1) (fun i => if i = p.s.id then some p.ptr else (fndP L i).map CP.ptr)) (hg1 : w.grownBy w1 (some mb)) (hb : Below w1.heap.size w1 w2)
    (ho : w3.ownsRow B 3 1 V' (L.length + 1) ((L.map fun p => Value.int .i64 p.s.id) ++ [.int .i64 p.s.id])) (hg3 : w2.grownBy w3 V.ownBlock) (hat : V'.ownBlock = V.ownBlock ∨ V'.ownBlock = some w2.heap.size) :
    IsW (w3.setCell ⟨g, 1, none⟩ V') B g mb V' (L ++ [p]) ∧ Below B w (w3.setCell ⟨g, 1, none⟩ V') ∧ AddFrame w g mb V (w3.setCell ⟨g, 1, none⟩ V') V' := by
  have hsz1 := hg1.size
  have hsz2 := hb.size
  have hsz3 := hg3.size
  have hglt := lt_of_block h.box
  have hmlt := h.mp.blk
  have hphi : p.hi ≤ w.heap.size := hp.hs
  have hown : ∀ j, V'.ownBlock = some j → j ≠ g ∧ j ≠ mb ∧ (V.ownBlock = some j ∨ j = w2.heap.size) := fun j hj => by
    rcases hat with e | e
    · rw [e] at hj
      exact ⟨(h.vg j hj).1, (h.vg j hj).2, .inl hj⟩
    · rw [e] at hj
      have := Option.some.inj hj
      exact ⟨by omega, by omega, .inr this.symm⟩
  have hb1 : w1.heap[g]? = _ := (hg1.block g hglt (fun e => h.gm (Option.some.inj e))).trans h.box
  have hb2 : w2.heap[g]? = _ := (hb.block g (by omega)).trans hb1
  have hb3 : w3.heap[g]? = some (.cells #[.map (some mb), V] 88 (0, 0)) := (hg3.block g (by omega) (fun e => (h.vg g e.symm).1 rfl)).trans hb2
  have hmv : MapV (w3.setCell ⟨g, 1, none⟩ V') mb (L.length + 1) (fun i => if i = p.s.id then some p.ptr else (fndP L i).map CP.ptr) := by
    have m2 := hm.keep hb
    have m3 : MapV w3 _ _ _ := m2.kept (hg3.block mb (by omega) (fun e => (h.vg mb e.symm).2 rfl))
    exact m3.kept (heap_setCell_other w3 ⟨g, 1, none⟩ mb V' (by show mb ≠ g; exact fun e => h.gm e.symm))
  have hpt : ∀ q : CP, q.On w → q.off g → q.off mb → (∀ j, V.ownBlock = some j → q.off j) → q.On (w3.setCell ⟨g, 1, none⟩ V') := fun q h1 h2 h3 h4 => by
    have a1 := CP.grown h1 hg1 (fun j hj => by obtain rfl := Option.some.inj hj; exact h3)
    have a2 : q.On w2 := IsP.keep a1 hb
    have a3 := CP.grown a2 hg3 h4
    exact CP.rng a3 (rng_set w3 g 1 V') h2
  refine ⟨⟨?_, ?_, ?_, h.gB, h.mB, h.gm, fun j hj => ⟨(hown j hj).1, (hown j hj).2.1⟩, ?_, ?_, ?_⟩, ?_⟩
  · rw [heap_setCell_same w3 _ _ _ _ _ hb3]; rfl
  · rw [List.length_append, List.length_singleton]
    have e : (fun i => if i = p.s.id then some p.ptr else (fndP L i).map CP.ptr) = fun i => (fndP (L ++ [p]) i).map CP.ptr := by
      funext i
      rw [fnd_snoc L p (fun q hq => (hql q hq).2) i]
      split <;> rfl
    rw [← e]
    exact hmv
  · rw [List.length_append, List.length_singleton, List.map_append]
    exact own_rng ho (rng_set w3 g 1 V') (fun j hj => (hown j hj).1)
  · intro q hq
    rcases List.mem_append.1 hq with hq | hq
    · obtain ⟨h1, h2, h3, h4, h5, h6⟩ := h.pt q hq
      refine ⟨hpt q h1 h3 h4 h5, h2, h3, h4, fun j hj => ?_, h6⟩
      rcases (hown j hj).2.2 with e | e
      · exact h5 j e
      · right
        have : q.hi ≤ w.heap.size := h1.hs
        omega
    · obtain rfl := List.mem_singleton.1 hq
      have h5 : ∀ j, V.ownBlock = some j → q.off j := hvl
      refine ⟨hpt q hp hgl hml h5, hpB, hgl, hml, fun j hj => ?_, hpi, hpn⟩
      rcases (hown j hj).2.2 with e | e
      · exact h5 j e
      · right; omega
  · rw [List.pairwise_append]
    exact ⟨h.ap, List.pairwise_singleton _ _, fun a ha b hb => by obtain rfl := List.mem_singleton.1 hb; exact (hql a ha).1⟩
  · rw [List.pairwise_append]
    exact ⟨h.up, List.pairwise_singleton _ _, fun a ha b hb => by obtain rfl := List.mem_singleton.1 hb; exact (hql a ha).2⟩
  · have b0 : Below B w w := Below.refl _ _
    have hBw : B ≤ w.heap.size := Nat.le_of_lt (Nat.lt_of_le_of_lt h.gB hglt)
    have b1 := b0.grown hg1 hBw (fun j hj => by have := Option.some.inj hj; have := h.mB; omega)
    have b2 := b1.trans (hb.mono (by omega))
    have b3 := b2.grown hg3 (by omega) (fun j hj => (h.row.lt j hj).1)
    refine ⟨Rng.below b3 (rng_set w3 g 1 V') (by omega) h.gB, hpt, fun k hk h1 h2 h3 => ?_, fun j hj => ?_⟩
    · rw [heap_setCell_other w3 ⟨g, 1, none⟩ k V' h1, hg3.block k (by omega) (fun e => h3 e.symm), hb.block k (by omega), hg1.block k hk (fun e => h2 (Option.some.inj e))]
    · rcases (hown j hj).2.2 with e | e
      · exact .inl e
      · exact .inr (by omega)
end

theorem step_append_at {P : Program} {ops : Array Oper} {o : Oper} {a : Act} {w : World} {K : Act → World → Prop} {Q : Exit → Act → World → Prop} {E : Prop}
    (hg : o.guard = none) (s x : Operand) (t : TypeId) (ho : o.op = .call { callee := .builtin .append, args := #[s, x], argTypes := #[t, t] })
    (base : Nat) (e : TypeId) (i : TypeInfo) (z : Value) (size bytes : Nat) (ht : P.underlying t = some (.slice e)) (hi : P.info? e = some i) (hz : i.zero = some z)
    (hsize : i.size = size) (hby : i.bytes = bytes) (hzs : z.cells.size = size) (hsz : 0 < size)
    (v : Value) (n : Nat) (xs : List Value) (hs : a.eval s = v) (hown : w.ownsRow base e size v n xs)
    (ad : Addr) (m c : Nat) (news : List Value) (hx : a.eval x = .slice (some ad) m c) (hl : news.length = m * size) (hnews : ∀ j u, news[j]? = some u → w.cell? (ad.add j) = some u) (h1 : ∀ u ∈ news, u.oneCell' = true)
    (h63 : n + m ≤ maxLen) (hbytes : (n + m) * bytes ≤ 140737488355328) (hbase : base ≤ w.heap.size)
    (hK : ∀ v' w', w'.ownsRow base e size v' (n + m) (xs ++ news) → w.grownBy w' v.ownBlock → (v'.ownBlock = v.ownBlock ∨ v'.ownBlock = some w.heap.size) → K (a.put o.dst v') w') :
    if Region.wanted o (yielded ops a.tmps) = true then Oper.wp P o a w K Q else E := by
  have hw : Region.wanted o (yielded ops a.tmps) = true := by simp [Region.wanted, hg]
  rw [if_pos hw]
  obtain ⟨v', w', hr, h2, h3, h4, h5⟩ := run_append_own_at (P := P) w base t o.type e i z size bytes ht hi hz hsize hby hzs hsz v n xs hown ad m c news hl hnews h1 h63 hbytes hbase
  unfold Oper.wp execOp
  simp only [ho, resolve, invoke, builtin, Sem.run_bind, Sem.run_pure, Result.andThen_ok, List.map_toArray, List.map_cons, List.map_nil, hs, hx, hr]
  exact hK _ _ h2 h3 h5
theorem step_upd {P : Program} {ops : Array Oper} {o : Oper} {a : Act} {w : World} {K : Act → World → Prop} {Q : Exit → Act → World → Prop} {E : Prop}
    (hg : o.guard = none) (m x v : Operand) (t : TypeId) (hop : o.op = Op.mapUpdate t m x v) (mv key val : Value) (hm : a.eval m = mv) (hx : a.eval x = key) (hv : a.eval v = val) (w' : World)
    (hrun : (Instr.mapUpdate t mv key val).run P w = .ok () w') (hK : K (a.put o.dst undef) w') : if Region.wanted o (yielded ops a.tmps) = true then Oper.wp P o a w K Q else E := by
  have hw : Region.wanted o (yielded ops a.tmps) = true := by simp [Region.wanted, hg]
  rw [if_pos hw]
  unfold Oper.wp
  simp [execOp, hop, hm, hx, hv, hrun, Result.andThen]
  exact hK
/-- A load that is not taken first. -/
def ldS (t : TypeId) (x : Operand) : Op := Op.load t x
attribute [go_sem] ldS
theorem infoIntW : (Try.prog.info? 3).map (fun i => (i.zero, i.size, i.bytes)) = some (some (.int .i64 0), 1, 8) := by kernel_rfl
set_option maxRecDepth 8000 in
set_option maxHeartbeats 1600000 in
theorem add_any {w : World} {B g mb : Nat} {V : Value} {L : List CP} {p : CP} (h : IsW w B g mb V L) (hp : p.On w) (hpB : B ≤ p.lo) (hpi : Mpv.I64 p.s.id) (hpn : p.s.n ≤ 1000)
    (hgl : p.off g) (hml : p.off mb) (hvl : ∀ j, V.ownBlock = some j → p.off j) (hql : ∀ q ∈ L, q.hi ≤ p.lo ∧ q.s.id < p.s.id) (hL : L.length ≤ 1000) :
    Calls Try.prog 29 #[.pointer (some ⟨g, 0, none⟩), p.ptr] w fun e w' => e = .returned (.tuple #[]) ∧ (∃ V', IsW w' B g mb V' (L ++ [p]) ∧ AddFrame w g mb V w' V') ∧ Below B w w' := by
  obtain ⟨i0, hi, hz0, hz1, hz2⟩ := info_parts infoIntW
  obtain ⟨w1, hr1, hm1, hg1⟩ := (h.drewN 1).mp.put Try.underlying86 p.s.id hpi p.ptr (by omega)
  have hno : (fndP L p.s.id).map CP.ptr = none := by
    have : fndP L p.s.id = none := List.find?_eq_none.2 (fun q hq => by have := (hql q hq).2; simp; omega)
    rw [this]; rfl
  simp only [hno, Option.isSome_none, Bool.false_eq_true, if_false] at hm1
  have hg1' : w.grownBy w1 (some mb) := ⟨hg1.os, hg1.tape, hg1.output, hg1.size, hg1.block⟩
  have hid0 := id_any (IsP.drewN hp 1)
  have hp1 := CP.grown (p := p) (IsP.drewN hp 1) hg1 (fun j hj => by obtain rfl := Option.some.inj hj; exact hml)
  have HI0 := Lib.hid hid0
  have HP1 := Lib.hid hp1
  have HBX1 : Hid (w1.heap[g]? = some (.cells #[.map (some mb), V] 88 (0, 0))) := (hg1'.block g (lt_of_block h.box) (fun e => h.gm (Option.some.inj e))).trans h.box
  have HRW1 : Hid (w1.ownsRow B 3 1 V L.length (L.map fun p => Value.int .i64 p.s.id)) := own_rng h.row (rng_row hg1') (fun j hj => (h.vg j hj).2)
  have c0 := (h.drewN 1).c0
  have HH := Lib.hid h
  have HSZ : Hid (B ≤ w1.heap.size) := by show _ ≤ _; have := hg1'.size; have := lt_of_block h.box; have := h.gB; omega
  have HGM : Hid (g < w1.heap.size) := lt_of_block HBX1.out
  have HAD := Lib.hid (fun (w2 w3 : World) (V' : Value) (hb : Below w1.heap.size w1 w2) (ho : w3.ownsRow B 3 1 V' (L.length + 1) ((L.map fun p => Value.int .i64 p.s.id) ++ [.int .i64 p.s.id])) (hg3 : w2.grownBy w3 V.ownBlock) (hat : V'.ownBlock = V.ownBlock ∨ V'.ownBlock = some w2.heap.size) => h.added hp hpB hpi hpn hgl hml hvl hql hm1 hg1' hb ho hg3 hat)
  obtain ⟨n, hn⟩ : ∃ n, L.length = n := ⟨_, rfl⟩
  rw [hn] at HRW1 HAD
  have HNL : Hid (n ≤ 1000) := by show _ ≤ _; omega
  obtain ⟨ids, hids⟩ : ∃ l, (L.map fun p => Value.int .i64 p.s.id) = l := ⟨_, rfl⟩
  rw [hids] at HRW1 HAD
  obtain ⟨A, cp, rfl⟩ := own_slice HRW1.out
  obtain ⟨x, hx⟩ : ∃ x, p.s.id = x := ⟨_, rfl⟩
  rw [hx] at hr1 HI0 HAD
  have HXX := Lib.hid hx
  have HVG : Hid (∀ j, (Value.slice A n cp).ownBlock = some j → j ≠ g) := fun j hj => (h.vg j hj).1
  unfold CP.ptr at hr1
  show Calls Try.prog _ #[_, .pointer (some ⟨p.d.g, 0, none⟩)] w _
  clear h hp hpB hpi hpn hgl hml hvl hql hL hno hm1 hg1 hg1' hid0 hp1 hn hids hx
  go_enter Try.func29, Try.ntmps29
  have HQ0 : Hid (w1.cell? ⟨g, 0, none⟩ = some (.map (some mb))) := by show _ = _; rw [cell_of_row w1 _ _ _ _ _ HBX1.out]; rfl
  go_wp2_with fail
  go_region_held3 (fun wx => wx.cell? ⟨g, 0, none⟩ = some (.map (some mb)))
    (first | assumption | exact HQ0.out | (go_keep; done))
    (first
      | (go_at_call 33; refine HI0.out.mono ?_; rintro e w2 ⟨rfl, rfl⟩))
  clear hr1 c0 HQ0
  have c1 : w1.cell? ⟨g, 1, none⟩ = some (.slice A n cp) := by rw [cell_of_row w1 _ _ _ _ _ HBX1.out]; rfl
  have d1 : w1.drew.cell? ⟨g, 1, none⟩ = some (.slice A n cp) := c1
  have hba : Below w1.heap.size w1 (w1.alloc (.cells #[.int .i64 x] 3)) := (Below.refl _ _).alloc (Nat.le_refl _) _
  have hbb : Below w1.heap.size w1 (w1.alloc (.cells #[.int .i64 x] 3)).drew := hba.drew
  have HBB := Lib.hid hbb
  have HRB := Lib.hid (own_keep HRW1.out hbb)
  have HI1 : Hid (∀ W, Below w1.heap.size w1 W → Calls Try.prog 33 #[.pointer (some ⟨p.d.g, 0, none⟩)] W fun e w' => e = .returned (.int .i64 x) ∧ W = w') := fun W b => by
    have := id_any (IsP.keep HP1.out b)
    rw [HXX.out] at this
    exact this
  have HGB : Hid ((w1.alloc (.cells #[.int .i64 x] 3)).drew.heap[g]? = some (.cells #[.map (some mb), .slice A n cp] 88 (0, 0))) := (hbb.block g HGM.out).trans HBX1.out
  clear hba hbb
  go_wp2_with fail
  have y0 : w1.drew.cell? ⟨g, 0, none⟩ = some (.map (some mb)) := by show w1.cell? _ = _; rw [cell_of_row w1 _ _ _ _ _ HBX1.out]; rfl
  have e1 : (w1.alloc (.cells #[.int .i64 x] 3)).drew.cell? ⟨g, 1, none⟩ = some (.slice A n cp) := by rw [cell_of_row _ _ _ _ _ _ HGB.out]; rfl
  rw [show Op.load 35 (Operand.tmp 14) = ldS 35 (Operand.tmp 14) from rfl]
  have y1 : (w1.alloc (.cells #[.int .i64 x] 3)).drew.cell? ⟨g, 0, none⟩ = some (.map (some mb)) := by rw [cell_of_row _ _ _ _ _ _ HGB.out]; rfl
  go_region_held3 (fun wx => wx.cell? ⟨g, 0, none⟩ = some (.map (some mb)))
    (first | assumption | exact HQ1.out.1 | exact HQ2.out | (go_keep; done))
    (first
      | (go_at_call 33; refine (HI1.out _ (by first | exact Below.refl _ _ | exact (Below.refl _ _).drew | exact HBB.out)).mono ?_; rintro e w2 ⟨rfl, rfl⟩)
      | (
          refine step_append_at (s := .tmp 15) (x := .tmp 18) (t := 35) rfl rfl (base := B) (e := 3) (i := i0) (z := .int .i64 0) (size := 1) (bytes := 8) Try.underlying35 hi hz0 hz1 hz2 rfl (by decide) (v := .slice A n cp) (n := n) (xs := ids) rfl HRB.out ⟨w1.heap.size, 0, none⟩ 1 1 [.int .i64 x] rfl rfl (cell_one_new _ _ _) ?_ ?_ ?_ ?_ ?_
          · intro u hu; simp at hu; subst hu; rfl
          · have := HNL.out; unfold maxLen; omega
          · have := HNL.out; omega
          · have := HSZ.out; have := HBB.out.size; omega
          intro v' w3 ho hg hat
          obtain ⟨A', c', rfl⟩ := own_slice ho
          have HFI := Lib.hid (HAD.out _ w3 _ HBB.out ho hg hat)
          have hb3 := (hg.block g (lt_of_block HGB.out) (fun e => HVG.out g e.symm rfl)).trans HGB.out
          have HQ1 : Hid (w3.cell? ⟨g, 0, none⟩ = some (.map (some mb)) ∧ w3.cell? ⟨g, 1, none⟩ = some (.slice A n cp)) := by constructor <;> (rw [cell_of_row w3 _ _ _ _ _ hb3]; rfl)
          have HQ2 : Hid ((w3.setCell ⟨g, 1, none⟩ (.slice A' (n + 1) c')).cell? ⟨g, 0, none⟩ = some (.map (some mb))) := by show _ = _; rw [cell_of_row _ _ _ _ _ _ (heap_setCell_same w3 _ _ _ _ _ hb3)]; rfl
          have f0 := HQ1.out.2
          have f1 : w3.frozen? ⟨g, 1, none⟩ = false := by simp [World.frozen?, hb3]
          clear ho hg hat hb3))
  all_goals
    go_wp2
    simp [bodyPost, results, Try.results29, go_sem]
    exact ⟨⟨_, HFI.out.1, HFI.out.2.2⟩, HFI.out.2.1⟩
end Go.Proofs.Ytjdgpbjjhgfikaa.Crw
