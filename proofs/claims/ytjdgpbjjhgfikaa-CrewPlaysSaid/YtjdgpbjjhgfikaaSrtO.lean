
/- Acts: what a schedule does to partitions (acts.Row, acts.For). Condition: at most a million acts, at most a thousand partitions. Acts: what the first act of a schedule and partition does, as the program and the document tell it. Condition: at most a million acts. -/

import Derived.Test.YtjdgpbjjhgfikaaSrtL

import Derived.Test.YtjdgpbjjhgfikaaSrtI

import Derived.Test.YtjdgpbjjhgfikaaArgs

namespace Go.Proofs.Ytjdgpbjjhgfikaa.Srt

open Go.RowKit Go.PlainAid

open Go.Proofs.Ytjdgpbjjhgfikaa.Cel (Two two_below)

set_option linter.unusedVariables false

set_option linter.unusedSimpArgs false

/-- 'make([]T, m, n)' with cells of one place each. -/
theorem wpList_make_one {P : Program} (w : World) {ops : Array Oper} {rest : List Oper} {o : Oper} {a : Act} {Q : Exit → Act → World → Prop}
    (hg : o.guard = none) (l c : Operand) (t : TypeId) (hop : o.op = Op.makeSlice t l c)
    (e : TypeId) (i : TypeInfo) (z : Value) (h1 : P.underlying t = some (.slice e)) (h2 : P.info? e = some i) (h3 : i.zero = some z) (h4 : i.size = 1) (hz : z.cells = #[z])
    (kl kc : IntKind) (L C : Int) (m n : Nat) (hl : a.eval l = .int kl L) (hc : a.eval c = .int kc C) (hL : L = (m : Int)) (hC : C = (n : Int)) (hmn : m ≤ n) (b2 : i.bytes * n ≤ 281474976710656) (b3 : n ≤ 9223372036854775807)
    (hK : ∀ w' cur, Hid (cur = List.replicate n z) → Hid (w'.heap[w.heap.size]? = some (.cells cur.toArray e (0, 0))) → Below w.heap.size w w' → wpList P ops Q rest (a.put o.dst (.slice (some ⟨w.heap.size, 0, none⟩) m n)) w') :
    wpList P ops Q (o :: rest) a w := by
  refine wpList_plain hg fun K hK' => ?_
  have hb' : (i.bytes : Int) * (n : Int) ≤ 281474976710656 := by
    have h : ((i.bytes * n : Nat) : Int) ≤ 281474976710656 := by omega
    rwa [Int.natCast_mul] at h
  have hrun := run_make (P := P) w t e i z h1 h2 h3 kl kc m n (by omega) (by omega) hb' (by omega)
  simp only [Int.toNat_natCast, h4, Nat.mul_one, hz] at hrun
  subst hL
  subst hC
  unfold Oper.wp
  simp [execOp, hop, hl, hc, hrun, Result.andThen]
  refine hK' _ _ (hK _ _ rfl ?_ ((Below.refl _ _).alloc (Nat.le_refl _) _))
  show _ = _
  have e1 : madeCells #[z] n = (List.replicate n z).toArray := by
    apply Array.toList_inj.1; rw [toList_madeCells_one]
  rw [e1]
  exact heap_alloc_new _ _
/-- A row of numbers of the call's own. -/
def RowI (g : Nat) (L : List Int) (W : World) : Prop := W.heap[g]? = some (.cells (L.map (Value.int .i64)).toArray 3 (0, 0))
theorem RowI.keep {g : Nat} {L : List Int} {W W' : World} (h : RowI g L W) (b : Below W.heap.size W W') : RowI g L W' := (b.block _ (lt_of_block h)).trans h
theorem RowI.cell {g : Nat} {L : List Int} {W : World} (h : RowI g L W) {i : Nat} {x : Int} (hx : L[i]? = some x) : W.cell? ⟨g, i, none⟩ = some (.int .i64 x) := by
  rw [cell_of_row _ _ _ _ _ _ h]
  simp [hx]
theorem RowI.free {g : Nat} {L : List Int} {W : World} (h : RowI g L W) (i : Nat) : W.frozen? ⟨g, i, none⟩ = false := by simp [World.frozen?, show W.heap[g]? = _ from h]
theorem RowI.set {g : Nat} {L : List Int} {W : World} (h : RowI g L W) (i : Nat) (x : Int) : RowI g (L.set i x) (W.setCell ⟨g, i, none⟩ (.int .i64 x)) := by
  unfold RowI
  rw [setCell_eq_setRow W g i _ _ _ _ h]
  have := setRow_heap W g ((L.map (Value.int .i64)).toArray) ((((L.map (Value.int .i64)).toArray).setIfInBounds i (.int .i64 x))) 3 (0, 0) h
  rw [this]
  congr 2
  rw [List.setIfInBounds_toArray, List.map_set]
/-- Numbers lie at an address. -/
def IA (w : World) (A : Option Addr) (l : List Int) : Prop := ∀ i x, l[i]? = some x → ∃ y, A = some y ∧ w.cell? (y.add i) = some (.int .i64 x)
theorem IA.kept {w w' : World} {A : Option Addr} {l : List Int} (h : IA w A l) (b : Below w.heap.size w w') : IA w' A l := fun i x hx => by
  obtain ⟨y, e, hc⟩ := h i x hx
  exact ⟨y, e, (b.cell (Go.block_lt_of_cell hc)).trans hc⟩
theorem Row.third {g : Nat} {tl : List Value} {L : List A3} {W : World} (h : Row g tl L W) {i : Nat} {x : A3} (hx : L[i]? = some x) : W.cell? ⟨g, i * 3 + 2, none⟩ = some (.int .i64 x.a) := by
  rw [cell_of_row _ _ _ _ _ _ h]
  have : ∀ (L : List A3) (i : Nat), L[i]? = some x → (flatA L ++ tl)[i * 3 + 2]? = some (.int .i64 x.a) := by
    intro L
    induction L with
    | nil => intro i h; simp at h
    | cons y L ih =>
      intro i h
      cases i with
      | zero => simp at h; subst h; rfl
      | succ i =>
        have h' : L[i]? = some x := by simpa using h
        have := ih i h'
        rw [show (i + 1) * 3 + 2 = (i * 3 + 2) + 3 by omega]
        show (flatA (y :: L) ++ tl)[(i * 3 + 2) + 3]? = _
        rw [show flatA (y :: L) = [.int .i64 y.s, .int .i64 y.p, .int .i64 y.a] ++ flatA L from rfl]
        simpa using this
  simpa using this L i hx
/-- In no acts none is found. -/
theorem search_nil (t : A3) (F : Value) (w : World) :
    Calls Try.prog 67 #[.slice none 0 0, .agg #[.int .i64 t.s, .int .i64 t.p, .int .i64 t.a], F] w fun e w' => e = .returned (.tuple #[.int .i64 0, .bool false]) ∧ Below w.heap.size w w' := by
  have hb0 : Below w.heap.size w (w.alloc (.cells #[.int .i64 t.s, .int .i64 t.p, .int .i64 t.a] 84)) := (Below.refl _ _).alloc (Nat.le_refl _) _
  obtain ⟨W0, hW0⟩ : ∃ W, w.alloc (.cells #[.int .i64 t.s, .int .i64 t.p, .int .i64 t.a] 84) = W := ⟨_, rfl⟩
  rw [hW0] at hb0
  have HW0 := Lib.hid hW0
  have HB0 := Lib.hid hb0
  clear hb0 hW0
  go_enter Try.func67, Try.ntmps67
  go_upto_region 1 with fail
  rw [HW0.out]
  go_wp2_with fail
  go_loopw [9, 10] (fun i j W => i = .int .i64 0 ∧ j = .int .i64 0 ∧ W0 = W) (fun _ _ _ => 0)
  case atStart => exact ⟨rfl, rfl, rfl⟩
  case round =>
    obtain ⟨rfl, rfl, rfl⟩ := hrel
    have HBD : Hid (Below w.heap.size w W0.drew) := below_drewS HB0.out
    go_wp2_with fail
    go_region
    go_wp2
    go_ret2
    exact ⟨rfl, HBD.out⟩
def RwRel (f : Int → Int) (ids : List Int) (n G : Nat) (w1 : World) (i : Value) (W : World) : Prop :=
  ∃ k : Nat, k ≤ n ∧ i = .int .i64 (k : Int) ∧ RowI G ((ids.take k).map f ++ List.replicate (n - k) 0) W ∧ Below w1.heap.size w1 W
theorem rw_set (f : Int → Int) (ids : List Int) (n k : Nat) (x : Int) (hn : ids.length = n) (hx : ids[k]? = some x) : ((ids.take k).map f ++ List.replicate (n - k) 0).set k (f x) = (ids.take (k + 1)).map f ++ List.replicate (n - (k + 1)) 0 := by
  have hk := (List.getElem?_eq_some_iff.1 hx).1
  have e1 : ids.take (k + 1) = ids.take k ++ [x] := by rw [List.take_add_one, hx]; rfl
  have e2 : n - k = (n - (k + 1)) + 1 := by omega
  rw [e1, e2, List.replicate_succ, List.set_append_right _ _ (by simp; omega)]
  simp [Nat.min_eq_left (Nat.le_of_lt hk)]
theorem rw_skip (f : Int → Int) (ids : List Int) (n k : Nat) (x : Int) (hn : ids.length = n) (hx : ids[k]? = some x) (h0 : f x = 0) : (ids.take k).map f ++ List.replicate (n - k) 0 = (ids.take (k + 1)).map f ++ List.replicate (n - (k + 1)) 0 := by
  have hk := (List.getElem?_eq_some_iff.1 hx).1
  have e1 : ids.take (k + 1) = ids.take k ++ [x] := by rw [List.take_add_one, hx]; rfl
  have e2 : n - k = (n - (k + 1)) + 1 := by omega
  rw [e1, e2, List.replicate_succ]
  simp [h0]
theorem infoIntS : (Try.prog.info? 3).map (fun i => (i.zero, i.size, i.bytes)) = some (some (.int .i64 0), 1, 8) := by kernel_rfl
def RwPost (f : Int → Int) (ids : List Int) (w : World) (e : Ending) (w' : World) : Prop :=
  ∃ g, e = .returned (.slice (some ⟨g, 0, none⟩) ids.length ids.length) ∧ w.heap.size ≤ g ∧ RowI g (ids.map f) w' ∧ Below w.heap.size w w'
set_option maxRecDepth 8000 in
set_option maxHeartbeats 3200000 in
theorem row_any (A : Option Addr) (cap : Nat) (L : List A3) (s : Int) (B : Option Addr) (cb : Nat) (ids : List Int) (w : World) (hx : FlatAt w A L) (hnil : A = none → cap = 0) (hlc : L.length ≤ cap) (hl : L.length ≤ 1000000) (hi : IA w B ids) (hil : ids.length ≤ 1000) :
    Calls Try.prog 44 #[.slice A L.length cap, .int .i64 s, .slice B ids.length cb] w (RwPost (forN L s) ids w) := by
  obtain ⟨i0, hi0, hz0, hz1, hz2⟩ := info_parts infoIntS
  have HS := Lib.hid (sort_any A cap L w hx hnil hlc hl)
  have HI := Lib.hid hi
  unfold RwPost
  obtain ⟨n, hn⟩ : ∃ n, ids.length = n := ⟨_, rfl⟩
  obtain ⟨LL, hLL⟩ : ∃ n, L.length = n := ⟨_, rfl⟩
  have HN := Lib.hid hn
  have HL : Hid (L.length ≤ 1000000) := hl
  have HIL : Hid (n ≤ 1000) := by show _ ≤ _; omega
  rw [hLL] at HS
  rw [hn, hLL]
  clear hx hnil hlc hl hi hil hn hLL
  go_enter Try.func44, Try.ntmps44
  go_wp2_with fail
  refine HS.out.mono ?_
  rintro e w1 ⟨M, hM, hor, hb1⟩
  have HM := Lib.hid hM
  have HB1 := Lib.hid hb1
  have HI1 := Lib.hid (HI.out.kept hb1)
  have HFOR : Hid (∀ s p, forN (compL M) s p = forN L s p) := fun s p => (comp_fst hM).forN s p
  have HRISE : Hid ((compL M).Pairwise lt) := (comp_fst hM).1
  have HCL : Hid ((compL M).length ≤ 1000000) := by
    have h1 := compL_len M
    have h2 := hM.length
    have h3 := HL.out
    show _ ≤ _
    omega
  clear hM hb1 HS HM
  rcases hor with ⟨rfl, hMn⟩ | ⟨g, c, tl, rfl, hg, hcl, hrow⟩
  · have HZ : Hid (∀ s p, forN L s p = 0) := fun s p => by rw [← HFOR.out, hMn]; rfl
    clear hMn
    go_wp2_with (first | (at_make; refine wpList_make_one _ rfl _ _ 35 rfl 3 i0 (.int .i64 0) Try.underlying35 hi0 hz0 hz1 rfl _ _ _ _ n n rfl rfl ?c1 ?c2 ?c3 ?c4 ?c5 ?_) | fail)
    case c1 => rfl
    case c2 => rfl
    case c3 => omega
    case c4 => have := HIL.out; rw [hz2]; omega
    case c5 => have := HIL.out; omega
    intro w2 cur hcur hrow2 hb2
    have HR2 : Hid (RowI w1.heap.size ((ids.take 0).map (forN L s) ++ List.replicate (n - 0) 0) w2) := by
      have h := hrow2.out
      rw [hcur.out] at h
      show RowI _ _ _
      unfold RowI
      rw [h]
      simp
    have HB2 := Lib.hid hb2
    clear hcur hrow2 hb2
    go_wp2_with fail
    go_loopw [20] (fun i W => RwRel (forN L s) ids n w1.heap.size w1 i W) (fun i _ => n - (intOf i).toNat)
    case atStart => exact ⟨0, Nat.zero_le _, rfl, HR2.out, HB2.out⟩
    case round =>
      rename World => W
      obtain ⟨k, hk, rfl, hr, hb⟩ := hrel
      have HR := Lib.hid hr
      have HB := Lib.hid hb
      clear HR2 HB2 hr hb
      by_cases hlt : k < n
      · obtain ⟨x, hx⟩ : ∃ x, ids[k]? = some x := ⟨_, List.getElem?_eq_getElem (by rw [HN.out]; exact hlt)⟩
        obtain ⟨y, rfl, c1⟩ := (HI1.out.kept HB.out) k x hx
        have HX := Lib.hid hx
        have hki : (0 : Int) ≤ k := by omega
        have hkb : (k : Int) < n := by omega
        have hk1 : IntKind.i64.wrap ((k : Int) + 1) = (k : Int) + 1 := IntWalk.i64_in _ (by have := HIL.out; omega)
        clear hx
        go_wp2_with (go_at_call 67; refine (search_nil ⟨s, x, 0⟩ _ _).mono ?_; rintro e W2 ⟨rfl, hb2⟩; have HB2 := Lib.hid hb2; clear hb2)
        go_roundw
        case rel => exact ⟨k + 1, by omega, by go_num, by rw [← rw_skip _ ids n k x HN.out HX.out (HZ.out s x)]; exact HR.out.keep HB2.out, HB.out.trans (HB2.out.mono HB.out.size)⟩
        case measure => simp [intOf]; omega
      · obtain rfl : k = n := by omega
        go_wp2
        go_ret
        exact ⟨_, rfl, HB1.out.size, by have h := HR.out; rw [Nat.sub_self, List.replicate_zero, List.append_nil, List.take_of_length_le (by rw [HN.out]; omega)] at h; exact h, HB1.out.trans (HB.out.mono HB1.out.size)⟩
  · have HG : Hid (w.heap.size ≤ g ∧ (compL M).length ≤ c) := ⟨hg, hcl⟩
    obtain ⟨C, hC⟩ : ∃ C, compL M = C := ⟨_, rfl⟩
    rw [hC] at hrow HFOR HRISE HCL HG
    rw [hC]
    obtain ⟨m, hm⟩ : ∃ m, C.length = m := ⟨_, rfl⟩
    have HRW := Lib.hid hrow
    have HMM := Lib.hid hm
    rw [hm]
    clear hg hcl hrow hC hm
    go_wp2_with (first | (at_make; refine wpList_make_one _ rfl _ _ 35 rfl 3 i0 (.int .i64 0) Try.underlying35 hi0 hz0 hz1 rfl _ _ _ _ n n rfl rfl ?e1 ?e2 ?e3 ?e4 ?e5 ?_) | fail)
    case e1 => rfl
    case e2 => rfl
    case e3 => omega
    case e4 => have := HIL.out; rw [hz2]; omega
    case e5 => have := HIL.out; omega
    intro w2 cur hcur hrow2 hb2
    have HR2 : Hid (RowI w1.heap.size ((ids.take 0).map (forN L s) ++ List.replicate (n - 0) 0) w2) := by
      have h := hrow2.out
      rw [hcur.out] at h
      show RowI _ _ _
      unfold RowI
      rw [h]
      simp
    have HB2 := Lib.hid hb2
    clear hcur hrow2 hb2
    go_wp2_with fail
    go_loopw [20] (fun i W => RwRel (forN L s) ids n w1.heap.size w1 i W) (fun i _ => n - (intOf i).toNat)
    case atStart => exact ⟨0, Nat.zero_le _, rfl, HR2.out, HB2.out⟩
    case round =>
      rename World => W
      obtain ⟨k, hk, rfl, hr, hb⟩ := hrel
      have HR := Lib.hid hr
      have HB := Lib.hid hb
      clear HR2 HB2 hr hb
      by_cases hlt : k < n
      · obtain ⟨x, hx⟩ : ∃ x, ids[k]? = some x := ⟨_, List.getElem?_eq_getElem (by rw [HN.out]; exact hlt)⟩
        obtain ⟨y, rfl, c1⟩ := (HI1.out.kept HB.out) k x hx
        have HX := Lib.hid hx
        have hki : (0 : Int) ≤ k := by omega
        have hkb : (k : Int) < n := by omega
        have hk1 : IntKind.i64.wrap ((k : Int) + 1) = (k : Int) + 1 := IntWalk.i64_in _ (by have := HIL.out; omega)
        have HSE := Lib.hid (search_any C ⟨s, x, 0⟩ g m c tl W (HRW.out.keep HB.out) HMM.out (by have h1 := HCL.out; have h2 := HMM.out; omega))
        clear hx
        go_wp2_with fail
        refine HSE.out.mono ?_
        rintro e W2 ⟨i, rfl, hat, hb2⟩
        have HB2 := Lib.hid hb2
        have HF := at_for HRISE.out hat
        have hil := hat.1
        rw [HFOR.out] at HF
        dsimp only at HF
        clear hat HSE
        have HB3 := Lib.hid (HB.out.trans (hb2.mono HB.out.size))
        rcases HF with ⟨e1, z, hz, e2⟩ | ⟨e1, e2⟩
        · rw [e1]
          have hz3 := (HRW.out.keep HB3.out).third hz
          have him := (List.getElem?_eq_some_iff.1 hz).1
          have hii : (0 : Int) ≤ i := by omega
          have him2 : (i : Int) < m := by have := HMM.out; omega
          have hr2 := HR.out.keep hb2
          have hlen : ((ids.take k).map (forN L s) ++ List.replicate (n - k) 0)[k]? = some 0 := by
            have := HN.out
            have hkl : ((ids.take k).map (forN L s)).length = k := by rw [List.length_map, List.length_take, Nat.min_eq_left (by omega)]
            rw [List.getElem?_append_right (by omega), hkl, Nat.sub_self, List.getElem?_replicate, if_pos (by omega)]
          have q1 := hr2.cell hlen
          have q2 := hr2.free k
          have HST : Hid (RowI w1.heap.size ((ids.take (k + 1)).map (forN L s) ++ List.replicate (n - (k + 1)) 0) (W2.setCell ⟨w1.heap.size, k, none⟩ (.int .i64 z.a)) ∧ Below w1.heap.size w1 (W2.setCell ⟨w1.heap.size, k, none⟩ (.int .i64 z.a))) := by
            refine ⟨?_, ?_⟩
            · have h := hr2.set k z.a
              rw [← e2, rw_set _ ids n k x HN.out HX.out] at h
              rw [← e2]
              exact h
            · exact HB3.out.trans ⟨rfl, rfl, rfl, by simp, fun b hb => heap_setCell_other _ _ _ _ (by show b ≠ w1.heap.size; omega)⟩
          clear hz him e2 hr2 hlen hb2 e1
          go_wp2
          go_roundw
          case rel => exact ⟨k + 1, by omega, by go_num, HST.out.1, HST.out.2⟩
          case measure => simp [intOf]; omega
        · rw [e1]
          have HST : Hid (RowI w1.heap.size ((ids.take (k + 1)).map (forN L s) ++ List.replicate (n - (k + 1)) 0) W2) := by
            show RowI _ _ _
            rw [← rw_skip _ ids n k x HN.out HX.out e2]
            exact HR.out.keep hb2
          clear e1 e2 hb2
          go_wp2
          go_roundw
          case rel => exact ⟨k + 1, by omega, by go_num, HST.out, HB3.out⟩
          case measure => simp [intOf]; omega
      · obtain rfl : k = n := by omega
        go_wp2
        go_ret
        exact ⟨_, rfl, HB1.out.size, by have h := HR.out; rw [Nat.sub_self, List.replicate_zero, List.append_nil, List.take_of_length_le (by rw [HN.out]; omega)] at h; exact h, HB1.out.trans (HB.out.mono HB1.out.size)⟩
end Go.Proofs.Ytjdgpbjjhgfikaa.Srt

namespace Go.Proofs.Ytjdgpbjjhgfikaa.Srt

open Go.RowKit Go.PlainAid Go.Proofs.Ytjdgpbjjhgfikaa.Args

open Go.Proofs.Ytjdgpbjjhgfikaa.Cel (Two two_below)

set_option linter.unusedVariables false

set_option linter.unusedSimpArgs false

/-- Acts lie at an address, act by act. -/
def AcS (w : World) (A : Option Addr) (l : List A3) : Prop :=
  ∀ i x, l[i]? = some x → ∃ y, A = some y ∧ w.cell? (y.add (i * 3)) = some (.int .i64 x.s) ∧ w.cell? ⟨(y.add (i * 3)).block, (y.add (i * 3)).off + 1, none⟩ = some (.int .i64 x.p) ∧ w.cell? ⟨(y.add (i * 3)).block, (y.add (i * 3)).off + 2, none⟩ = some (.int .i64 x.a)
theorem AcS.kept {w w' : World} {A : Option Addr} {l : List A3} (h : AcS w A l) (b : Below w.heap.size w w') : AcS w' A l := by
  intro i x hx
  obtain ⟨y, e, h1, h2, h3⟩ := h i x hx
  exact ⟨y, e, (b.cell (Go.block_lt_of_cell h1)).trans h1, (b.cell (Go.block_lt_of_cell h2)).trans h2, (b.cell (Go.block_lt_of_cell h3)).trans h3⟩
theorem add_two (y : Addr) (a b : Nat) : y.add (a + (b + 1)) = ⟨(y.add a).block, (y.add a).off + (b + 1), none⟩ := by
  cases a with
  | zero => simp [Addr.add]
  | succ a => simp [Addr.add]; omega
theorem AcS.flat {w : World} {A : Option Addr} {l : List A3} (h : AcS w A l) : FlatAt w A l := by
  intro y hy j v hj
  have hjl : j < (flatA l).length := (List.getElem?_eq_some_iff.1 hj).1
  rw [flatA_len] at hjl
  obtain ⟨i, r, rfl, hr⟩ : ∃ i r, j = i * 3 + r ∧ r < 3 := ⟨j / 3, j % 3, by omega, by omega⟩
  obtain ⟨x, hx⟩ : ∃ x, l[i]? = some x := ⟨_, List.getElem?_eq_getElem (by omega)⟩
  have hg := flatA_get l i x hx [] r hr
  rw [List.append_nil] at hg
  rw [hg] at hj
  obtain ⟨y', e, h1, h2, h3⟩ := h i x hx
  rw [hy] at e
  obtain rfl := Option.some.inj e
  rcases (show r = 0 ∨ r = 1 ∨ r = 2 by omega) with rfl | rfl | rfl
  · simp [actL] at hj; subst hj; exact h1
  · simp [actL] at hj; subst hj; rw [add_two y (i * 3) 0]; exact h2
  · simp [actL] at hj; subst hj; rw [add_two y (i * 3) 1]; exact h3
def I64 (n : Int) : Prop := -9223372036854775808 ≤ n ∧ n ≤ 9223372036854775807
theorem list_of {α : Type} (P : Nat → α → Prop) : ∀ n, (∀ i, i < n → ∃ x, P i x) → ∃ l : List α, l.length = n ∧ ∀ i x, l[i]? = some x → P i x
  | 0, _ => ⟨[], rfl, fun i x h => by simp at h⟩
  | n + 1, h => by
    obtain ⟨l, hl, hp⟩ := list_of P n fun i hi => h i (by omega)
    obtain ⟨x, hx⟩ := h n (by omega)
    refine ⟨l ++ [x], by simp [hl], fun i y hy => ?_⟩
    rcases Nat.lt_or_ge i l.length with hi | hi
    · rw [List.getElem?_append_left hi] at hy; exact hp i y hy
    · rw [List.getElem?_append_right hi] at hy
      have hi0 : i - l.length = 0 := by
        rcases Nat.eq_zero_or_pos (i - l.length) with h0 | h0
        · exact h0
        · rw [List.getElem?_eq_none (by simp; omega)] at hy; cases hy
      rw [hi0] at hy
      obtain rfl : x = y := by simpa using hy
      have : i = n := by omega
      rw [this]; exact hx
theorem acts_in {w : World} {a : Option Addr} {len cap : Nat} (h : IsRecs w a len cap [.int .i64, .int .i64, .int .i64]) : ∃ l, l.length = len ∧ AcS w a l ∧ (a = none → cap = 0) ∧ len ≤ cap ∧ cap ≤ maxLen := by
  rcases h with ⟨rfl, rfl, rfl⟩ | ⟨y, rfl, hlc, hcm, hcell⟩
  · exact ⟨[], rfl, fun i x hx => by simp at hx, fun _ => rfl, Nat.le_refl _, Nat.zero_le _⟩
  · obtain ⟨l, hl, hp⟩ := list_of (fun i (x : A3) => w.cell? (y.add (i * 3)) = some (.int .i64 x.s) ∧ w.cell? ⟨(y.add (i * 3)).block, (y.add (i * 3)).off + 1, none⟩ = some (.int .i64 x.p) ∧ w.cell? ⟨(y.add (i * 3)).block, (y.add (i * 3)).off + 2, none⟩ = some (.int .i64 x.a)) len (by
      intro i hi
      obtain ⟨_, c0, s, rfl, hs⟩ := hcell i hi 0 _ rfl
      obtain ⟨_, c1, p, rfl, hp⟩ := hcell i hi 1 _ rfl
      obtain ⟨_, c2, a, rfl, ha⟩ := hcell i hi 2 _ rfl
      exact ⟨⟨s, p, a⟩, c0, c1, c2⟩)
    exact ⟨l, hl, fun i x hx => ⟨y, rfl, hp i x hx⟩, fun h => (by cases h), hlc, hcm⟩
theorem ids_in {w : World} {a : Option Addr} {len cap : Nat} {z : List Int} (h : IsRow .i64 w a len cap z) : (z.take len).length = len ∧ IA w a (z.take len) := by
  rcases h with ⟨rfl, rfl, rfl, rfl⟩ | ⟨y, rfl, hl, hm, hz, hcell, hwz⟩
  · exact ⟨rfl, fun i x hx => by simp at hx⟩
  · refine ⟨by simp; omega, fun i x hx => ⟨y, rfl, ?_⟩⟩
    have hi := (List.getElem?_eq_some_iff.1 hx).1
    rw [List.length_take] at hi
    have hi1 : i < len := by omega
    have hi2 : i < z.length := by omega
    rw [hcell i (by omega)]
    rw [List.getElem?_take, if_pos hi1, List.getElem?_eq_getElem hi2] at hx
    simp [List.getD, List.getElem?_eq_getElem hi2, Option.some.inj hx]
theorem forN_step {l : List A3} {k : Nat} {x : A3} (hx : l[k]? = some x) (s p : Int) : forN (l.drop k) s p = if x.s = s ∧ x.p = p then x.a else forN (l.drop (k + 1)) s p := by
  have hk := (List.getElem?_eq_some_iff.1 hx).1
  have he : l.drop k = x :: l.drop (k + 1) := by
    rw [List.drop_eq_getElem_cons hk]
    congr 1
    exact (List.getElem?_eq_some_iff.1 hx).2
  rw [he]
  by_cases h : x.s = s ∧ x.p = p
  · rw [if_pos h]; unfold forN; rw [cls_pos h]
  · rw [if_neg h]; unfold forN; rw [cls_neg h]
def FoRel (l : List A3) (s p : Int) (v : Int) (n : Nat) (w : World) (i : Value) (W : World) : Prop :=
  ∃ k : Nat, k ≤ n ∧ i = .int .i64 (k : Int) ∧ forN (l.drop k) s p = v ∧ Below w.heap.size w W
set_option maxRecDepth 4000 in
set_option maxHeartbeats 1600000 in
theorem rfor_any (A : Option Addr) (cap : Nat) (l : List A3) (s p : Int) (w : World) (h1 : AcS w A l) (hl : l.length ≤ 1000000) :
    Calls Try.prog 21 #[.slice A l.length cap, .int .i64 s, .int .i64 p] w fun e w' => e = .returned (.int .i64 (forN l s p)) ∧ Below w.heap.size w w' := by
  obtain ⟨n, hn⟩ : ∃ n, l.length = n := ⟨_, rfl⟩
  have HN := Lib.hid hn
  have H1 := Lib.hid h1
  obtain ⟨v, hv⟩ : ∃ v, forN l s p = v := ⟨_, rfl⟩
  have HV := Lib.hid hv
  have HL : Hid (n ≤ 1000000) := by show _ ≤ _; omega
  rw [hn, hv]
  clear h1 hl hn hv
  go_enter Try.func21, Try.ntmps21
  go_wp2
  go_loopw [7] (fun i W => FoRel l s p v n w i W) (fun i _ => n - (intOf i).toNat)
  case atStart => exact ⟨0, Nat.zero_le _, rfl, HV.out, Below.refl _ _⟩
  case round =>
    rename World => W
    obtain ⟨k, hk, rfl, hr, hb⟩ := hrel
    have HR := Lib.hid hr
    have HB := Lib.hid hb
    clear hr hb
    by_cases hlt : k < n
    · obtain ⟨x, hx⟩ : ∃ x, l[k]? = some x := ⟨_, List.getElem?_eq_getElem (by rw [HN.out]; exact hlt)⟩
      obtain ⟨y, rfl, c1, c2, c3⟩ := (H1.out.kept HB.out) k x hx
      have HST := Lib.hid (forN_step hx s p)
      have hki : (0 : Int) ≤ k := by omega
      have hkb : (k : Int) < n := by omega
      have hk1 : IntKind.i64.wrap ((k : Int) + 1) = (k : Int) + 1 := IntWalk.i64_in _ (by have := HL.out; omega)
      obtain ⟨xs, xp, xa⟩ := x
      dsimp only at c1 c2 c3 HST
      clear hx
      rcases Decidable.em (xs = s) with h | h
      · subst h
        have t1 : (xs == xs) = true := by simp
        rcases Decidable.em (xp = p) with h' | h'
        · subst h'
          have t2 : (xp == xp) = true := by simp
          have HE : Hid (v = xa) := by show _ = _; rw [← HR.out, HST.out, if_pos ⟨rfl, rfl⟩]
          go_wp2
          go_ret
          exact ⟨by rw [HE.out]; rfl, HB.out⟩
        · have t2 : (xp == p) = false := by simp; exact h'
          have HE : Hid (forN (l.drop (k + 1)) xs p = v) := by show _ = _; rw [← HR.out, HST.out, if_neg (by simp [h'])]
          clear h'
          go_wp2
          go_roundw
          case rel => exact ⟨k + 1, by omega, by go_num, HE.out, HB.out⟩
          case measure => simp [intOf]; omega
      · have t1 : (xs == s) = false := by simp; exact h
        have HE : Hid (forN (l.drop (k + 1)) s p = v) := by show _ = _; rw [← HR.out, HST.out, if_neg (by simp [h])]
        clear h
        go_wp2
        go_roundw
        case rel => exact ⟨k + 1, by omega, by go_num, HE.out, HB.out⟩
        case measure => simp [intOf]; omega
    · obtain rfl : k = n := by omega
      have HE : Hid (v = 0) := by show _ = _; rw [← HR.out, List.drop_eq_nil_of_le (by rw [HN.out]; omega)]; rfl
      go_wp2
      go_ret
      exact ⟨by rw [HE.out]; rfl, HB.out⟩
end Go.Proofs.Ytjdgpbjjhgfikaa.Srt
