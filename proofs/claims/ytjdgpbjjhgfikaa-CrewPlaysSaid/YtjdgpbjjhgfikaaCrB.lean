
/- New crews. Condition: at most a thousand partitions of a thousand cells each. -/

import Derived.Test.YtjdgpbjjhgfikaaCrA

import Derived.Maps.AppendAt

import Derived.Deep.Cut

namespace Go.Proofs.Ytjdgpbjjhgfikaa.Crw

open Go.RowKit Go.PlainAid Go.Proofs.Ytjdgpbjjhgfikaa.Args Go.Proofs.Ytjdgpbjjhgfikaa.Cel Go.Proofs.Ytjdgpbjjhgfikaa.Pt Go.Proofs.Ytjdgpbjjhgfikaa.Mpv

set_option linter.unusedVariables false

set_option linter.unusedSimpArgs false

/-- A partition that came in: what it is, where its cells lie. -/
structure AP where
  s : PK
  B : Option Addr
  c : Nat
def AP.ok (x : AP) (w : World) : Prop := CellsAt w x.B x.s.fs ∧ x.s.fs.length = x.s.n ∧ (x.B = none → x.c = 0) ∧ x.s.n ≤ x.c ∧ Mpv.I64 x.s.id
theorem AP.ok.kept {x : AP} {w w' : World} (h : x.ok w) (b : Below w.heap.size w w') : x.ok w' := ⟨h.1.kept b, h.2⟩
def PAt (w : World) (A : Option Addr) (l : List AP) : Prop :=
  ∀ i x, l[i]? = some x → ∃ y, A = some y ∧ w.cell? (y.add (i * 4)) = some (.int .i64 x.s.id) ∧ w.cell? ⟨(y.add (i * 4)).block, (y.add (i * 4)).off + 1, none⟩ = some (.string x.s.nm) ∧ w.cell? ⟨(y.add (i * 4)).block, (y.add (i * 4)).off + 2, none⟩ = some (.bool x.s.may) ∧ w.cell? ⟨(y.add (i * 4)).block, (y.add (i * 4)).off + 3, none⟩ = some (.slice x.B x.s.n x.c)
theorem PAt.kept {w w' : World} {A : Option Addr} {l : List AP} (h : PAt w A l) (b : Below w.heap.size w w') : PAt w' A l := by
  intro i x hx
  obtain ⟨y, e, h1, h2, h3, h4⟩ := h i x hx
  exact ⟨y, e, (b.cell (Go.block_lt_of_cell h1)).trans h1, (b.cell (Go.block_lt_of_cell h2)).trans h2, (b.cell (Go.block_lt_of_cell h3)).trans h3, (b.cell (Go.block_lt_of_cell h4)).trans h4⟩
theorem parts_in {w : World} {a : Option Addr} {len cap : Nat} (h : IsRows w a len cap [.one (.int .i64), .one .string, .one .bool, .recs [.int .u32, .bool]]) : ∃ l : List AP, l.length = len ∧ PAt w a l ∧ (∀ x ∈ l, x.ok w) ∧ (a = none → cap = 0) ∧ len ≤ cap ∧ cap ≤ maxLen := by
  rcases h with ⟨rfl, rfl, rfl⟩ | ⟨y, rfl, hlc, hcm, hcell⟩
  · exact ⟨[], rfl, fun i x hx => by simp at hx, by simp, fun _ => rfl, Nat.le_refl _, Nat.zero_le _⟩
  · obtain ⟨l, hl, hp⟩ := list_of (fun i (x : AP) => (w.cell? (y.add (i * 4)) = some (.int .i64 x.s.id) ∧ w.cell? ⟨(y.add (i * 4)).block, (y.add (i * 4)).off + 1, none⟩ = some (.string x.s.nm) ∧ w.cell? ⟨(y.add (i * 4)).block, (y.add (i * 4)).off + 2, none⟩ = some (.bool x.s.may) ∧ w.cell? ⟨(y.add (i * 4)).block, (y.add (i * 4)).off + 3, none⟩ = some (.slice x.B x.s.n x.c)) ∧ x.ok w) len (by
      intro i hi
      obtain ⟨_, c0, id, rfl, hid⟩ := hcell i hi 0 _ rfl
      obtain ⟨_, c1, nm, rfl, hnm⟩ := hcell i hi 1 _ rfl
      obtain ⟨_, c2, may, rfl⟩ := hcell i hi 2 _ rfl
      obtain ⟨_, c3, B, bl, bc, rfl, hr⟩ := hcell i hi 3 _ rfl
      obtain ⟨cs, hcl, hca, hcw, hcn, hc1, hc2⟩ := cells_of hr
      exact ⟨⟨⟨id, nm, may, cs, bl⟩, B, bc⟩, ⟨c0, c1, c2, c3⟩, hca, hcl, hcn, hc1, bounds_i64 hid⟩)
    refine ⟨l, hl, fun i x hx => ⟨y, rfl, (hp i x hx).1⟩, fun x hx => ?_, fun h => (by cases h), hlc, hcm⟩
    obtain ⟨i, hi, rfl⟩ := List.mem_iff_getElem.1 hx
    exact (hp i _ (List.getElem?_eq_getElem hi)).2
/-- What a partition is now. -/
structure QS where
  s : PK
  m : Int
  st : Int
  ca : Int
  ns : List Nat
  wr : Int
def CP.q (p : CP) : QS := ⟨p.s, p.m, p.st, p.ca, p.ns, p.wr⟩
def AP.q (x : AP) : QS := ⟨x.s, 1, 1, 0, x.s.fs.map C2.v, 0⟩
def Ris (l : List AP) : Prop := l.Pairwise fun a b => a.s.id < b.s.id
def NwPost (l : List AP) (w : World) (e : Ending) (w' : World) : Prop :=
  Below w.heap.size w w' ∧ ((Ris l ∧ ∃ g mb V L, e = .returned (.tuple #[.pointer (some ⟨g, 0, none⟩), .int .i64 0]) ∧ IsW w' w.heap.size g mb V L ∧ L.map CP.q = l.map AP.q) ∨ (¬ Ris l ∧ e = .returned (.tuple #[.pointer none, .int .i64 9])))
def NwRel (l : List AP) (w : World) (g mb n : Nat) (i : Value) (wr : World) : Prop :=
  ∃ k V L, k ≤ n ∧ i = .int .i64 ((k : Nat) : Int) ∧ IsW wr w.heap.size g mb V L ∧ L.map CP.q = (l.take k).map AP.q ∧ Ris (l.take k) ∧ Below w.heap.size w wr
theorem size_apt : (Try.prog.info? 39).map (·.size) = some 4 := by kernel_rfl
theorem ris_snoc {l : List AP} {x y : AP} {j : Nat} (h : Ris (l.take (j + 1))) (hx : l[j]? = some x) (hy : l[j + 1]? = some y) (hlt : x.s.id < y.s.id) : Ris (l.take (j + 2)) ∧ ∀ z ∈ l.take (j + 1), z.s.id < y.s.id := by
  have e2 : l.take (j + 2) = l.take (j + 1) ++ [y] := by rw [List.take_add_one, hy]; rfl
  have e1 : l.take (j + 1) = l.take j ++ [x] := by rw [List.take_add_one, hx]; rfl
  have hall : ∀ z ∈ l.take (j + 1), z.s.id < y.s.id := by
    intro z hz
    unfold Ris at h
    rw [e1] at hz h
    rw [List.pairwise_append] at h
    rcases List.mem_append.1 hz with hz | hz
    · have := h.2.2 z hz x (List.mem_singleton.2 rfl); omega
    · obtain rfl := List.mem_singleton.1 hz; exact hlt
  refine ⟨?_, hall⟩
  unfold Ris
  rw [e2, List.pairwise_append]
  exact ⟨h, List.pairwise_singleton _ _, fun a ha b hb => by obtain rfl := List.mem_singleton.1 hb; exact hall a ha⟩
theorem ris_no {l : List AP} {x y : AP} {j : Nat} (hx : l[j]? = some x) (hy : l[j + 1]? = some y) (hle : y.s.id ≤ x.s.id) : ¬ Ris l := fun h => by
  have hj : j + 1 < l.length := (List.getElem?_eq_some_iff.1 hy).1
  have h1 := List.pairwise_iff_getElem.1 h j (j + 1) (by omega) hj (by omega)
  rw [(List.getElem?_eq_some_iff.1 hx).2, (List.getElem?_eq_some_iff.1 hy).2] at h1
  omega
set_option maxRecDepth 8000 in
set_option maxHeartbeats 3200000 in
theorem new_any (A : Option Addr) (cap : Nat) (l : List AP) (w : World) (h : PAt w A l) (hok : ∀ x ∈ l, x.ok w ∧ x.s.n ≤ 1000) (hl : l.length ≤ 1000) :
    Calls Try.prog 8 #[.slice A l.length cap] w (NwPost l w) := by
  obtain ⟨n, hn⟩ : ∃ n, l.length = n := ⟨_, rfl⟩
  have HN := Lib.hid hn
  have HP := Lib.hid h
  have HOK := Lib.hid hok
  have HL : Hid (n ≤ 1000) := by show _ ≤ _; omega
  have hmm := @run_makeMap Try.prog
  have hw0 : IsW ((w.alloc (.map #[] 0)).alloc (.cells #[.map (some w.heap.size), .slice none 0 0] 88)) w.heap.size (w.heap.size + 1) w.heap.size (.slice none 0 0) [] := by
    refine ⟨?_, ?_, World.ownsRow_nil _ _ _ _, by omega, Nat.le_refl _, by omega, fun j hj => (by cases hj), fun p hp => (by cases hp), List.Pairwise.nil, List.Pairwise.nil⟩
    · have := heap_alloc_new (w.alloc (.map #[] 0)) (.cells #[.map (some w.heap.size), .slice none 0 0] 88)
      simpa using this
    · exact (map_made w).keep ((Below.refl _ _).alloc (Nat.le_refl _) _)
  have hb0 : Below w.heap.size w ((w.alloc (.map #[] 0)).alloc (.cells #[.map (some w.heap.size), .slice none 0 0] 88)) := ((Below.refl _ _).alloc (Nat.le_refl _) _).alloc (by simp) _
  have HS0 : Hid (NwRel l w (w.heap.size + 1) w.heap.size n (.int .i64 0) ((w.alloc (.map #[] 0)).alloc (.cells #[.map (some w.heap.size), .slice none 0 0] 88))) := ⟨0, _, [], Nat.zero_le _, rfl, hw0, rfl, List.Pairwise.nil, hb0⟩
  obtain ⟨W0, hW0⟩ : ∃ W, (w.alloc (.map #[] 0)).alloc (.cells #[.map (some w.heap.size), .slice none 0 0] 88) = W := ⟨_, rfl⟩
  rw [hW0] at HS0
  have HW0 := Lib.hid hW0
  rw [hn]
  clear h hok hl hn hw0 hb0 hW0
  go_enter Try.func8, Try.ntmps8
  go_upto_region 2 with fail
  rw [HW0.out]
  obtain ⟨g, hg⟩ : ∃ g, w.heap.size + 1 = g := ⟨_, rfl⟩
  obtain ⟨mb, hmb⟩ : ∃ b, w.heap.size = b := ⟨_, rfl⟩
  have HWM := Lib.hid hmb
  rw [hg] at HS0
  rw [hg]
  have e0 : NwRel l w g w.heap.size n (.int .i64 0) W0 := HS0.out
  rw [show NwRel l w g w.heap.size = NwRel l w g mb by rw [hmb]] at e0
  have HS1 := Lib.hid e0
  rw [hmb]
  clear HS0 HW0 e0 hg hmb hmm
  go_wp2_with fail
  go_loopw [12] (fun i wr => NwRel l w g mb n i wr) (fun i _ => n - (intOf i).toNat)
  case atStart => exact HS1.out
  case round =>
    obtain ⟨k, V, L, hk, rfl, hiw, hq, hris, hb⟩ := hrel
    have HIW := Lib.hid hiw
    have HQ := Lib.hid hq
    have HRI := Lib.hid hris
    have HB := Lib.hid hb
    clear hiw hq hris hb HS1
    by_cases hlt : k < n
    · obtain ⟨x, hx⟩ : ∃ x, l[k]? = some x := ⟨_, List.getElem?_eq_getElem (by rw [HN.out]; exact hlt)⟩
      have HX := Lib.hid hx
      obtain ⟨y, rfl, e1, e2, e3, e4⟩ := (HP.out.kept HB.out) k x hx
      have HLT := Lib.hid hlt
      have hkb : (k : Int) < n := by omega
      have hki : (0 : Int) ≤ k := by omega
      have HK1 : Hid (IntKind.i64.wrap ((k : Int) + 1) = (k : Int) + 1) := IntWalk.i64_in _ (by have := HL.out; omega)
      have hb5 : Below wr.heap.size wr (wr.alloc (.cells #[.int .i64 x.s.id, .string x.s.nm, .bool x.s.may, .slice x.B x.s.n x.c] 39)) := (Below.refl _ _).alloc (Nat.le_refl _) _
      have HIW5 := Lib.hid (HIW.out.keep hb5)
      have hx5 := heap_alloc_new wr (.cells #[.int .i64 x.s.id, .string x.s.nm, .bool x.s.may, .slice x.B x.s.n x.c] 39)
      have HBB := Lib.hid (HB.out.trans (hb5.mono HB.out.size))
      clear hlt hk hx hb5
      go_upto_region 5 with fail
      obtain ⟨W5, hW5⟩ : ∃ W, wr.alloc (.cells #[.int .i64 x.s.id, .string x.s.nm, .bool x.s.may, .slice x.B x.s.n x.c] 39) = W := ⟨_, rfl⟩
      obtain ⟨Q, hQ⟩ : ∃ Q, wr.heap.size = Q := ⟨_, rfl⟩
      rw [hW5] at hx5 HIW5 HBB
      rw [hQ] at hx5
      rw [hW5, hQ]
      have HX5 := Lib.hid hx5
      have x0 : W5.cell? ⟨Q, 0, none⟩ = some (.int .i64 x.s.id) := by rw [cell_of_row W5 _ _ _ _ _ hx5]; rfl
      have hcl : L.length = k := by
        have := congrArg List.length HQ.out
        rw [List.length_map, List.length_map, List.length_take] at this
        have := HLT.out; have := HN.out; omega
      have HCL := Lib.hid hcl
      have hwhat : (k = 0 ∨ ∃ j z, k = j + 1 ∧ l[j]? = some z ∧ z.s.id < x.s.id) ∨ (∃ j z, k = j + 1 ∧ l[j]? = some z ∧ x.s.id ≤ z.s.id) := by
        rcases Nat.eq_zero_or_pos k with h0 | h0
        · exact .inl (.inl h0)
        · obtain ⟨z, hz⟩ : ∃ z, l[k - 1]? = some z := ⟨_, List.getElem?_eq_getElem (by have := HLT.out; have := HN.out; omega)⟩
          by_cases hlz : z.s.id < x.s.id
          · exact .inl (.inr ⟨k - 1, z, by omega, hz, hlz⟩)
          · exact .inr ⟨k - 1, z, by omega, hz, by omega⟩
      clear hW5 hQ hx5 hcl e1 e2 e3 e4 HIW HB
      rcases hwhat with hgood | ⟨j, z, hkj, hz, hle⟩
      · have hrs : Ris (l.take (k + 1)) ∧ ∀ z ∈ l.take k, z.s.id < x.s.id := by
          rcases hgood with rfl | ⟨j, z, rfl, hz, hlz⟩
          · have e : l.take 1 = [x] := by rw [List.take_add_one, HX.out]; rfl
            exact ⟨by rw [e]; exact List.pairwise_singleton _ _, fun z hz => by simp at hz⟩
          · exact ris_snoc HRI.out hz HX.out hlz
        have HRS := Lib.hid hrs
        clear hrs HRI
        rcases hgood with rfl | ⟨j, z, hkj, hz, hlz⟩
        · have t0 : decide ((0 : Int) < ((0 : Nat) : Int)) = false := rfl
          have t0' : decide (0 < 0) = false := rfl
          go_quiet (fail)
          obtain ⟨W6, hW6⟩ : ∃ W, W5.drewN nq = W := ⟨_, rfl⟩
          have hb56 : Below W5.heap.size W5 W6 := by rw [← hW6]; exact ⟨rfl, rfl, rfl, Nat.le_refl _, fun _ _ => rfl⟩
          have HIW6 := Lib.hid (HIW5.out.keep hb56)
          have HX6 := Lib.hid ((hb56.block _ (lt_of_block HX5.out)).trans HX5.out)
          have HB6 := Lib.hid (HBB.out.trans (hb56.mono HBB.out.size))
          have hmem : x ∈ l := List.mem_of_getElem? HX.out
          have HPN := Lib.hid (new_part x.s.id x.s.nm x.s.may x.B x.c x.s.fs x.s.n W6 ((HOK.out x hmem).1.1.kept HB6.out) (HOK.out x hmem).1.2.2.1 (HOK.out x hmem).1.2.2.2.1 (HOK.out x hmem).1.2.1 (HOK.out x hmem).2)
          have HID : Hid (Mpv.I64 x.s.id ∧ x.s.n ≤ 1000) := ⟨(HOK.out x hmem).1.2.2.2.2, (HOK.out x hmem).2⟩
          rw [hW6]
          clear hW6 hb56 hmem HIW5 HX5 HBB x0 t0 t0'
          go_upto_region 7 with fail
          go_wp2_with ((with_reducible show wpList _ _ _ _ _ _); refine wpList_load_row rfl 39 (.tmp 6) rfl Q rfl 39 _ (0, 0) _ HX6.out Try.underlying39 rfl size_apt ?_)
          refine HPN.out.mono ?_
          rintro e w7 ⟨d, rfl, hp7, hb7⟩
          have HIW7 := Lib.hid (HIW6.out.keep hb7)
          have HB7 := Lib.hid (HB6.out.trans (hb7.mono HB6.out.size))
          obtain ⟨p, hp⟩ : ∃ p : CP, p = ⟨W6.heap.size, w7.heap.size, d, x.s, 1, 1, 0, x.s.fs.map C2.v, 0⟩ := ⟨_, rfl⟩
          have hon : p.On w7 := by rw [hp]; exact hp7
          have hpq : p.q = x.q := by rw [hp]; rfl
          have hps : p.s = x.s := by rw [hp]
          have hplo : p.lo = W6.heap.size := by rw [hp]
          have HPP : Hid (p.ptr = .pointer (some ⟨d.g, 0, none⟩)) := by show _ = _; rw [hp]; rfl
          have HPQ := Lib.hid hpq
          have HAD := Lib.hid (add_any HIW7.out hon (by rw [hplo]; exact HB6.out.size) (by rw [hps]; exact HID.out.1) (by rw [hps]; exact HID.out.2) (.inl (by rw [hplo]; exact lt_of_block HIW6.out.box)) (.inl (by rw [hplo]; exact HIW6.out.mp.blk)) (fun j hj => .inl (by rw [hplo]; exact (HIW6.out.row.lt j hj).2)) (fun q hq => by
            refine ⟨by rw [hplo]; exact (HIW6.out.pt q hq).1.hs, ?_⟩
            have h1 : q.q ∈ (l.take 0).map AP.q := by rw [← HQ.out]; exact List.mem_map.2 ⟨q, hq, rfl⟩
            obtain ⟨z, hz, hzq⟩ := List.mem_map.1 h1
            have h2 := HRS.out.2 z hz
            have h3 : z.s = q.s := congrArg QS.s hzq
            rw [← h3, hps]; exact h2) (by have := HCL.out; have := HLT.out; have := HL.out; omega))
          rw [HPP.out] at HAD
          clear hp hon hpq hps hplo hp7 hb7 HIW6 HX6 HPN HPP
          go_wp2_with fail
          refine HAD.out.mono ?_
          rintro e w8 ⟨rfl, ⟨V8, hiw8, -⟩, hb8⟩
          have HIW8 := Lib.hid hiw8
          have HB8 := Lib.hid (HB7.out.trans hb8)
          clear hiw8 hb8 HAD
          have hk1 := HK1.out
          go_wp2
          go_roundw
          case rel => exact ⟨0 + 1, V8, L ++ [p], HLT.out, by go_num, HIW8.out, by rw [List.map_append, HQ.out, List.take_add_one, HX.out, List.map_append, List.map_singleton, HPQ.out]; rfl, HRS.out.1, HB8.out⟩
          case measure => have := HLT.out; simp [intOf]; omega
        · obtain ⟨y', hy', f1, f2, f3, f4⟩ := (HP.out.kept HBB.out) j z hz
          obtain rfl := Option.some.inj hy'
          have t0 : decide ((0 : Int) < (k : Int)) = true := decide_eq_true (by omega)
          have t0' : decide (0 < k) = true := decide_eq_true (by omega)
          have t1 : decide (x.s.id ≤ z.s.id) = false := decide_eq_false (by omega)
          have hw1 : IntKind.i64.wrap ((k : Int) - 1) = (j : Int) := by rw [IntWalk.i64_in _ (by have := HL.out; have := HLT.out; omega)]; omega
          have hj0 : (0 : Int) ≤ j := by omega
          have hjn : (j : Int) < n := by have := HLT.out; omega
          clear hlz hkj hz f2 f3 f4
          go_quiet (fail)
          obtain ⟨W6, hW6⟩ : ∃ W, W5.drewN nq = W := ⟨_, rfl⟩
          have hb56 : Below W5.heap.size W5 W6 := by rw [← hW6]; exact ⟨rfl, rfl, rfl, Nat.le_refl _, fun _ _ => rfl⟩
          have HIW6 := Lib.hid (HIW5.out.keep hb56)
          have HX6 := Lib.hid ((hb56.block _ (lt_of_block HX5.out)).trans HX5.out)
          have HB6 := Lib.hid (HBB.out.trans (hb56.mono HBB.out.size))
          have hmem : x ∈ l := List.mem_of_getElem? HX.out
          have HPN := Lib.hid (new_part x.s.id x.s.nm x.s.may x.B x.c x.s.fs x.s.n W6 ((HOK.out x hmem).1.1.kept HB6.out) (HOK.out x hmem).1.2.2.1 (HOK.out x hmem).1.2.2.2.1 (HOK.out x hmem).1.2.1 (HOK.out x hmem).2)
          have HID : Hid (Mpv.I64 x.s.id ∧ x.s.n ≤ 1000) := ⟨(HOK.out x hmem).1.2.2.2.2, (HOK.out x hmem).2⟩
          rw [hW6]
          clear hW6 hb56 hmem HIW5 HX5 HBB x0 t0 t0'
          go_upto_region 7 with fail
          go_wp2_with ((with_reducible show wpList _ _ _ _ _ _); refine wpList_load_row rfl 39 (.tmp 6) rfl Q rfl 39 _ (0, 0) _ HX6.out Try.underlying39 rfl size_apt ?_)
          refine HPN.out.mono ?_
          rintro e w7 ⟨d, rfl, hp7, hb7⟩
          have HIW7 := Lib.hid (HIW6.out.keep hb7)
          have HB7 := Lib.hid (HB6.out.trans (hb7.mono HB6.out.size))
          obtain ⟨p, hp⟩ : ∃ p : CP, p = ⟨W6.heap.size, w7.heap.size, d, x.s, 1, 1, 0, x.s.fs.map C2.v, 0⟩ := ⟨_, rfl⟩
          have hon : p.On w7 := by rw [hp]; exact hp7
          have hpq : p.q = x.q := by rw [hp]; rfl
          have hps : p.s = x.s := by rw [hp]
          have hplo : p.lo = W6.heap.size := by rw [hp]
          have HPP : Hid (p.ptr = .pointer (some ⟨d.g, 0, none⟩)) := by show _ = _; rw [hp]; rfl
          have HPQ := Lib.hid hpq
          have HAD := Lib.hid (add_any HIW7.out hon (by rw [hplo]; exact HB6.out.size) (by rw [hps]; exact HID.out.1) (by rw [hps]; exact HID.out.2) (.inl (by rw [hplo]; exact lt_of_block HIW6.out.box)) (.inl (by rw [hplo]; exact HIW6.out.mp.blk)) (fun j hj => .inl (by rw [hplo]; exact (HIW6.out.row.lt j hj).2)) (fun q hq => by
            refine ⟨by rw [hplo]; exact (HIW6.out.pt q hq).1.hs, ?_⟩
            have h1 : q.q ∈ (l.take k).map AP.q := by rw [← HQ.out]; exact List.mem_map.2 ⟨q, hq, rfl⟩
            obtain ⟨z, hz, hzq⟩ := List.mem_map.1 h1
            have h2 := HRS.out.2 z hz
            have h3 : z.s = q.s := congrArg QS.s hzq
            rw [← h3, hps]; exact h2) (by have := HCL.out; have := HLT.out; have := HL.out; omega))
          rw [HPP.out] at HAD
          clear hp hon hpq hps hplo hp7 hb7 HIW6 HX6 HPN HPP
          go_wp2_with fail
          refine HAD.out.mono ?_
          rintro e w8 ⟨rfl, ⟨V8, hiw8, -⟩, hb8⟩
          have HIW8 := Lib.hid hiw8
          have HB8 := Lib.hid (HB7.out.trans hb8)
          clear hiw8 hb8 HAD
          have hk1 := HK1.out
          go_wp2
          go_roundw
          case rel => exact ⟨k + 1, V8, L ++ [p], HLT.out, by go_num, HIW8.out, by rw [List.map_append, HQ.out, List.take_add_one, HX.out, List.map_append, List.map_singleton, HPQ.out]; rfl, HRS.out.1, HB8.out⟩
          case measure => have := HLT.out; simp [intOf]; omega
      · obtain ⟨y', hy', f1, f2, f3, f4⟩ := (HP.out.kept HBB.out) j z hz
        obtain rfl := Option.some.inj hy'
        have HNR := Lib.hid (ris_no hz (by rw [← hkj]; exact HX.out) hle)
        have t0 : decide ((0 : Int) < (k : Int)) = true := decide_eq_true (by omega)
        have t0' : decide (0 < k) = true := decide_eq_true (by omega)
        have t1 : decide (x.s.id ≤ z.s.id) = true := decide_eq_true hle
        have hw1 : IntKind.i64.wrap ((k : Int) - 1) = (j : Int) := by rw [IntWalk.i64_in _ (by have := HL.out; have := HLT.out; omega)]; omega
        have hj0 : (0 : Int) ≤ j := by omega
        have hjn : (j : Int) < n := by have := HLT.out; omega
        clear hle hkj hz f2 f3 f4
        go_quiet (fail)
        go_wp2
        simp [bodyPost, results, Try.results8, go_sem]
        exact ⟨HBB.out.trans ⟨rfl, rfl, rfl, Nat.le_refl _, fun _ _ => rfl⟩, .inr ⟨HNR.out, rfl⟩⟩
    · obtain rfl : k = n := by omega
      have hfull : l.take k = l := List.take_of_length_le (by rw [HN.out]; exact Nat.le_refl _)
      rw [hfull] at HQ HRI
      clear hfull hk hlt
      go_wp2
      simp [bodyPost, results, Try.results8, go_sem]
      exact ⟨HB.out, .inl ⟨HRI.out, _, _, _, _, rfl, HIW.out, HQ.out⟩⟩
end Go.Proofs.Ytjdgpbjjhgfikaa.Crw
