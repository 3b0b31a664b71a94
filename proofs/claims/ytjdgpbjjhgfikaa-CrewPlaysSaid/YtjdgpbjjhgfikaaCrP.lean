
/- The document's new crews. Condition: at most a thousand partitions of a thousand cells each. -/

import Derived.Test.YtjdgpbjjhgfikaaCrO

namespace Go.Proofs.Ytjdgpbjjhgfikaa.Crw

open Go.RowKit Go.PlainAid Go.Proofs.Ytjdgpbjjhgfikaa.Args Go.Proofs.Ytjdgpbjjhgfikaa.Cel Go.Proofs.Ytjdgpbjjhgfikaa.Pt Go.Proofs.Ytjdgpbjjhgfikaa.Mpv

set_option linter.unusedVariables false

set_option linter.unusedSimpArgs false

theorem nums_grownE {w w' : World} {V : Option Addr} {l : List Nat} {R : Option Nat} (h : NumsAt w V l) (hg : w.grownBy w' R) (ho : l ≠ [] → ∀ y, V = some y → R ≠ some y.block) : NumsAt w' V l := by
  by_cases hl : l = []
  · subst hl; intro i v hi; simp at hi
  · exact nums_grown h hg (ho hl)
/-- A row that grows: no one's numbers lie in it. -/
def ROut (W : World) (B : Nat) (V : Value) (out : List RX) : Prop := RRow W B V out ∧ ∀ r ∈ out, r.ns ≠ [] → ∀ y, r.N = some y → V.ownBlock ≠ some y.block
theorem ROut.keep {W W' : World} {B : Nat} {V : Value} {out : List RX} (h : ROut W B V out) (b : Below W.heap.size W W') : ROut W' B V out := ⟨h.1.keep b, h.2⟩
/-- One more. -/
theorem ROut.grown {W W' : World} {B : Nat} {V V' : Value} {out : List RX} {r : RX} (h : ROut W B V out) (hr : r.ok W) (hrn : r.ns ≠ [] → ∀ y, r.N = some y → V.ownBlock ≠ some y.block) (hrc : CellsAt W' r.B r.s.fs) (hoc : ∀ o ∈ out, CellsAt W' o.B o.s.fs)
    (ho : W'.ownsRow B 51 10 V' (out.length + 1) (flR out ++ r.blk)) (hg : W.grownBy W' V.ownBlock) (hat : V'.ownBlock = V.ownBlock ∨ V'.ownBlock = some W.heap.size) : ROut W' B V' (out ++ [r]) := by
  have hne : ∀ (o : RX), o.ok W → (o.ns ≠ [] → ∀ y, o.N = some y → V.ownBlock ≠ some y.block) → o.ns ≠ [] → ∀ y, o.N = some y → V'.ownBlock ≠ some y.block := fun o h1 h2 h3 y hy e => by
    rcases hat with e9 | e9
    · rw [e9] at e; exact h2 h3 y hy e
    · rw [e9] at e
      have h4 := NumsAt.lt h1.1 h3 y hy
      have := Option.some.inj e
      omega
  refine ⟨⟨by rw [List.length_append, flR_snoc]; exact ho, fun o hm => ?_⟩, fun o hm => ?_⟩
  · rcases List.mem_append.1 hm with hm | hm
    · have h1 := h.1.2 o hm
      exact ⟨nums_grownE h1.1 hg (h.2 o hm), h1.2.1, hoc o hm, h1.2.2.2⟩
    · obtain rfl := List.mem_singleton.1 hm
      exact ⟨nums_grownE hr.1 hg hrn, hr.2.1, hrc, hr.2.2.2⟩
  · rcases List.mem_append.1 hm with hm | hm
    · exact hne o (h.1.2 o hm) (h.2 o hm)
    · obtain rfl := List.mem_singleton.1 hm
      exact hne o hr hrn
def RNwPost (l : List AP) (w : World) (e : Ending) (w' : World) : Prop :=
  Below w.heap.size w w' ∧ ((Ris l ∧ ∃ V out, e = .returned (.tuple #[V, .bool true]) ∧ RRow w' w.heap.size V out ∧ out.map RX.q = l.map AP.q ∧ (out.map (fun r => (r.B, r.bc)) = l.map fun x => (x.B, x.c)) ∧ ∀ r ∈ out, ∀ y, r.N = some y → w.heap.size ≤ y.block) ∨ (¬ Ris l ∧ e = .returned (.tuple #[.slice none 0 0, .bool false])))
def RNwRel (l : List AP) (w : World) (n : Nat) (V i : Value) (W : World) : Prop :=
  ∃ k out, k ≤ n ∧ i = .int .i64 ((k : Nat) : Int) ∧ ROut W w.heap.size V out ∧ out.map RX.q = (l.take k).map AP.q ∧ out.map (fun r => (r.B, r.bc)) = (l.take k).map (fun x => (x.B, x.c)) ∧ Ris (l.take k) ∧ (∀ r ∈ out, ∀ y, r.N = some y → w.heap.size ≤ y.block) ∧ Below w.heap.size w W
set_option maxRecDepth 8000 in
set_option maxHeartbeats 3200000 in
theorem rnew22_any (A : Option Addr) (cap : Nat) (l : List AP) (w : World) (h : PAt w A l) (hok : ∀ x ∈ l, x.ok w ∧ x.s.n ≤ 1000) (hl : l.length ≤ 1000) :
    Calls Try.prog 9 #[.slice A l.length cap] w (RNwPost l w) := by
  obtain ⟨i0, hi0, hz0, hz1, hz2⟩ := info_parts infoPart
  obtain ⟨n, hn⟩ : ∃ n, l.length = n := ⟨_, rfl⟩
  have HN := Lib.hid hn
  have HP := Lib.hid h
  have HOK := Lib.hid hok
  have HL : Hid (n ≤ 1000) := by show _ ≤ _; omega
  have hb0 : Below w.heap.size w (w.alloc (.cells #[] 51)) := (Below.refl _ _).alloc (Nat.le_refl _) _
  have how : (w.alloc (.cells #[] 51)).ownsRow w.heap.size 51 10 (.slice (some ⟨w.heap.size, 0, none⟩) 0 0) 0 [] := World.ownsRow_lit w #[] 0 (Nat.le_refl _) (by unfold maxLen; omega) rfl
  have HS0 : Hid (RNwRel l w n (.slice (some ⟨w.heap.size, 0, none⟩) 0 0) (.int .i64 0) (w.alloc (.cells #[] 51))) := ⟨0, [], Nat.zero_le _, rfl, ⟨⟨how, fun r hr => by simp at hr⟩, fun r hr => by simp at hr⟩, rfl, rfl, List.Pairwise.nil, fun r hr => by simp at hr, hb0⟩
  rw [hn]
  clear h hok hl hn hb0 how
  go_enter Try.func9, Try.ntmps9
  go_wp2_with fail
  go_loopw [4, 5] (fun V i wr => RNwRel l w n V i wr) (fun _ i _ => n - (intOf i).toNat)
  case atStart => exact HS0.out
  case round =>
    obtain ⟨k, out, hk, rfl, hrow, hq, hbc, hris, hnn, hb⟩ := hrel
    have HNN := Lib.hid hnn
    obtain ⟨AO, cO, rfl⟩ := own_slice hrow.1.1
    have HRW := Lib.hid hrow
    have HQ := Lib.hid hq
    have HBC := Lib.hid hbc
    have HRI := Lib.hid hris
    have HB := Lib.hid hb
    have hol : out.length = k := by
      have := congrArg List.length hq
      rw [List.length_map, List.length_map, List.length_take] at this
      have := HN.out; omega
    have HOL := Lib.hid hol
    rw [hol]
    clear hrow hq hbc hris hnn hb HS0 hol
    by_cases hlt : k < n
    · obtain ⟨x, hx⟩ : ∃ x, l[k]? = some x := ⟨_, List.getElem?_eq_getElem (by rw [HN.out]; exact hlt)⟩
      have HX := Lib.hid hx
      obtain ⟨y, rfl, e1, e2, e3, e4⟩ := (HP.out.kept HB.out) k x hx
      have HLT := Lib.hid hlt
      have hkb : (k : Int) < n := by omega
      have hki : (0 : Int) ≤ k := by omega
      have HK1 : Hid (IntKind.i64.wrap ((k : Int) + 1) = (k : Int) + 1) := IntWalk.i64_in _ (by have := HL.out; omega)
      have hwhat : (k = 0 ∨ ∃ j z, k = j + 1 ∧ l[j]? = some z ∧ z.s.id < x.s.id) ∨ (∃ j z, k = j + 1 ∧ l[j]? = some z ∧ x.s.id ≤ z.s.id) := by
        rcases Nat.eq_zero_or_pos k with h0 | h0
        · exact .inl (.inl h0)
        · obtain ⟨z, hz⟩ : ∃ z, l[k - 1]? = some z := ⟨_, List.getElem?_eq_getElem (by have := HLT.out; have := HN.out; omega)⟩
          by_cases hlz : z.s.id < x.s.id
          · exact .inl (.inr ⟨k - 1, z, by omega, hz, hlz⟩)
          · exact .inr ⟨k - 1, z, by omega, hz, by omega⟩
      clear hx
      rcases hwhat with hgood | ⟨j, z, hkj, hz, hle⟩
      · have hrs : Ris (l.take (k + 1)) := by
          rcases hgood with rfl | ⟨j, z, rfl, hz, hlz⟩
          · have e : l.take 1 = [x] := by rw [List.take_add_one, HX.out]; rfl
            rw [e]; exact List.pairwise_singleton _ _
          · exact (ris_snoc HRI.out hz HX.out hlz).1
        have HRS := Lib.hid hrs
        have hmem : x ∈ l := List.mem_of_getElem? HX.out
        have HPN := Lib.hid (fun q => rnewp_any x.s.id x.s.nm x.s.may x.B x.c x.s.fs x.s.n (wr.drewN q) ((HOK.out x hmem).1.1.kept (HB.out.trans ⟨rfl, rfl, rfl, Nat.le_refl _, fun _ _ => rfl⟩)) (HOK.out x hmem).1.2.1 (HOK.out x hmem).2)
        have HXO := Lib.hid (HOK.out x hmem)
        clear hrs hmem
        have hguard : k = 0 ∨ ∃ j z, k = j + 1 ∧ l[j]? = some z ∧ z.s.id < x.s.id := hgood
        clear hgood
        rcases hguard with hk0 | ⟨j, z, hkj, hz, hlz⟩
        · have t0 : decide ((0 : Int) < (k : Int)) = false := decide_eq_false (by omega)
          have t0' : decide (0 < k) = false := decide_eq_false (by omega)
          clear hlt hk hk0
          go_wp2_with fail
          go_quiet (fail)
          go_wp2_with fail
          refine (HPN.out _).mono ?_
          rintro e w2 ⟨N', nc, rfl, hnum, hnb, hb2⟩
          have hbq : Below w.heap.size w (wr.drewN nq) := HB.out.trans ⟨rfl, rfl, rfl, Nat.le_refl _, fun _ _ => rfl⟩
          have hb3 : Below w2.heap.size w2 (w2.alloc (.cells #[.int .i64 x.s.id, .string x.s.nm, .bool x.s.may, .slice x.B x.s.n x.c, .int .i64 1, .int .i64 1, .int .i64 0, .slice x.B x.s.n x.c, .slice N' x.s.n nc, .int .i64 0] 51)) := (Below.refl _ _).alloc (Nat.le_refl _) _
          have HB3 := Lib.hid ((hbq.trans (hb2.mono hbq.size)).trans (hb3.mono (Nat.le_trans hbq.size hb2.size)))
          have hbr : Below wr.heap.size wr (wr.drewN nq) := ⟨rfl, rfl, rfl, Nat.le_refl _, fun _ _ => rfl⟩
          have hb13 := (hbr.trans (hb2.mono hbr.size)).trans (hb3.mono (Nat.le_trans hbr.size hb2.size))
          have HR3 := Lib.hid (HRW.out.keep hb13)
          have hro := HR3.out.1.1
          rw [HOL.out] at hro
          have HO3 := Lib.hid hro
          have HNM := Lib.hid (hnum.kept hb3)
          have HNB : Hid (∀ y, N' = some y → wr.heap.size ≤ y.block) := fun y hy => by
            rcases hnb y hy with h | h
            · exact h
            · cases h
          have HOB : Hid (∀ j, (Value.slice AO k cO).ownBlock = some j → j < wr.heap.size) := fun j hj => by
            have := HRW.out.1.1.lt j
            rw [HOL.out] at this
            exact (this hj).2
          have HWS : Hid (w.heap.size ≤ w2.heap.size + 1) := by show _ ≤ _; have := Nat.le_trans hbq.size hb2.size; omega
          clear hnum hnb hb2 hbq hb3 hbr hb13 hro HPN e1 e2 e3 e4
          go_wp2_with (at_builtin; refine wpList_append_own_at _ rfl _ _ 31 rfl w.heap.size 51 i0 _ 10 136 Try.underlying31 hi0 hz0 hz1 hz2 rfl (by decide) _ k (flR out) rfl HO3.out ⟨w2.heap.size, 0, none⟩ 1 1 [.int .i64 x.s.id, .string x.s.nm, .bool x.s.may, .slice x.B x.s.n x.c, .int .i64 1, .int .i64 1, .int .i64 0, .slice x.B x.s.n x.c, .slice N' x.s.n nc, .int .i64 0] rfl rfl ?c1 ?c2 ?c3 ?c4 ?c5 ?_)
          case c1 =>
            intro j u hj
            have hrow := heap_alloc_new w2 (.cells #[.int .i64 x.s.id, .string x.s.nm, .bool x.s.may, .slice x.B x.s.n x.c, .int .i64 1, .int .i64 1, .int .i64 0, .slice x.B x.s.n x.c, .slice N' x.s.n nc, .int .i64 0] 51)
            rw [add_blk, cell_of_row _ _ _ _ _ _ hrow, ← hj]
            simp
          case c2 => intro u hu; simp at hu; rcases hu with rfl | rfl | rfl | rfl | rfl | rfl | rfl | rfl | rfl | rfl <;> rfl
          case c3 => have := HL.out; have := HLT.out; unfold maxLen; omega
          case c4 => have := HL.out; have := HLT.out; omega
          case c5 => have := HWS.out; simp; omega
          intro V4 W4 ho4 hg4 _ hat4
          have HB4 := Lib.hid (HB3.out.grown hg4 HB3.out.size (fun j hj => (HO3.out.lt j hj).1))
          have hcel : ∀ (B : Option Addr) (fs : List C2), CellsAt w B fs → CellsAt W4 B fs := fun B fs h => h.kept HB4.out
          have HO4 : Hid (ROut W4 w.heap.size V4 (out ++ [(⟨x.s, x.B, x.c, 1, 1, 0, N', nc, x.s.fs.map C2.v, 0⟩ : RX)])) := by
            refine HR3.out.grown (V := .slice AO out.length cO) (V' := V4) ?_ ?_ ?_ ?_ ?_ ?_ ?_
            · exact ⟨HNM.out, by show (x.s.fs.map C2.v).length = x.s.n; rw [List.length_map]; exact HXO.out.1.2.1, HXO.out.1.1.kept HB3.out, HXO.out.1.2.1, HXO.out.2⟩
            · intro _ y' hy' e
              have h1 := HNB.out y' hy'
              have h2 := HOB.out y'.block (by rw [← HOL.out]; exact e)
              omega
            · exact hcel _ _ HXO.out.1.1
            · intro o ho
              have h1 : o.q ∈ (l.take k).map AP.q := by rw [← HQ.out]; exact List.mem_map.2 ⟨o, ho, rfl⟩
              have h2 : (o.B, o.bc) ∈ (l.take k).map fun x => (x.B, x.c) := by rw [← HBC.out]; exact List.mem_map.2 ⟨o, ho, rfl⟩
              obtain ⟨i, hi, hio⟩ := List.mem_iff_getElem.1 ho
              have g1 : (out.map RX.q)[i]? = some o.q := by rw [List.getElem?_map, List.getElem?_eq_getElem hi, hio]; rfl
              have g2 : (out.map fun r => (r.B, r.bc))[i]? = some (o.B, o.bc) := by rw [List.getElem?_map, List.getElem?_eq_getElem hi, hio]; rfl
              rw [HQ.out, List.getElem?_map] at g1
              rw [HBC.out, List.getElem?_map] at g2
              obtain ⟨z, hz, hzq⟩ := Option.map_eq_some_iff.1 g1
              rw [hz] at g2
              have hzm : z ∈ l := List.mem_of_mem_take (List.mem_of_getElem? hz)
              have e1 : z.s = o.s := congrArg QS.s hzq
              have e2 : (z.B, z.c) = (o.B, o.bc) := by simpa using g2
              injection e2 with e3 e4
              rw [← e1, ← e3]
              exact hcel _ _ (HOK.out z hzm).1.1
            · rw [HOL.out]; exact ho4
            · rw [HOL.out]; exact hg4
            · rw [HOL.out]; simpa using hat4
          have e1 : l.take (k + 1) = l.take k ++ [x] := by rw [List.take_add_one, HX.out]; rfl
          have HE1 := Lib.hid e1
          have hk1 := HK1.out
          have HNN4 : Hid (∀ r ∈ out ++ [(⟨x.s, x.B, x.c, 1, 1, 0, N', nc, x.s.fs.map C2.v, 0⟩ : RX)], ∀ y, r.N = some y → w.heap.size ≤ y.block) := fun r hr y hy => by
            rcases List.mem_append.1 hr with hr | hr
            · exact HNN.out r hr y hy
            · obtain rfl := List.mem_singleton.1 hr
              exact Nat.le_trans HB.out.size (HNB.out y hy)
          clear ho4 hg4 hat4 hcel HO3 HR3 HNM HNB HOB HRW e1
          go_wp2
          go_roundw
          case rel => exact ⟨k + 1, _, HLT.out, by go_num, HO4.out, by rw [List.map_append, HQ.out, HE1.out, List.map_append]; rfl, by rw [List.map_append, HBC.out, HE1.out, List.map_append]; rfl, HRS.out, HNN4.out, HB4.out⟩
          case measure => have := HLT.out; simp [intOf]; omega
        · obtain ⟨y', hy', f1, f2, f3, f4⟩ := (HP.out.kept HB.out) j z hz
          obtain rfl := Option.some.inj hy'
          have t0 : decide ((0 : Int) < (k : Int)) = true := decide_eq_true (by omega)
          have t0' : decide (0 < k) = true := decide_eq_true (by omega)
          have t1 : decide (x.s.id ≤ z.s.id) = false := decide_eq_false (by omega)
          have hw1 : IntKind.i64.wrap ((k : Int) - 1) = (j : Int) := by rw [IntWalk.i64_in _ (by have := HL.out; have := HLT.out; omega)]; omega
          have hj0 : (0 : Int) ≤ j := by omega
          have hjn : (j : Int) < n := by have := HLT.out; omega
          clear hlz hkj hz f2 f3 f4 hlt hk
          go_wp2_with fail
          go_quiet (fail)
          go_wp2_with fail
          refine (HPN.out _).mono ?_
          rintro e w2 ⟨N', nc, rfl, hnum, hnb, hb2⟩
          have hbq : Below w.heap.size w (wr.drewN nq) := HB.out.trans ⟨rfl, rfl, rfl, Nat.le_refl _, fun _ _ => rfl⟩
          have hb3 : Below w2.heap.size w2 (w2.alloc (.cells #[.int .i64 x.s.id, .string x.s.nm, .bool x.s.may, .slice x.B x.s.n x.c, .int .i64 1, .int .i64 1, .int .i64 0, .slice x.B x.s.n x.c, .slice N' x.s.n nc, .int .i64 0] 51)) := (Below.refl _ _).alloc (Nat.le_refl _) _
          have HB3 := Lib.hid ((hbq.trans (hb2.mono hbq.size)).trans (hb3.mono (Nat.le_trans hbq.size hb2.size)))
          have hbr : Below wr.heap.size wr (wr.drewN nq) := ⟨rfl, rfl, rfl, Nat.le_refl _, fun _ _ => rfl⟩
          have hb13 := (hbr.trans (hb2.mono hbr.size)).trans (hb3.mono (Nat.le_trans hbr.size hb2.size))
          have HR3 := Lib.hid (HRW.out.keep hb13)
          have hro := HR3.out.1.1
          rw [HOL.out] at hro
          have HO3 := Lib.hid hro
          have HNM := Lib.hid (hnum.kept hb3)
          have HNB : Hid (∀ y, N' = some y → wr.heap.size ≤ y.block) := fun y hy => by
            rcases hnb y hy with h | h
            · exact h
            · cases h
          have HOB : Hid (∀ j, (Value.slice AO k cO).ownBlock = some j → j < wr.heap.size) := fun j hj => by
            have := HRW.out.1.1.lt j
            rw [HOL.out] at this
            exact (this hj).2
          have HWS : Hid (w.heap.size ≤ w2.heap.size + 1) := by show _ ≤ _; have := Nat.le_trans hbq.size hb2.size; omega
          clear hnum hnb hb2 hbq hb3 hbr hb13 hro HPN e1 e2 e3 e4
          go_wp2_with (at_builtin; refine wpList_append_own_at _ rfl _ _ 31 rfl w.heap.size 51 i0 _ 10 136 Try.underlying31 hi0 hz0 hz1 hz2 rfl (by decide) _ k (flR out) rfl HO3.out ⟨w2.heap.size, 0, none⟩ 1 1 [.int .i64 x.s.id, .string x.s.nm, .bool x.s.may, .slice x.B x.s.n x.c, .int .i64 1, .int .i64 1, .int .i64 0, .slice x.B x.s.n x.c, .slice N' x.s.n nc, .int .i64 0] rfl rfl ?c1 ?c2 ?c3 ?c4 ?c5 ?_)
          case c1 =>
            intro j u hj
            have hrow := heap_alloc_new w2 (.cells #[.int .i64 x.s.id, .string x.s.nm, .bool x.s.may, .slice x.B x.s.n x.c, .int .i64 1, .int .i64 1, .int .i64 0, .slice x.B x.s.n x.c, .slice N' x.s.n nc, .int .i64 0] 51)
            rw [add_blk, cell_of_row _ _ _ _ _ _ hrow, ← hj]
            simp
          case c2 => intro u hu; simp at hu; rcases hu with rfl | rfl | rfl | rfl | rfl | rfl | rfl | rfl | rfl | rfl <;> rfl
          case c3 => have := HL.out; have := HLT.out; unfold maxLen; omega
          case c4 => have := HL.out; have := HLT.out; omega
          case c5 => have := HWS.out; simp; omega
          intro V4 W4 ho4 hg4 _ hat4
          have HB4 := Lib.hid (HB3.out.grown hg4 HB3.out.size (fun j hj => (HO3.out.lt j hj).1))
          have hcel : ∀ (B : Option Addr) (fs : List C2), CellsAt w B fs → CellsAt W4 B fs := fun B fs h => h.kept HB4.out
          have HO4 : Hid (ROut W4 w.heap.size V4 (out ++ [(⟨x.s, x.B, x.c, 1, 1, 0, N', nc, x.s.fs.map C2.v, 0⟩ : RX)])) := by
            refine HR3.out.grown (V := .slice AO out.length cO) (V' := V4) ?_ ?_ ?_ ?_ ?_ ?_ ?_
            · exact ⟨HNM.out, by show (x.s.fs.map C2.v).length = x.s.n; rw [List.length_map]; exact HXO.out.1.2.1, HXO.out.1.1.kept HB3.out, HXO.out.1.2.1, HXO.out.2⟩
            · intro _ y' hy' e
              have h1 := HNB.out y' hy'
              have h2 := HOB.out y'.block (by rw [← HOL.out]; exact e)
              omega
            · exact hcel _ _ HXO.out.1.1
            · intro o ho
              have h1 : o.q ∈ (l.take k).map AP.q := by rw [← HQ.out]; exact List.mem_map.2 ⟨o, ho, rfl⟩
              have h2 : (o.B, o.bc) ∈ (l.take k).map fun x => (x.B, x.c) := by rw [← HBC.out]; exact List.mem_map.2 ⟨o, ho, rfl⟩
              obtain ⟨i, hi, hio⟩ := List.mem_iff_getElem.1 ho
              have g1 : (out.map RX.q)[i]? = some o.q := by rw [List.getElem?_map, List.getElem?_eq_getElem hi, hio]; rfl
              have g2 : (out.map fun r => (r.B, r.bc))[i]? = some (o.B, o.bc) := by rw [List.getElem?_map, List.getElem?_eq_getElem hi, hio]; rfl
              rw [HQ.out, List.getElem?_map] at g1
              rw [HBC.out, List.getElem?_map] at g2
              obtain ⟨z, hz, hzq⟩ := Option.map_eq_some_iff.1 g1
              rw [hz] at g2
              have hzm : z ∈ l := List.mem_of_mem_take (List.mem_of_getElem? hz)
              have e1 : z.s = o.s := congrArg QS.s hzq
              have e2 : (z.B, z.c) = (o.B, o.bc) := by simpa using g2
              injection e2 with e3 e4
              rw [← e1, ← e3]
              exact hcel _ _ (HOK.out z hzm).1.1
            · rw [HOL.out]; exact ho4
            · rw [HOL.out]; exact hg4
            · rw [HOL.out]; simpa using hat4
          have e1 : l.take (k + 1) = l.take k ++ [x] := by rw [List.take_add_one, HX.out]; rfl
          have HE1 := Lib.hid e1
          have hk1 := HK1.out
          have HNN4 : Hid (∀ r ∈ out ++ [(⟨x.s, x.B, x.c, 1, 1, 0, N', nc, x.s.fs.map C2.v, 0⟩ : RX)], ∀ y, r.N = some y → w.heap.size ≤ y.block) := fun r hr y hy => by
            rcases List.mem_append.1 hr with hr | hr
            · exact HNN.out r hr y hy
            · obtain rfl := List.mem_singleton.1 hr
              exact Nat.le_trans HB.out.size (HNB.out y hy)
          clear ho4 hg4 hat4 hcel HO3 HR3 HNM HNB HOB HRW e1
          go_wp2
          go_roundw
          case rel => exact ⟨k + 1, _, HLT.out, by go_num, HO4.out, by rw [List.map_append, HQ.out, HE1.out, List.map_append]; rfl, by rw [List.map_append, HBC.out, HE1.out, List.map_append]; rfl, HRS.out, HNN4.out, HB4.out⟩
          case measure => have := HLT.out; simp [intOf]; omega
      · obtain ⟨y', hy', f1, f2, f3, f4⟩ := (HP.out.kept HB.out) j z hz
        obtain rfl := Option.some.inj hy'
        have HNR := Lib.hid (ris_no hz (by rw [← hkj]; exact HX.out) hle)
        have t0 : decide ((0 : Int) < (k : Int)) = true := decide_eq_true (by omega)
        have t0' : decide (0 < k) = true := decide_eq_true (by omega)
        have t1 : decide (x.s.id ≤ z.s.id) = true := decide_eq_true hle
        have hw1 : IntKind.i64.wrap ((k : Int) - 1) = (j : Int) := by rw [IntWalk.i64_in _ (by have := HL.out; have := HLT.out; omega)]; omega
        have hj0 : (0 : Int) ≤ j := by omega
        have hjn : (j : Int) < n := by have := HLT.out; omega
        clear hle hkj hz f2 f3 f4 hlt hk
        go_wp2_with fail
        go_quiet (fail)
        go_wp2
        simp [bodyPost, results, Try.results9, go_sem]
        exact ⟨HB.out.trans ⟨rfl, rfl, rfl, Nat.le_refl _, fun _ _ => rfl⟩, .inr ⟨HNR.out, rfl⟩⟩
    · obtain rfl : n = k := by omega
      have hfull : l.take n = l := List.take_of_length_le (by rw [HN.out]; exact Nat.le_refl _)
      rw [hfull] at HQ HRI HBC
      have HRF := Lib.hid HRW.out.1
      rw [HOL.out] at HRF
      clear hfull hk hlt
      go_wp2
      simp [bodyPost, results, Try.results9, go_sem]
      exact ⟨HB.out, .inl ⟨HRI.out, _, out, rfl, HRF.out, HQ.out, HBC.out, HNN.out⟩⟩
end Go.Proofs.Ytjdgpbjjhgfikaa.Crw
