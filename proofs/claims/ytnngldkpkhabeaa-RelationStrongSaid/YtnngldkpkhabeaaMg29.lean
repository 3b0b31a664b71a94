/- Pairs: the document's put, its order, its closing by squaring, where pairs lead to (countwheelref10). Condition: at most 24 pairs (what is closed: at most 576). -/
import Derived.Test.YtnngldkpkhabeaaMg27
import Derived.Test.YtnngldkpkhabeaaMg28
namespace Go.Proofs.Ytnngldkpkhabeaa.Pai

open Go.RowKit Go.PlainAid Go.Proofs.Ytnngldkpkhabeaa.Oct Go.Proofs.Ytnngldkpkhabeaa.Flt Go.Proofs.Ytnngldkpkhabeaa.Rdr Go.Proofs.Ytnngldkpkhabeaa.Args

open Go.Proofs.Ytnngldkpkhabeaa.Rel (has10_any hasB)

set_option linter.unusedVariables false

set_option linter.unusedSimpArgs false

/-- Pairs of a call's own, where they lie. -/
structure NP (L : List P2) (N : Value) (w0 wr : World) : Prop where
  own : wr.ownsRow w0.heap.size 24 2 N L.length (flatP L)
  below : Below w0.heap.size w0 wr
theorem own_keepP {w w' : World} {B e s n : Nat} {v : Value} {xs : List Value} (h : w.ownsRow B e s v n xs) (b : Below w.heap.size w w') : w'.ownsRow B e s v n xs := by
  refine ⟨h.1, ?_⟩
  rcases h.2 with h | ⟨g, cap, cur, h1, h2, h3, h4⟩
  · exact .inl h
  · exact .inr ⟨g, cap, cur, h1, h2, (b.block g (lt_of_block h3)).trans h3, h4⟩
theorem NP.keep {L : List P2} {N : Value} {w0 wr w' : World} (f : NP L N w0 wr) (b : Below wr.heap.size wr w') : NP L N w0 w' := ⟨own_keepP f.own b, f.below.trans (b.mono f.below.size)⟩
theorem NP.grown {L : List P2} {x : P2} {N N' : Value} {w0 wr w' : World} (f : NP L N w0 wr) (hg : wr.grownBy w' N.ownBlock) (n : Nat) (hn : n = L.length + 1) (ho : w'.ownsRow w0.heap.size 24 2 N' n (flatP L ++ pairL x)) : NP (L ++ [x]) N' w0 w' :=
  ⟨by rw [List.length_append, List.length_singleton, ← hn, flatP_snoc]; exact ho, f.below.grown hg f.below.size (fun j hj => (f.own.lt j hj).1)⟩
/-- A slice that is some pairs. -/
def Prs (L : List P2) (V : Value) (w : World) : Prop := ∃ A c, V = .slice A L.length c ∧ PairsAt w A L ∧ (A = none → c = 0) ∧ L.length ≤ c
theorem Prs.keep {L : List P2} {V : Value} {w w' : World} (h : Prs L V w) (b : Below w.heap.size w w') : Prs L V w' := by
  obtain ⟨A, c, h1, h2, h3⟩ := h
  exact ⟨A, c, h1, h2.kept b, h3⟩
theorem NP.prs {L : List P2} {N : Value} {w0 wr : World} (f : NP L N w0 wr) : Prs L N wr := own_at f.own
def PuPost (L : List P2) (w : World) (e : Ending) (w' : World) : Prop := ∃ V, e = .returned V ∧ Prs L V w' ∧ Below w.heap.size w w'
def PIRel (p : P2) (L : List P2) (b : Nat) (w0 : World) (nx dn i : Value) (wr : World) : Prop := ∃ j : Nat, j ≤ L.length ∧ i = .int .i64 j ∧ dn = .bool (anyP p (L.take j)) ∧ NP (nxP p (L.take j)) nx w0 wr ∧ wr.heap[b]? = some (.cells #[.int .i64 p.f, .int .i64 p.t] 24 (0, 0))
theorem box_kept {b : Nat} {o : Obj} {w w' : World} (h : w.heap[b]? = some o) (hb : Below w.heap.size w w') : w'.heap[b]? = some o := (hb.block b (lt_of_block h)).trans h
theorem box_grown {b : Nat} {o : Obj} {L : List P2} {N : Value} {w0 w w' : World} (h : w.heap[b]? = some o) (f : NP L N w0 w) (hb : b < w0.heap.size) (hg : w.grownBy w' N.ownBlock) : w'.heap[b]? = some o :=
  (hg.block b (lt_of_block h) (fun e => by have := (f.own.lt b e.symm).1; omega)).trans h
set_option maxRecDepth 8000 in
set_option maxHeartbeats 6400000 in
theorem put10_any (A : Option Addr) (cap n : Nat) (l : List P2) (p : P2) (w : World) (h : PairsAt w A l) (hnil : A = none → cap = 0) (hcap : n ≤ cap) (hln : l.length = n) (hl : n ≤ 1000000) :
    Calls Try.prog 29 #[.slice A n cap, .agg #[.int .i64 p.f, .int .i64 p.t]] w (PuPost (putP p l) w) := by
  obtain ⟨i0, hi, hz0, hz1, hz2⟩ := info_parts infoPair
  have hb0 : Below w.heap.size w (w.alloc (.cells #[.int .i64 p.f, .int .i64 p.t] 24)) := (Below.refl _ _).alloc (Nat.le_refl _) _
  have HB0 := Lib.hid hb0
  have HX0 := Lib.hid (heap_alloc_new w (.cells #[.int .i64 p.f, .int .i64 p.t] 24))
  have HHAS := Lib.hid (has10_any A cap n l p (w.alloc (.cells #[.int .i64 p.f, .int .i64 p.t] 24)) (h.kept hb0) hln (by omega))
  have HA := Lib.hid hln
  have H1 := Lib.hid h
  have HPW : Hid (putP p l = if hasB l p then l else insP p l) := rfl
  have HNC : Hid ((A = none → cap = 0) ∧ n ≤ cap) := ⟨hnil, hcap⟩
  obtain ⟨hb, hhb⟩ : ∃ b, hasB l p = b := ⟨_, rfl⟩
  rw [hhb] at HHAS HPW
  unfold PuPost
  clear h hb0 hnil hcap hln hhb
  go_enter Try.func29, Try.ntmps29
  go_wp2_with fail
  refine HHAS.out.mono ?_
  rintro e w1 ⟨rfl, hb1⟩
  have HB1 := Lib.hid (HB0.out.trans (hb1.mono HB0.out.size))
  have HX1 := Lib.hid (box_kept HX0.out hb1)
  clear hb1 HX0 HB0 HHAS
  cases hb with
  | true =>
    go_wp2
    go_ret
    have e : putP p l = l := by have h := HPW.out; simpa using h
    rw [e]
    exact ⟨.slice A n cap, rfl, ⟨A, cap, by rw [HA.out], H1.out.kept HB1.out, HNC.out.1, by rw [HA.out]; exact HNC.out.2⟩, HB1.out⟩
  | false =>
    have HPE : Hid (putP p l = insP p l) := by have h := HPW.out; show _ = _; simpa using h
    have HB2 : Hid (Below w1.heap.size w1 (w1.alloc (.cells #[] 24))) := (Below.refl _ _).alloc (Nat.le_refl _) _
    have HN0 : Hid (NP [] (.slice (some ⟨w1.heap.size, 0, none⟩) 0 0) w1 (w1.alloc (.cells #[] 24))) := ⟨World.ownsRow_lit w1 #[] 0 (Nat.le_refl _) (Nat.zero_le _) rfl, HB2.out⟩
    have HX2 := Lib.hid (box_kept HX1.out HB2.out)
    have HBX : Hid (w.heap.size < w1.heap.size) := lt_of_block HX1.out
    have HW1 := Lib.hid (fun W (b : Below w1.heap.size w1 W) => H1.out.kept (HB1.out.trans (b.mono HB1.out.size)))
    clear HPW HB2 HX1
    go_wp2_with fail
    go_loopw [5, 6, 7] (fun nx dn i W => PIRel p l w.heap.size w1 nx dn i W) (fun _ _ i _ => n - (intOf i).toNat)
    case atStart => exact ⟨0, Nat.zero_le _, rfl, rfl, HN0.out, HX2.out⟩
    case round =>
      rename World => W
      clear HN0 HX2
      obtain ⟨j, hj, rfl, rfl, hnw, hbx⟩ := hrel
      have HNW := Lib.hid hnw
      have HBXW := Lib.hid hbx
      clear hnw hbx
      have y0 := cell_of_row _ _ 0 _ _ _ HBXW.out
      have y1 := cell_of_row _ _ 1 _ _ _ HBXW.out
      simp only [List.getElem?_toArray, List.getElem?_cons_zero, List.getElem?_cons_succ] at y0 y1
      by_cases hjk : j < n
      · obtain ⟨y, hy⟩ : ∃ y, l[j]? = some y := ⟨_, List.getElem?_eq_getElem (by rw [HA.out]; exact hjk)⟩
        obtain ⟨ay, rfl, d1, d2⟩ := (HW1.out _ HNW.out.below) j y hy
        have htk : l.take (j + 1) = l.take j ++ [y] := by rw [List.take_add_one, hy]; rfl
        have HY := Lib.hid hy
        have hns := nxP_step p y (l.take j)
        have hax := anyP_snoc p y (l.take j)
        rw [← htk] at hns hax
        have HLN : Hid ((nxP p (l.take j)).length ≤ 1000001) := by
          show _ ≤ _
          have := nxP_len p (l.take j)
          have h2 : (l.take j).length ≤ j := by rw [List.length_take]; omega
          omega
        obtain ⟨L, hL⟩ : ∃ L, nxP p (l.take j) = L := ⟨_, rfl⟩
        obtain ⟨dn, hdn⟩ : ∃ d, anyP p (l.take j) = d := ⟨_, rfl⟩
        rw [hL] at HNW HLN
        rw [hL, hdn] at hns
        rw [hdn] at hax
        rw [hdn]
        have HLESS := Lib.hid (fun W => less10_any p y W)
        unfold pairC at HLESS
        obtain ⟨b, hb⟩ : ∃ b, lessB p y = b := ⟨_, rfl⟩
        rw [hb] at HLESS hns hax
        have HNX0 := Lib.hid hns
        have HAN0 := Lib.hid hax
        have hji : (0 : Int) ≤ (j : Int) := by omega
        have hjb : (j : Int) < n := by omega
        have hj1 : IntKind.i64.wrap ((j : Int) + 1) = (j : Int) + 1 := IntWalk.i64_in _ (by omega)
        clear hns hax hb hy htk hL hdn
        cases dn with
        | true =>
          have HNX : Hid (nxP p (l.take (j + 1)) = L ++ [y]) := by show _ = _; rw [HNX0.out]; simp
          have HAN : Hid (anyP p (l.take (j + 1)) = true) := by show _ = _; rw [HAN0.out]; simp
          clear HNX0 HAN0 HLESS
          go_wp2
          go_quiet (fail)
          have HQ1 := Lib.hid (HNW.out.keep (w' := W.drewN nq) ⟨rfl, rfl, rfl, Nat.le_refl _, fun _ _ => rfl⟩)
          have HXQ : Hid ((W.drewN nq).heap[w.heap.size]? = some (.cells #[.int .i64 p.f, .int .i64 p.t] 24 (0, 0))) := HBXW.out
          have hba : Below (W.drewN nq).heap.size (W.drewN nq) ((W.drewN nq).alloc (.cells #[.int .i64 y.f, .int .i64 y.t] 24)) := (Below.refl _ _).alloc (Nat.le_refl _) _
          have HR1 := Lib.hid (HQ1.out.keep hba)
          have HXR := Lib.hid (box_kept HXQ.out hba)
          clear hba
          go_wp2_with (at_builtin; refine wpList_append_own _ rfl _ _ 22 rfl _ 24 i0 (.agg #[.int .i64 0, .int .i64 0]) 2 16 Try.underlying22 hi hz0 hz1 hz2 rfl (by decide) _ _ _ rfl HR1.out.own ⟨(W.drewN nq).heap.size, 0, none⟩ 1 1 [.int .i64 y.f, .int .i64 y.t] rfl rfl ?c1 ?c2 ?c3 ?c4 ?c5 ?_)
          case c1 =>
            intro j u hj
            have hrow := heap_alloc_new (W.drewN nq) (.cells #[.int .i64 y.f, .int .i64 y.t] 24)
            have e : (Addr.mk (W.drewN nq).heap.size 0 none).add j = ⟨(W.drewN nq).heap.size, j, none⟩ := by cases j <;> simp [Addr.add]
            rw [e, cell_of_row _ _ _ _ _ _ hrow, ← hj]
            simp
          case c2 => intro u hu; simp at hu; rcases hu with rfl | rfl <;> rfl
          case c3 => have := HLN.out; (try simp only [List.length_append, List.length_singleton]); unfold maxLen; omega
          case c4 => have := HLN.out; (try simp only [List.length_append, List.length_singleton]); omega
          case c5 => exact HR1.out.below.size
          intro V1 W1 ho1 hg1 _
          have HF1 := Lib.hid (HR1.out.grown (x := y) hg1 _ (by simp) ho1)
          have HXF := Lib.hid (box_grown HXR.out HR1.out HBX.out hg1)
          clear ho1 hg1
          go_wp2
          go_roundw
          case rel => exact ⟨j + 1, by have := HA.out; omega, by go_num, by rw [HAN.out], by rw [HNX.out]; exact HF1.out, HXF.out⟩
          case measure => simp [intOf]; omega
        | false =>
          have HCE := Lib.hid (And.intro y0 (And.intro y1 (And.intro d1 d2)))
          have HND := Lib.hid (HNW.out.keep (w' := W.drew) ⟨rfl, rfl, rfl, Nat.le_refl _, fun _ _ => rfl⟩)
          have HCD : Hid (W.drew.cell? ⟨w.heap.size, 0, none⟩ = some (.int .i64 p.f) ∧ W.drew.cell? ⟨w.heap.size, 1, none⟩ = some (.int .i64 p.t) ∧ W.drew.cell? (ay.add (j * 2)) = some (.int .i64 y.f) ∧ W.drew.cell? ⟨(ay.add (j * 2)).block, (ay.add (j * 2)).off + 1, none⟩ = some (.int .i64 y.t)) := HCE.out
          have HXD : Hid (W.drew.heap[w.heap.size]? = some (.cells #[.int .i64 p.f, .int .i64 p.t] 24 (0, 0))) := HBXW.out
          go_wp2
          cases b
          all_goals
            go_region_held3 (fun wx => wx.cell? ⟨w.heap.size, 0, none⟩ = some (.int .i64 p.f) ∧ wx.cell? ⟨w.heap.size, 1, none⟩ = some (.int .i64 p.t) ∧ wx.cell? (ay.add (j * 2)) = some (.int .i64 y.f) ∧ wx.cell? ⟨(ay.add (j * 2)).block, (ay.add (j * 2)).off + 1, none⟩ = some (.int .i64 y.t)) (first | (go_keep; done) | exact HCE.out | exact HKP.out | (refine ⟨?_, ?_, ?_, ?_⟩ <;> assumption))
              (first
                | (go_at_call 19; refine (HLESS.out _).mono ?_; rintro e w9 ⟨rfl, hb9⟩; have HN9 := Lib.hid (HND.out.keep hb9); have HX9 := Lib.hid (box_kept HXD.out hb9); have HKP := Lib.hid (kept4 HCD.out hb9); clear hb9))
          · have HNX : Hid (nxP p (l.take (j + 1)) = L ++ [y]) := by show _ = _; rw [HNX0.out]; simp
            have HAN : Hid (anyP p (l.take (j + 1)) = false) := by show _ = _; rw [HAN0.out]; simp
            clear y0 y1 d1 d2
            obtain ⟨y0, y1, d1, d2⟩ := HKP.out
            clear HNX0 HAN0 HLESS HCE HCD HND
            have hba : Below w9.heap.size w9 (w9.alloc (.cells #[.int .i64 y.f, .int .i64 y.t] 24)) := (Below.refl _ _).alloc (Nat.le_refl _) _
            have HR2 := Lib.hid (HN9.out.keep hba)
            have HXR := Lib.hid (box_kept HX9.out hba)
            clear hba
            go_wp2_with (at_builtin; refine wpList_append_own _ rfl _ _ 22 rfl _ 24 i0 (.agg #[.int .i64 0, .int .i64 0]) 2 16 Try.underlying22 hi hz0 hz1 hz2 rfl (by decide) _ _ _ rfl HR2.out.own ⟨(w9).heap.size, 0, none⟩ 1 1 [.int .i64 y.f, .int .i64 y.t] rfl rfl ?c1 ?c2 ?c3 ?c4 ?c5 ?_)
            case c1 =>
              intro j u hj
              have hrow := heap_alloc_new (w9) (.cells #[.int .i64 y.f, .int .i64 y.t] 24)
              have e : (Addr.mk (w9).heap.size 0 none).add j = ⟨(w9).heap.size, j, none⟩ := by cases j <;> simp [Addr.add]
              rw [e, cell_of_row _ _ _ _ _ _ hrow, ← hj]
              simp
            case c2 => intro u hu; simp at hu; rcases hu with rfl | rfl <;> rfl
            case c3 => have := HLN.out; (try simp only [List.length_append, List.length_singleton]); unfold maxLen; omega
            case c4 => have := HLN.out; (try simp only [List.length_append, List.length_singleton]); omega
            case c5 => exact HR2.out.below.size
            intro V2 W2 ho2 hg2 _
            have HF2 := Lib.hid (HR2.out.grown (x := y) hg2 _ (by simp) ho2)
            have HXF := Lib.hid (box_grown HXR.out HR2.out HBX.out hg2)
            clear ho2 hg2
            go_wp2
            go_roundw
            case rel => exact ⟨j + 1, by have := HA.out; omega, by go_num, by rw [HAN.out], by rw [HNX.out]; exact HF2.out, HXF.out⟩
            case measure => simp [intOf]; omega
          · have HNX : Hid (nxP p (l.take (j + 1)) = L ++ [p] ++ [y]) := by show _ = _; rw [HNX0.out]; simp
            have HAN : Hid (anyP p (l.take (j + 1)) = true) := by show _ = _; rw [HAN0.out]; simp
            clear y0 y1 d1 d2
            obtain ⟨y0, y1, d1, d2⟩ := HKP.out
            clear HNX0 HAN0 HLESS HCE HCD HND d1 d2
            have hba : Below w9.heap.size w9 (w9.alloc (.cells #[.int .i64 p.f, .int .i64 p.t] 24)) := (Below.refl _ _).alloc (Nat.le_refl _) _
            have HR3 := Lib.hid (HN9.out.keep hba)
            have HXR := Lib.hid (box_kept HX9.out hba)
            clear hba
            go_wp2_with (at_builtin; refine wpList_append_own _ rfl _ _ 22 rfl _ 24 i0 (.agg #[.int .i64 0, .int .i64 0]) 2 16 Try.underlying22 hi hz0 hz1 hz2 rfl (by decide) _ _ _ rfl HR3.out.own ⟨(w9).heap.size, 0, none⟩ 1 1 [.int .i64 p.f, .int .i64 p.t] rfl rfl ?c1 ?c2 ?c3 ?c4 ?c5 ?_)
            case c1 =>
              intro j u hj
              have hrow := heap_alloc_new (w9) (.cells #[.int .i64 p.f, .int .i64 p.t] 24)
              have e : (Addr.mk (w9).heap.size 0 none).add j = ⟨(w9).heap.size, j, none⟩ := by cases j <;> simp [Addr.add]
              rw [e, cell_of_row _ _ _ _ _ _ hrow, ← hj]
              simp
            case c2 => intro u hu; simp at hu; rcases hu with rfl | rfl <;> rfl
            case c3 => have := HLN.out; (try simp only [List.length_append, List.length_singleton]); unfold maxLen; omega
            case c4 => have := HLN.out; (try simp only [List.length_append, List.length_singleton]); omega
            case c5 => exact HR3.out.below.size
            intro V3 W3 ho3 hg3 _
            have HF3 := Lib.hid (HR3.out.grown (x := p) hg3 _ (by simp) ho3)
            have HXF := Lib.hid (box_grown HXR.out HR3.out HBX.out hg3)
            clear ho3 hg3
            obtain ⟨_, hay, d1, d2⟩ := (HW1.out _ HF3.out.below) j _ HY.out
            obtain rfl := Option.some.inj hay
            clear hay y0 y1
            have hba : Below W3.heap.size W3 (W3.alloc (.cells #[.int .i64 y.f, .int .i64 y.t] 24)) := (Below.refl _ _).alloc (Nat.le_refl _) _
            have HR4 := Lib.hid (HF3.out.keep hba)
            have HXR4 := Lib.hid (box_kept HXF.out hba)
            clear hba
            go_wp2_with (at_builtin; refine wpList_append_own _ rfl _ _ 22 rfl _ 24 i0 (.agg #[.int .i64 0, .int .i64 0]) 2 16 Try.underlying22 hi hz0 hz1 hz2 rfl (by decide) _ _ _ rfl HR4.out.own ⟨(W3).heap.size, 0, none⟩ 1 1 [.int .i64 y.f, .int .i64 y.t] rfl rfl ?e1 ?e2 ?e3 ?e4 ?e5 ?_)
            case e1 =>
              intro j u hj
              have hrow := heap_alloc_new (W3) (.cells #[.int .i64 y.f, .int .i64 y.t] 24)
              have e : (Addr.mk (W3).heap.size 0 none).add j = ⟨(W3).heap.size, j, none⟩ := by cases j <;> simp [Addr.add]
              rw [e, cell_of_row _ _ _ _ _ _ hrow, ← hj]
              simp
            case e2 => intro u hu; simp at hu; rcases hu with rfl | rfl <;> rfl
            case e3 => have := HLN.out; (try simp only [List.length_append, List.length_singleton]); unfold maxLen; omega
            case e4 => have := HLN.out; (try simp only [List.length_append, List.length_singleton]); omega
            case e5 => exact HR4.out.below.size
            intro V4 W4 ho4 hg4 _
            have HF4 := Lib.hid (HR4.out.grown (x := y) hg4 _ (by simp) ho4)
            have HXF4 := Lib.hid (box_grown HXR4.out HR4.out HBX.out hg4)
            clear ho4 hg4
            go_wp2
            go_roundw
            case rel => exact ⟨j + 1, by have := HA.out; omega, by go_num, by rw [HAN.out], by rw [HNX.out]; exact HF4.out, HXF4.out⟩
            case measure => simp [intOf]; omega
      · obtain rfl : j = n := by have := HA.out; omega
        rw [List.take_of_length_le (by rw [HA.out]; exact Nat.le_refl _)] at HNW
        rw [List.take_of_length_le (by rw [HA.out]; exact Nat.le_refl _)]
        have hne := nxP_end p l
        have HLN : Hid ((nxP p l).length ≤ 1000001) := by
          show _ ≤ _
          have := nxP_len p l
          have := HA.out
          omega
        obtain ⟨L, hL⟩ : ∃ L, nxP p l = L := ⟨_, rfl⟩
        rw [hL] at HNW HLN hne
        obtain ⟨dn, hdn⟩ : ∃ d, anyP p l = d := ⟨_, rfl⟩
        rw [hdn] at hne
        rw [hdn]
        have HNE := Lib.hid hne
        clear hne hL hdn
        cases dn with
        | true =>
          go_wp2
          go_ret
          rw [HPE.out, HNE.out]
          exact ⟨_, rfl, HNW.out.prs, HB1.out.trans (HNW.out.below.mono HB1.out.size)⟩
        | false =>
          have HR5 := Lib.hid (HNW.out.keep ((Below.refl _ _).alloc (Nat.le_refl _) (.cells #[.int .i64 p.f, .int .i64 p.t] 24)))
          go_wp2_with (at_builtin; refine wpList_append_own _ rfl _ _ 22 rfl _ 24 i0 (.agg #[.int .i64 0, .int .i64 0]) 2 16 Try.underlying22 hi hz0 hz1 hz2 rfl (by decide) _ _ _ rfl HR5.out.own ⟨(W).heap.size, 0, none⟩ 1 1 [.int .i64 p.f, .int .i64 p.t] rfl rfl ?f1 ?f2 ?f3 ?f4 ?f5 ?_)
          case f1 =>
            intro j u hj
            have hrow := heap_alloc_new (W) (.cells #[.int .i64 p.f, .int .i64 p.t] 24)
            have e : (Addr.mk (W).heap.size 0 none).add j = ⟨(W).heap.size, j, none⟩ := by cases j <;> simp [Addr.add]
            rw [e, cell_of_row _ _ _ _ _ _ hrow, ← hj]
            simp
          case f2 => intro u hu; simp at hu; rcases hu with rfl | rfl <;> rfl
          case f3 => have := HLN.out; (try simp only [List.length_append, List.length_singleton]); unfold maxLen; omega
          case f4 => have := HLN.out; (try simp only [List.length_append, List.length_singleton]); omega
          case f5 => exact HR5.out.below.size
          intro V5 W5 ho5 hg5 _
          have HF5 := Lib.hid (HR5.out.grown (x := p) hg5 _ (by simp) ho5)
          clear ho5 hg5
          go_wp2
          go_ret
          rw [HPE.out, HNE.out]
          exact ⟨_, rfl, HF5.out.prs, HB1.out.trans (HF5.out.below.mono HB1.out.size)⟩
end Go.Proofs.Ytnngldkpkhabeaa.Pai
