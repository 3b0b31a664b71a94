/- Groups of any ids, as the document tells them (countwheelref15's One, Strong). Condition: at most 20 pairs and 20 ids. Groups of any ids, as the document tells them (countwheelref15's Strong). Condition: at most 20 pairs and 20 ids. -/
import Derived.Test.YtnngldkpkhabeaaMi02
import Derived.Test.YtnngldkpkhabeaaMh03
namespace Go.Proofs.Ytnngldkpkhabeaa.Rel

open Go.RowKit Go.PlainAid Go.Proofs.Ytnngldkpkhabeaa.Args Go.Proofs.Ytnngldkpkhabeaa.Win

open Go.Proofs.Ytnngldkpkhabeaa.Pai (P2 PairsAt Wide Clo Conn Rs ClPost rclosed10_any hasP own_keepP own_some below_drewN conn_len)

set_option linter.unusedVariables false

set_option linter.unusedSimpArgs false

theorem has_conn {l D : List P2} (hD : Clo l D) (a b : Int) : hasB D ⟨a, b⟩ = true ↔ Conn l a b := (Pai.hasP_iff D ⟨a, b⟩).trans (hD.mem ⟨a, b⟩)
theorem one_sB {l D : List P2} (hD : Clo l D) (a b : Int) : sB l a b = ((a == b) || (hasB D ⟨a, b⟩ && hasB D ⟨b, a⟩)) := by
  apply Bool.eq_iff_iff.2
  rw [sB_iff, Bool.or_eq_true, Bool.and_eq_true, has_conn hD, has_conn hD, beq_iff_eq]
  unfold Rs
  constructor
  · rintro ⟨h1 | h1, h2 | h2⟩
    · exact .inl h1
    · exact .inl h1
    · exact .inl h2.symm
    · exact .inr ⟨h1, h2⟩
  · rintro (h | ⟨h1, h2⟩)
    · exact ⟨.inl h, .inl h.symm⟩
    · exact ⟨.inr h1, .inr h2⟩
set_option maxRecDepth 8000 in
theorem one_any (A : Option Addr) (n c : Nat) (l D : List P2) (a b : Int) (w : World) (hD : Clo l D) (h : PairsAt w A D) (hn : D.length = n) (hl : n ≤ 1000000) :
    Calls Try.prog 49 #[.slice A n c, .int .i64 a, .int .i64 b] w fun e w' => e = .returned (.bool (sB l a b)) ∧ Below w.heap.size w w' := by
  have HH : Hid (∀ f t W, Below w.heap.size w W → Calls Try.prog 17 #[.slice A n c, .agg #[.int .i64 f, .int .i64 t]] W fun e w' => e = .returned (.bool (hasB D ⟨f, t⟩)) ∧ Below W.heap.size W w') := fun f t W b => has10_any A c n D ⟨f, t⟩ W (h.kept b) hn (by omega)
  have HO := Lib.hid (one_sB hD a b)
  clear h hn hl
  by_cases hab : a = b
  · have te : (a == b) = true := by simp [hab]
    obtain ⟨v, hv⟩ : ∃ v, sB l a b = v := ⟨_, rfl⟩
    obtain rfl : v = true := by rw [← hv, HO.out, te]; rfl
    rw [hv]
    clear HO hab hv
    go_enter Try.func49, Try.ntmps49
    go_wp2_with fail
    try go_wp2
    go_ret
    exact ⟨rfl, Below.refl _ _⟩
  · have te : (a == b) = false := by simp [hab]
    obtain ⟨v, hv⟩ : ∃ v, sB l a b = v := ⟨_, rfl⟩
    obtain ⟨v1, hv1⟩ : ∃ v, hasB D ⟨a, b⟩ = v := ⟨_, rfl⟩
    obtain ⟨v2, hv2⟩ : ∃ v, hasB D ⟨b, a⟩ = v := ⟨_, rfl⟩
    obtain rfl : v = (v1 && v2) := by rw [← hv, HO.out, te, hv1, hv2]; rfl
    rw [hv]
    have H1 := Lib.hid (HH.out a b w (Below.refl _ _))
    rw [hv1] at H1
    have H2 : Hid (∀ W, Below w.heap.size w W → Calls Try.prog 17 #[.slice A n c, .agg #[.int .i64 b, .int .i64 a]] W fun e w' => e = .returned (.bool v2) ∧ Below W.heap.size W w') := fun W b' => by have := HH.out b a W b'; rwa [hv2] at this
    clear HO hab hv hv1 hv2 HH
    go_enter Try.func49, Try.ntmps49
    go_wp2_with fail
    refine H1.out.mono ?_
    rintro e w1 ⟨rfl, hb1⟩
    have HB1 := Lib.hid hb1
    have H2' := Lib.hid (H2.out w1 hb1)
    clear hb1 H1 H2
    cases v1 with
    | false =>
      go_wp2_with fail
      try go_wp2
      go_ret
      exact ⟨rfl, HB1.out⟩
    | true =>
      go_wp2_with fail
      refine H2'.out.mono ?_
      rintro e w2 ⟨rfl, hb2⟩
      have HB2 := Lib.hid (HB1.out.trans (hb2.mono HB1.out.size))
      clear hb2 H2'
      go_wp2_with fail
      try go_wp2
      go_ret
      exact ⟨by simp, HB2.out⟩
end Go.Proofs.Ytnngldkpkhabeaa.Rel
namespace Go.Proofs.Ytnngldkpkhabeaa.Rel

open Go.RowKit Go.PlainAid Go.Proofs.Ytnngldkpkhabeaa.Args Go.Proofs.Ytnngldkpkhabeaa.Win

open Go.Proofs.Ytnngldkpkhabeaa.Rdr (Just)

open Go.Proofs.Ytnngldkpkhabeaa.Pai (P2 PairsAt Wide Clo Conn Rs ClPost rclosed10_any hasP own_keepP own_some below_drewN conn_len Prs row_just just_of_grown)

set_option linter.unusedVariables false

set_option linter.unusedSimpArgs false

section

variable {B : Nat} {GV GV' V : Value} {L : List Int} {rs : List (Value × List Int)} {w w' : World}

theorem GR.push (h : GR B GV rs w) (hv : w.ownsRow B 3 1 V L.length (L.map (Value.int .i64))) (ha : ∀ j, V.ownBlock = some j → GV.ownBlock ≠ some j ∧ ∀ p ∈ rs, p.1.ownBlock ≠ some j) (ho : w'.ownsRow B 29 1 GV' (rs.length + 1) (rs.map Prod.fst ++ [V])) (hg : w.grownBy w' GV.ownBlock) (hat : GV'.ownBlock = GV.ownBlock ∨ GV'.ownBlock = some w.heap.size) : GR B GV' (rs ++ [(V, L)]) w' := by
  refine ⟨by rw [List.length_append, List.length_singleton, List.map_append]; exact ho, fun p hp => ?_, fun p hp j hj => ?_, fun i i' p p' hne hi hi' j hj => ?_⟩
  · rcases List.mem_append.1 hp with hp | hp
    · exact row_apart (h.r p hp) hg (fun j hj e => h.d0 p hp j hj e)
    · obtain rfl := List.mem_singleton.1 hp
      exact row_apart hv hg (fun j hj e => (ha j hj).1 e)
  · rcases List.mem_append.1 hp with hp | hp
    · rcases hat with e | e
      · rw [e]; exact h.d0 p hp j hj
      · rw [e]
        intro e2
        have := ((h.r p hp).lt j hj).2
        have := Option.some.inj e2
        omega
    · obtain rfl := List.mem_singleton.1 hp
      rcases hat with e | e
      · rw [e]; exact (ha j hj).1
      · rw [e]
        intro e2
        have := (hv.lt j hj).2
        have := Option.some.inj e2
        omega
  · have key : ∀ (i : Nat) (p : Value × List Int), (rs ++ [(V, L)])[i]? = some p → (rs[i]? = some p ∧ p ∈ rs) ∨ (i = rs.length ∧ p = (V, L)) := fun i p hi => by
      rcases Nat.lt_or_ge i rs.length with hl | hl
      · rw [List.getElem?_append_left hl] at hi; exact .inl ⟨hi, List.mem_of_getElem? hi⟩
      · rw [List.getElem?_append_right hl] at hi
        have h1 := (List.getElem?_eq_some_iff.1 hi).1
        simp at h1
        exact .inr ⟨by omega, List.mem_singleton.1 (List.mem_of_getElem? hi)⟩
    rcases key i p hi with ⟨h1, h2⟩ | ⟨h1, rfl⟩
    · rcases key i' p' hi' with ⟨h3, h4⟩ | ⟨h3, rfl⟩
      · exact h.d1 i i' p p' hne h1 h3 j hj
      · intro e
        exact (ha j e).2 p h2 hj
    · rcases key i' p' hi' with ⟨h3, h4⟩ | ⟨h3, rfl⟩
      · exact (ha j hj).2 p' h4
      · omega
end

/-- The document's groups so far. -/
structure DR (w4 w5 : World) (gv : Value) (rs : List (Value × List Int)) (W : World) : Prop where
  gr : GR w4.heap.size gv rs W
  gb : ∀ j, gv.ownBlock = some j → j = w4.heap.size ∨ w5.heap.size ≤ j
  rb : ∀ p ∈ rs, ∀ j, p.1.ownBlock = some j → w5.heap.size ≤ j
  ju : Just w4.heap.size w5 W
  b4 : Below w4.heap.size w4 W
section

variable {w4 w5 W W' : World} {gv gv' V : Value} {L : List Int} {rs : List (Value × List Int)}

theorem DR.keep (f : DR w4 w5 gv rs W) (b : Below W.heap.size W W') : DR w4 w5 gv rs W' :=
  ⟨f.gr.keep b, f.gb, f.rb, ⟨b.os.trans f.ju.os, b.tape.trans f.ju.tape, b.output.trans f.ju.output, Nat.le_trans f.ju.size b.size, fun k hk hne => (b.block k (Nat.lt_of_lt_of_le hk f.ju.size)).trans (f.ju.block k hk hne)⟩, f.b4.trans (b.mono f.b4.size)⟩
theorem DR.push (f : DR w4 w5 gv rs W) (hw : w4.heap.size ≤ w5.heap.size) (hv : W.ownsRow w5.heap.size 3 1 V L.length (L.map (Value.int .i64))) (ha : ∀ j, V.ownBlock = some j → gv.ownBlock ≠ some j ∧ ∀ p ∈ rs, p.1.ownBlock ≠ some j) (ho : W'.ownsRow w4.heap.size 29 1 gv' (rs.length + 1) (rs.map Prod.fst ++ [V])) (hg : W.grownBy W' gv.ownBlock) (hat : gv'.ownBlock = gv.ownBlock ∨ gv'.ownBlock = some W.heap.size) : DR w4 w5 gv' (rs ++ [(V, L)]) W' := by
  have hs := f.ju.size
  refine ⟨f.gr.push (Act.row_base hv hw) ha ho hg hat, fun j hj => ?_, fun p hp j hj => ?_, ⟨hg.os.trans f.ju.os, hg.tape.trans f.ju.tape, hg.output.trans f.ju.output, Nat.le_trans f.ju.size hg.size, fun k hk hne => (hg.block k (by omega) (fun e => by rcases f.gb k e.symm with h | h <;> omega)).trans (f.ju.block k hk hne)⟩, f.b4.grown hg f.b4.size (fun j hj => (f.gr.g.lt j hj).1)⟩
  · rcases hat with e | e
    · exact f.gb j (e ▸ hj)
    · rw [e] at hj
      have := Option.some.inj hj
      right; omega
  · rcases List.mem_append.1 hp with hp | hp
    · exact f.rb p hp j hj
    · rw [List.mem_singleton.1 hp] at hj
      exact (hv.lt j hj).1
end

def DoRel (l : List P2) (z : List Int) (w4 w5 : World) (gv i : Value) (W : World) : Prop :=
  ∃ (k n c : Nat) (A : Option Addr) (rs : List (Value × List Int)), k ≤ z.length ∧ i = .int .i64 (k : Int) ∧ gv = .slice A n c ∧ rs.length = n ∧ n ≤ k ∧ rs.map Prod.snd = (frs l (z.take k)).map (fun a => z.filter (sB l a)) ∧ DR w4 w5 gv rs W
def DiRel (l : List P2) (z : List Int) (a : Int) (i : Nat) (W0 : World) (f v k : Value) (W : World) : Prop :=
  ∃ (q : Nat) (b : Bool), q ≤ z.length ∧ k = .int .i64 (q : Int) ∧ f = .bool b ∧ (b = true ↔ ∀ j y, j < q → j < i → z[j]? = some y → sB l a y = false) ∧ W.ownsRow W0.heap.size 3 1 v ((z.take q).filter (sB l a)).length (((z.take q).filter (sB l a)).map (Value.int .i64)) ∧ Below W0.heap.size W0 W
set_option maxRecDepth 8000 in
set_option maxHeartbeats 12800000 in
theorem dstrong_any (A : Option Addr) (m cap : Nat) (l : List P2) (I : Option Addr) (li ci : Nat) (ids : List Int) (w : World) (hp : PairsAt w A l) (hlm : l.length = m) (hl : m ≤ 20) (hI : IntsBelow w.heap.size w (.slice I li ci) ids) (hids : ids.length ≤ 20) (hli : li = ids.length) :
    Calls Try.prog 28 #[.slice A m cap, .slice I li ci] w (SgPost l ids w) := by
  obtain ⟨i0, hi, hz0, hz1, hz2⟩ := info_parts infoInt2
  obtain ⟨iS, hiS, hy0, hy1, hy2⟩ := info_parts infoSl
  have H8 := Lib.hid (rclosed10_any A cap m l w hp hlm (by omega))
  have H21 : Hid (∀ W, Below w.heap.size w W → Calls Try.prog 21 #[.slice I li ci] W (IPost (risZ ids) W)) := fun W b => rrising_any I li ci ids W ((hI.below b).mono b.size) hids hli
  have HLL : Hid (l.length = m ∧ m ≤ 20 ∧ ids.length ≤ 20) := ⟨hlm, hl, hids⟩
  clear hp hlm hl hI hids hli
  go_enter Try.func28, Try.ntmps28
  go_wp2_with fail
  refine H8.out.mono ?_
  rintro e w4 ⟨D, V9, hD, rfl, hp9, hb4⟩
  have HD := Lib.hid hD
  have HB4 := Lib.hid hb4
  have HDL : Hid (D.length ≤ 400) := Nat.le_trans (conn_len hD.rise fun x hx => (hD.mem x).1 hx) (by
    rw [HLL.out.1]
    exact Nat.mul_le_mul HLL.out.2.1 HLL.out.2.1)
  obtain ⟨A9, c9, rfl, hp9a, _, _⟩ := hp9
  have HP9A := Lib.hid hp9a
  clear hD hb4 hp9a H8
  have hba : Below w4.heap.size w4 (w4.alloc (.cells #[] 29)) := (Below.refl _ _).alloc (Nat.le_refl _) _
  have HBA := Lib.hid hba
  have HO0 : Hid ((w4.alloc (.cells #[] 29)).ownsRow w4.heap.size 29 1 (.slice (some ⟨w4.heap.size, 0, none⟩) 0 0) 0 []) := World.ownsRow_lit w4 #[] 0 (Nat.le_refl _) (Nat.zero_le _) rfl
  have H21' := Lib.hid (H21.out (w4.alloc (.cells #[] 29)) (HB4.out.trans (hba.mono HB4.out.size)))
  clear hba H21
  go_wp2_with fail
  refine H21'.out.mono ?_
  rintro e w5 ⟨V32, rfl, ho32, hb5⟩
  obtain ⟨A32, c32, rfl⟩ := Cel.own_slice ho32
  have HO32 := Lib.hid ho32
  have HB5 := Lib.hid hb5
  have HZL : Hid ((risZ ids).length ≤ 20) := by have := risZ_len ids; have := HLL.out; show _ ≤ _; omega
  obtain ⟨z, hz⟩ : ∃ z, risZ ids = z := ⟨_, rfl⟩
  have HZ := Lib.hid hz
  rw [hz] at HO32 HZL
  rw [hz]
  obtain ⟨N, hN⟩ : ∃ m, z.length = m := ⟨_, rfl⟩
  have HM := Lib.hid hN
  rw [hN]
  obtain ⟨nD, hnD⟩ : ∃ nD, D.length = nD := ⟨_, rfl⟩
  have HND := Lib.hid hnD
  rw [hnD]
  have HS45 : Hid (w4.heap.size + 1 ≤ w5.heap.size) := by have := hb5.size; rw [World.size_alloc] at this; exact this
  have HDR0 : Hid (DR w4 w5 (.slice (some ⟨w4.heap.size, 0, none⟩) 0 0) [] w5) := by
    refine ⟨⟨own_keepP HO0.out hb5, fun p h => (by cases h), fun p h => (by cases h), fun i i' p p' _ h => (by simp at h)⟩, fun j hj => .inl ?_, fun p h => (by cases h), Just.refl _ _, HBA.out.trans (hb5.mono (by simp))⟩
    have h := Option.some.inj (show some w4.heap.size = some j from hj)
    exact h.symm
  clear ho32 hb5 H21' hz hN hnD HO0
  go_wp2_with fail
  go_loopw [6, 8] (fun gv i W => DoRel l z w4 w5 gv i W) (fun _ i _ => N - (intOf i).toNat)
  case atStart => exact ⟨0, 0, 0, _, [], Nat.zero_le _, rfl, rfl, rfl, Nat.le_refl _, by simp [frs], HDR0.out⟩
  case round =>
    obtain ⟨W, hW⟩ : ∃ X, wr = X := ⟨_, rfl⟩
    rw [hW] at hrel
    rw [hW]
    clear hW wr HDR0
    obtain ⟨i, n, c, AG, rs, hiz, rfl, rfl, hrn, hnk, hrows, hdr⟩ := hrel
    have HDR := Lib.hid hdr
    have HRO := Lib.hid hrows
    have HNK : Hid (rs.length = n ∧ n ≤ i ∧ i ≤ N ∧ N ≤ 20) := ⟨hrn, hnk, by have := HM.out; omega, by have := HM.out; have := HZL.out; omega⟩
    clear hdr hrows hrn hnk hiz
    by_cases hlt : i < N
    · obtain ⟨x, hx⟩ : ∃ x, z[i]? = some x := ⟨_, List.getElem?_eq_getElem (by have := HM.out; omega)⟩
      have HX := Lib.hid hx
      have HOW : Hid (∀ W', Below W.heap.size W W' → W'.ownsRow (w4.heap.size + 1) 3 1 (.slice A32 N c32) N (z.map (Value.int .i64))) := fun W' b => by
        have h := HO32.out
        rw [World.size_alloc, HM.out] at h
        exact own_keepP (Act.row_beside h HDR.out.ju (fun k hk => by have := (h.lt k hk).1; omega)) b
      obtain ⟨g32, c33, e, _, _, _⟩ := own_some (HOW.out W (Below.refl _ _)) (by omega)
      simp only [Value.slice.injEq] at e
      obtain ⟨rfl, _, rfl⟩ := e
      have HONE : Hid (∀ (b : Int) W', Below W.heap.size W W' → Calls Try.prog 49 #[.slice A9 nD c9, .int .i64 x, .int .i64 b] W' fun e w' => e = .returned (.bool (sB l x b)) ∧ Below W'.heap.size W' w') := fun b W' hb => one_any A9 nD c9 l D x b W' HD.out (HP9A.out.kept (HDR.out.b4.trans (hb.mono HDR.out.b4.size))) HND.out (by have := HND.out; have := HDL.out; omega)
      have hii : (0 : Int) ≤ i := by omega
      have hib : (i : Int) < N := by omega
      have hi1 : IntKind.i64.wrap ((i : Int) + 1) = (i : Int) + 1 := IntWalk.i64_in _ (by have := HNK.out; omega)
      have HI0 : Hid (DiRel l z x i W (.bool true) (.slice (some ⟨W.heap.size, 0, none⟩) 0 0) (.int .i64 0) (W.alloc (.cells #[] 3))) := ⟨0, true, Nat.zero_le _, rfl, rfl, ⟨fun _ j y hj => by omega, fun _ => rfl⟩, World.ownsRow_lit W #[] 0 (Nat.le_refl _) (Nat.zero_le _) rfl, (Below.refl _ _).alloc (Nat.le_refl _) _⟩
      clear hx
      go_wp2_with fail
      go_loopw [9, 10, 11] (fun f v k W2 => DiRel l z x i W f v k W2) (fun _ _ k _ => N - (intOf k).toNat)
      case atStart => exact HI0.out
      case round =>
        clear HI0
        obtain ⟨W2, hW2⟩ : ∃ X, wr = X := ⟨_, rfl⟩
        rw [hW2] at hrel
        rw [hW2]
        clear hW2 wr
        obtain ⟨q, b, hqz, rfl, rfl, hbq, hog, hbw⟩ := hrel
        obtain ⟨AV, cV, rfl⟩ := Cel.own_slice hog
        have HBQ := Lib.hid hbq
        have HOG := Lib.hid hog
        have HBW := Lib.hid hbw
        have HQN : Hid (q ≤ N) := by have := HM.out; show _ ≤ _; omega
        have how := HOW.out W2 hbw
        have s0 : W2.cell? ⟨g32, i, none⟩ = some (.int .i64 x) := (how.cellAt i (by omega)).trans (by simp [HX.out])
        clear hbq hog hbw hqz
        by_cases hqlt : q < N
        · obtain ⟨y, hy⟩ : ∃ y, z[q]? = some y := ⟨_, List.getElem?_eq_getElem (by have := HM.out; omega)⟩
          have s1 : W2.cell? ⟨g32, q, none⟩ = some (.int .i64 y) := (how.cellAt q (by omega)).trans (by simp [hy])
          have HY := Lib.hid hy
          have hq0 : (0 : Int) ≤ q := by omega
          have hqb : (q : Int) < N := by omega
          have hq1 : IntKind.i64.wrap ((q : Int) + 1) = (q : Int) + 1 := IntWalk.i64_in _ (by have := HNK.out; omega)
          have hfl : ((z.take q).filter (sB l x)).length ≤ 20 := Nat.le_trans (List.length_filter_le _ _) (by rw [List.length_take]; have := HNK.out; have := HM.out; omega)
          have HFL : Hid (((z.take q).filter (sB l x)).length ≤ 20) := hfl
          have HTK : Hid (z.take (q + 1) = z.take q ++ [y]) := by show _ = _; rw [List.take_add_one, hy]; rfl
          have H1 := HONE.out y W2.drew HBW.out.drew
          have HCD : Hid (W2.drew.cell? ⟨g32, i, none⟩ = some (.int .i64 x) ∧ W2.drew.cell? ⟨g32, q, none⟩ = some (.int .i64 y)) := ⟨s0, s1⟩
          have HBWD : Hid (Below W.heap.size W W2.drew) := HBW.out.drew
          have HOGD : Hid (W2.drew.ownsRow W.heap.size 3 1 (.slice AV ((z.take q).filter (sB l x)).length cV) ((z.take q).filter (sB l x)).length (((z.take q).filter (sB l x)).map (Value.int .i64))) := own_keepP HOG.out ⟨rfl, rfl, rfl, Nat.le_refl _, fun _ _ => rfl⟩
          obtain ⟨sv, hsv⟩ : ∃ sv, sB l x y = sv := ⟨_, rfl⟩
          rw [hsv] at H1
          have HSV := Lib.hid hsv
          have H1 := Lib.hid H1
          clear hy hfl hsv how
          cases sv with
          | false =>
            go_upto_region 12 with fail
            go_region_held3 (fun wx => wx.cell? ⟨g32, i, none⟩ = some (.int .i64 x) ∧ wx.cell? ⟨g32, q, none⟩ = some (.int .i64 y))
              (first | (go_keep; done) | exact HCD.out | exact HKP.out | (refine ⟨?_, ?_⟩ <;> assumption))
              ((go_at_call 49; refine H1.out.mono ?_; rintro e w6 ⟨rfl, hb6⟩; have HB6 := Lib.hid hb6; have HKP := Lib.hid (And.intro ((hb6.cell (Go.block_lt_of_cell HCD.out.1)).trans HCD.out.1) ((hb6.cell (Go.block_lt_of_cell HCD.out.2)).trans HCD.out.2)); clear hb6))
            clear s0 s1 H1
            go_wp2
            go_roundw
            case rel => 
              refine ⟨q + 1, b, by have := HM.out; omega, by go_num, rfl, ?_, ?_, HBWD.out.trans (HB6.out.mono HBWD.out.size)⟩
              · rw [HBQ.out]
                constructor
                · intro h j y' hj hji hy'
                  by_cases e : j = q
                  · subst e
                    rw [HY.out] at hy'
                    rw [← Option.some.inj hy']; exact HSV.out
                  · exact h j y' (by omega) hji hy'
                · intro h j y' hj hji hy'
                  exact h j y' (by omega) hji hy'
              · have e1 : (z.take (q + 1)).filter (sB l x) = (z.take q).filter (sB l x) := by rw [HTK.out, List.filter_append]; simp [HSV.out]
                rw [e1]
                exact own_keepP HOGD.out HB6.out
            case measure => simp [intOf]; omega
          | true =>
            go_upto_region 12 with fail
            go_region_held3 (fun wx => wx.cell? ⟨g32, i, none⟩ = some (.int .i64 x) ∧ wx.cell? ⟨g32, q, none⟩ = some (.int .i64 y))
              (first | (go_keep; done) | exact HCD.out | exact HKP.out | (refine ⟨?_, ?_⟩ <;> assumption))
              ((go_at_call 49; refine H1.out.mono ?_; rintro e w6 ⟨rfl, hb6⟩; have HB6 := Lib.hid hb6; have HKP := Lib.hid (And.intro ((hb6.cell (Go.block_lt_of_cell HCD.out.1)).trans HCD.out.1) ((hb6.cell (Go.block_lt_of_cell HCD.out.2)).trans HCD.out.2)); clear hb6))
            have HOG6 := Lib.hid (own_keepP HOGD.out HB6.out)
            have HBW6 := Lib.hid (HBWD.out.trans (HB6.out.mono HBWD.out.size))
            have how6 := HOW.out w6 HBW6.out
            clear s1
            have s1 : w6.cell? ⟨g32, q, none⟩ = some (.int .i64 y) := (how6.cellAt q (by omega)).trans (by simp [HY.out])
            clear s0 H1 how6
            have hba : Below w6.heap.size w6 (w6.alloc (.cells #[.int .i64 y] 3)) := (Below.refl _ _).alloc (Nat.le_refl _) _
            have HOA := Lib.hid (own_keepP HOG6.out hba)
            have HBWA := Lib.hid (HBW6.out.trans (hba.mono HBW6.out.size))
            clear hba
            go_wp2_with (at_builtin; refine wpList_append_own_at _ rfl _ _ 29 rfl W.heap.size 3 i0 (.int .i64 0) 1 8 Try.underlying29 hi hz0 hz1 hz2 rfl (by decide) _ _ _ rfl HOA.out ⟨w6.heap.size, 0, none⟩ 1 1 [.int .i64 y] rfl rfl (cell_one_new _ _ _) ?d1c2 ?d1c3 ?d1c4 ?d1c5 ?_)
            case d1c2 => first | rfl | (intro u hu; simp at hu; subst hu; rfl)
            case d1c3 => have := HFL.out; unfold maxLen; omega
            case d1c4 => have := HFL.out; omega
            case d1c5 => have := HBWA.out.size; first | exact this | (simp at this ⊢; omega)
            intro V1 wx1 ho hgx _ hat
            have hbx : Below W.heap.size W wx1 := HBWA.out.grown hgx HBWA.out.size (fun j hj => (HOA.out.lt j hj).1)
            have HNX : Hid (∀ b' : Bool, (b' = (b && decide (i ≤ q))) → DiRel l z x i W (.bool b') V1 (.int .i64 ((q : Int) + 1)) wx1) := fun b' hb' => by
              refine ⟨q + 1, b', by have := HM.out; omega, by go_num, rfl, ?_, ?_, hbx⟩
              · rw [hb', Bool.and_eq_true, HBQ.out, decide_eq_true_iff]
                constructor
                · rintro ⟨h, hiq⟩ j y' hj hji hy'
                  exact h j y' (by omega) hji hy'
                · intro h
                  refine ⟨fun j y' hj hji hy' => h j y' (by omega) hji hy', ?_⟩
                  rcases Nat.lt_or_ge q i with h2 | h2
                  · have := h q y (by omega) h2 HY.out
                    rw [HSV.out] at this; cases this
                  · exact h2
              · have e1 : (z.take (q + 1)).filter (sB l x) = (z.take q).filter (sB l x) ++ [y] := by rw [HTK.out, List.filter_append]; simp [HSV.out]
                rw [e1]
                simpa using ho
            clear ho hgx hat hbx HOA HBWA HOG6 HBW6 HB6 s1
            cases b with
            | false =>
              go_wp2
              go_roundw
              case rel => exact HNX.out false (by simp)
              case measure => simp [intOf]; omega
            | true =>
              by_cases hiq : i ≤ q
              · have t1 : decide ((i : Int) ≤ (q : Int)) = true := decide_eq_true (by omega)
                have t2 : decide ((q : Int) ≥ (i : Int)) = true := decide_eq_true (by omega)
                go_wp2
                go_roundw
                case rel => exact HNX.out true (by simp [hiq])
                case measure => simp [intOf]; omega
              · have t1 : decide ((i : Int) ≤ (q : Int)) = false := decide_eq_false (by omega)
                have t2 : decide ((q : Int) ≥ (i : Int)) = false := decide_eq_false (by omega)
                go_wp2
                go_roundw
                case rel => exact HNX.out false (by simp [hiq])
                case measure => simp [intOf]; omega
        · obtain rfl : q = N := by have := HQN.out; omega
          have hFO := frs_ok l _ (z.take i) rfl
          have e1 : z.take (i + 1) = z.take i ++ [x] := by rw [List.take_add_one, HX.out]; rfl
          have ez : z.take q = z := List.take_of_length_le (by have := HM.out; omega)
          have hmem : ∀ a ∈ z.take i, ∃ j, j < i ∧ z[j]? = some a := fun a ha => by
            obtain ⟨j, hj⟩ := List.getElem?_of_mem ha
            rw [List.getElem?_take] at hj
            split at hj
            · rename_i h; exact ⟨j, h, hj⟩
            · cases hj
          have hog := HOG.out
          rw [ez] at hog
          cases b with
          | false =>
            have ef : frs l (z.take (i + 1)) = frs l (z.take i) := by
              rw [e1, frs_snoc]
              unfold frs1
              rw [if_pos]
              refine Classical.byContradiction fun hc => ?_
              have h2 : false = true := HBQ.out.2 fun j y hj hji hy => by
                cases hh : sB l x y with
                | false => rfl
                | true =>
                  exfalso
                  refine hc ?_
                  have hyt : y ∈ z.take i := List.mem_of_getElem? (i := j) (by rw [List.getElem?_take, if_pos hji]; exact hy)
                  obtain ⟨a, ha, h3⟩ := hFO.cov y hyt
                  exact List.any_eq_true.2 ⟨a, ha, sB_trans h3 (sB_symm hh)⟩
              cases h2
            have HNX : Hid (DoRel l z w4 w5 (.slice AG n c) (.int .i64 ((i : Int) + 1)) W2) := ⟨i + 1, n, c, AG, rs, by have := HM.out; omega, by go_num, rfl, HNK.out.1, by have := HNK.out; omega, by rw [ef]; exact HRO.out, HDR.out.keep HBW.out⟩
            clear hFO e1 ez hmem hog ef how s0
            go_wp2
            go_roundw
            case rel => exact HNX.out
            case measure => simp [intOf]; omega
          | true =>
            have ef : frs l (z.take (i + 1)) = frs l (z.take i) ++ [x] := by
              rw [e1, frs_snoc]
              unfold frs1
              rw [if_neg]
              intro hc
              obtain ⟨a, ha, h3⟩ := List.any_eq_true.1 hc
              obtain ⟨j, hji, hj⟩ := hmem a (hFO.mem a ha)
              have := HBQ.out.1 rfl j a (by omega) hji hj
              rw [sB_symm h3] at this; cases this
            have hdr2 := HDR.out.keep HBW.out
            have hba : Below W2.heap.size W2 (W2.alloc (.cells #[.slice AV ((z.take q).filter (sB l x)).length cV] 29)) := (Below.refl _ _).alloc (Nat.le_refl _) _
            have HDA := Lib.hid (hdr2.keep hba)
            have hrl : rs.length = n := HNK.out.1
            have HGG := HDA.out.gr.g
            rw [hrl] at HGG
            have HGG := Lib.hid HGG
            have hogA := own_keepP hog hba
            have HOGA := Lib.hid hogA
            have HEF := Lib.hid ef
            have HEZ := Lib.hid ez
            clear hFO e1 ez hmem hog ef how s0 hdr2 hba hrl hogA
            go_wp2_with (at_builtin; refine wpList_append_own_at _ rfl _ _ 41 rfl w4.heap.size 29 iS (.slice none 0 0) 1 24 Try.underlying41 hiS hy0 hy1 hy2 rfl (by decide) _ _ _ rfl HGG.out ⟨W2.heap.size, 0, none⟩ 1 1 [.slice AV ((z.take q).filter (sB l x)).length cV] rfl rfl (cell_one_new _ _ _) ?n1c2 ?n1c3 ?n1c4 ?n1c5 ?_)
            case n1c2 => first | rfl | (intro u hu; simp at hu; subst hu; rfl)
            case n1c3 => have := HNK.out; unfold maxLen; omega
            case n1c4 => have := HNK.out; omega
            case n1c5 => have := HDA.out.b4.size; first | exact this | (simp at this ⊢; omega)
            intro GV1 wg1 ho hgx _ hat
            rw [HEZ.out] at ho
            obtain ⟨AG1, cg1, rfl⟩ := slice_of ho
            have HPU := Lib.hid (HDA.out.push (L := z.filter (sB l x)) (by have := HS45.out; omega) (by
              have h := HOGA.out
              rw [HEZ.out] at h ⊢
              exact Act.row_base h HDR.out.ju.size) (fun j hj => ⟨fun e => by
                have h1 := (HDR.out.gr.g.lt j e).2
                have h2 := (HOGA.out.lt j hj).1
                omega, fun p hp e => by
                have h1 := ((HDR.out.gr.r p hp).lt j e).2
                have h2 := (HOGA.out.lt j hj).1
                omega⟩) (by rw [HNK.out.1]; exact ho) hgx (by first | exact hat | (rw [World.size_alloc]; exact hat)))
            have HNX : Hid (DoRel l z w4 w5 (.slice AG1 (n + 1) cg1) (.int .i64 ((i : Int) + 1)) wg1) := ⟨i + 1, n + 1, cg1, AG1, _, by have := HM.out; omega, by go_num, rfl, by rw [List.length_append, List.length_singleton, HNK.out.1], by have := HNK.out; omega, by rw [HEF.out, List.map_append, List.map_append, HRO.out]; rfl, HPU.out⟩
            clear ho hgx hat HPU HGG HDA HOGA
            go_wp2
            go_roundw
            case rel => exact HNX.out
            case measure => simp [intOf]; omega
    · obtain rfl : i = N := by have := HNK.out; omega
      have HFIN : Hid (SgPost l ids w (.returned (.slice AG n c)) W) := ⟨_, rs, w4.heap.size, rfl, by have h := HRO.out; rw [List.take_of_length_le (by have := HM.out; omega)] at h; rw [HZ.out]; exact h, HDR.out.gr, HB4.out.size, HB4.out.trans (HDR.out.b4.mono HB4.out.size)⟩
      clear HDR HRO
      go_wp2
      simp [bodyPost, results, Try.results28, go_sem]
      exact HFIN.out
end Go.Proofs.Ytnngldkpkhabeaa.Rel
