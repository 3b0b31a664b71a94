/- Transitions: groups in the order of their firsts: plain; and what stands while they are gathered. No condition. Transitions: groups of any ids (Strong). Condition: at most 500 pairs, and 400 ids. -/
import Derived.Test.YtnngldkpkhabeaaMi01
namespace Go.Proofs.Ytnngldkpkhabeaa.Rel

open Go.RowKit Go.PlainAid Go.Proofs.Ytnngldkpkhabeaa.Oct Go.Proofs.Ytnngldkpkhabeaa.Flt Go.Proofs.Ytnngldkpkhabeaa.Rdr Go.Proofs.Ytnngldkpkhabeaa.Args Go.Proofs.Ytnngldkpkhabeaa.Win Go.Proofs.Ytnngldkpkhabeaa.Mpv

open Go.Proofs.Ytnngldkpkhabeaa.Pai (P2 Rs TJ Lf sub_len PairsAt pairC Wide)

set_option linter.unusedVariables false

set_option linter.unusedSimpArgs false

open Classical in

/-- Do two lead to one another? -/
noncomputable def sB (l : List P2) (a b : Int) : Bool := decide (Rs l a b ∧ Rs l b a)
theorem sB_iff {l : List P2} {a b : Int} : sB l a b = true ↔ (Rs l a b ∧ Rs l b a) := by unfold sB; simp
theorem sB_refl (l : List P2) (a : Int) : sB l a a = true := sB_iff.2 ⟨.inl rfl, .inl rfl⟩
theorem sB_symm {l : List P2} {a b : Int} (h : sB l a b = true) : sB l b a = true := sB_iff.2 ⟨(sB_iff.1 h).2, (sB_iff.1 h).1⟩
theorem sB_trans {l : List P2} {a b c : Int} (h : sB l a b = true) (k : sB l b c = true) : sB l a c = true :=
  sB_iff.2 ⟨(sB_iff.1 h).1.trans (sB_iff.1 k).1, (sB_iff.1 k).2.trans (sB_iff.1 h).2⟩
noncomputable def frs1 (l : List P2) (F : List Int) (x : Int) : List Int := if F.any (fun a => sB l a x) then F else F ++ [x]
/-- The first one of each group. -/
noncomputable def frs (l : List P2) (pre : List Int) : List Int := pre.foldl (frs1 l) []
theorem frs_snoc (l : List P2) (pre : List Int) (x : Int) : frs l (pre ++ [x]) = frs1 l (frs l pre) x := by unfold frs; rw [List.foldl_append]; rfl
structure FO (l : List P2) (pre F : List Int) : Prop where
  mem : ∀ a ∈ F, a ∈ pre
  cov : ∀ x ∈ pre, ∃ a ∈ F, sB l a x = true
  pw : ∀ (i j : Nat) (a b : Int), F[i]? = some a → F[j]? = some b → sB l a b = true → i = j
theorem FO.old {l : List P2} {pre F : List Int} (f : FO l pre F) {x a : Int} (ha : a ∈ F) (h : sB l a x = true) : FO l (pre ++ [x]) F :=
  ⟨fun b hb => by simp [f.mem b hb], fun y hy => by
    rcases List.mem_append.1 hy with h1 | h1
    · exact f.cov y h1
    · rw [List.mem_singleton.1 h1]; exact ⟨a, ha, h⟩, f.pw⟩
theorem FO.new {l : List P2} {pre F : List Int} (f : FO l pre F) {x : Int} (h : ∀ a ∈ F, sB l a x = false) : FO l (pre ++ [x]) (F ++ [x]) := by
  refine ⟨fun b hb => ?_, fun y hy => ?_, fun i j a b hi hj hs => ?_⟩
  · rcases List.mem_append.1 hb with h1 | h1
    · simp [f.mem b h1]
    · simp [List.mem_singleton.1 h1]
  · rcases List.mem_append.1 hy with h1 | h1
    · obtain ⟨a, ha, h2⟩ := f.cov y h1
      exact ⟨a, by simp [ha], h2⟩
    · exact ⟨x, by simp, by rw [List.mem_singleton.1 h1]; exact sB_refl l x⟩
  · have key : ∀ (i : Nat) (a : Int), (F ++ [x])[i]? = some a → (F[i]? = some a ∧ a ∈ F) ∨ (i = F.length ∧ a = x) := fun i a hi => by
      rcases Nat.lt_or_ge i F.length with hl | hl
      · rw [List.getElem?_append_left hl] at hi
        exact .inl ⟨hi, List.mem_of_getElem? hi⟩
      · rw [List.getElem?_append_right hl] at hi
        have h1 := (List.getElem?_eq_some_iff.1 hi).1
        simp at h1
        have h2 : i = F.length := by omega
        rw [h2] at hi
        simp at hi
        exact .inr ⟨h2, hi.symm⟩
    rcases key i a hi with ⟨h1, h2⟩ | ⟨h1, rfl⟩
    · rcases key j b hj with ⟨h3, h4⟩ | ⟨h3, rfl⟩
      · exact f.pw i j a b h1 h3 hs
      · rw [h a h2] at hs; cases hs
    · rcases key j b hj with ⟨h3, h4⟩ | ⟨h3, rfl⟩
      · have hh := sB_symm hs
        rw [h b h4] at hh; cases hh
      · omega
theorem frs_ok (l : List P2) : ∀ (n : Nat) (pre : List Int), pre.length = n → FO l pre (frs l pre)
  | 0, pre, h => by
    rw [List.eq_nil_of_length_eq_zero h]
    exact ⟨fun a h => (by simp [frs] at h), fun x h => (by cases h), fun i j a b h => (by simp [frs] at h)⟩
  | n + 1, pre, h => by
    rcases List.eq_nil_or_concat pre with e | ⟨p, x, e⟩
    · rw [e] at h; cases h
    · rw [List.concat_eq_append] at e
      subst e
      have ih := frs_ok l n p (by simpa using h)
      rw [frs_snoc]
      unfold frs1
      split
      · rename_i hc
        obtain ⟨a, ha, h2⟩ := List.any_eq_true.1 hc
        exact ih.old ha h2
      · rename_i hc
        refine ih.new fun a ha => ?_
        cases hh : sB l a x with
        | false => rfl
        | true => exact absurd (List.any_eq_true.2 ⟨a, ha, hh⟩) hc
/-- The groups' rows. -/
noncomputable def rowsG (l : List P2) (pre F : List Int) : List (List Int) := F.map fun a => pre.filter (sB l a)
theorem rows_old {l : List P2} {pre F : List Int} (f : FO l pre F) {x a : Int} {i : Nat} (hi : F[i]? = some a) (h : sB l a x = true) : rowsG l (pre ++ [x]) F = (rowsG l pre F).set i (pre.filter (sB l a) ++ [x]) := by
  apply List.ext_getElem?
  intro j
  unfold rowsG
  rw [List.getElem?_map, List.getElem?_set]
  by_cases hj : i = j
  · subst hj
    have hl := (List.getElem?_eq_some_iff.1 hi).1
    rw [if_pos rfl, if_pos (by rw [List.length_map]; exact hl), hi]
    simp [List.filter_append, h]
  · rw [if_neg hj, List.getElem?_map]
    cases hb : F[j]? with
    | none => rfl
    | some b =>
      have hbx : sB l b x = false := by
        cases hh : sB l b x with
        | false => rfl
        | true => exact absurd (f.pw i j a b hi hb (sB_trans h (sB_symm hh))) hj
      simp [List.filter_append, hbx]
theorem rows_new {l : List P2} {pre F : List Int} (f : FO l pre F) {x : Int} (h : ∀ a ∈ F, sB l a x = false) : rowsG l (pre ++ [x]) (F ++ [x]) = rowsG l pre F ++ [[x]] := by
  unfold rowsG
  rw [List.map_append]
  congr 1
  · refine List.map_congr_left fun a ha => ?_
    simp [List.filter_append, h a ha]
  · have e : pre.filter (sB l x) = [] := by
      rw [List.filter_eq_nil_iff]
      intro y hy hs
      obtain ⟨a, ha, h2⟩ := f.cov y hy
      have := sB_trans h2 (sB_symm hs)
      rw [h a ha] at this; cases this
    simp [List.filter_append, e, sB_refl]
/-- Where a gathering's things lie. -/
structure TE where
  W0 : World
  N : Nat
  s : Nat
  mt : Nat
  mr : Nat
  mm : Nat
  mc : Nat
  mg : Nat
  P : Nat
  A : Option Addr
  RS : List Int
  B : Nat
/-- What of a gathering stands throughout. -/
structure TC (d : TE) (w0 : World) : Prop where
  c1 : d.N ≤ d.P ∧ d.P < d.B ∧ w0.heap.size ≤ d.N
  c2 : w0.heap.size ≤ d.s ∧ w0.heap.size ≤ d.mr ∧ w0.heap.size ≤ d.mm ∧ w0.heap.size ≤ d.mc ∧ w0.heap.size ≤ d.mg
  ra : ∀ y, d.A = some y → d.N ≤ y.block ∧ y.block < d.B ∧ y.block ≠ d.P
  b0 : Below w0.heap.size w0 d.W0
structure TG (d : TE) (w0 : World) (cm cg : Nat) (FR : Int → Option Value) (FM FC FG : Int → Option Int) (ob : Option Nat) (cp : Nat) (Fp : Int → Option Value) (GV : Value) (rs : List (Value × List Int)) (w : World) : Prop where
  ss : SS d.W0 d.N d.s d.mt d.mr d.mm d.mc d.mg cm cg FR FM FC FG [] ob w
  pl : MapV w d.P cp Fp
  rr : RowAt w d.A d.RS
  gr : GR d.B GV rs w
  bs : d.B ≤ w.heap.size
  ap : ∀ j, ob = some j → j ≠ d.P ∧ GV.ownBlock ≠ some j ∧ (∀ p ∈ rs, p.1.ownBlock ≠ some j) ∧ ∀ y, d.A = some y → y.block ≠ j
  tc : TC d w0
section

variable {d : TE} {w0 w w' : World} {cm cg cp cp' : Nat} {FR : Int → Option Value} {FM FC FG : Int → Option Int} {ob : Option Nat} {Fp Fp' : Int → Option Value} {GV GV' V' : Value} {rs rs' : List (Value × List Int)}

theorem TG.below (h : TG d w0 cm cg FR FM FC FG ob cp Fp GV rs w) : Below w0.heap.size w0 w := by
  obtain ⟨a1, a2, a3⟩ := h.tc.c1
  obtain ⟨e1, e2, e3, e4, e5⟩ := h.tc.c2
  have h8 := h.ss.os
  have b := h.tc.b0
  exact ⟨h8.1.trans b.os, h8.2.1.trans b.tape, h8.2.2.1.trans b.output, by omega, fun k hk => (h.ss.still k (by omega) (by omega) (by omega) (by omega) (by omega) (by omega)).trans (b.block k hk)⟩
theorem row_kept_at {A : Option Addr} {R : List Int} (h : RowAt w A R) (hk : ∀ y, A = some y → w'.heap[y.block]? = w.heap[y.block]?) : RowAt w' A R := by
  intro j z hz
  obtain ⟨y, e, c⟩ := h j z hz
  exact ⟨y, e, (World.cell?_of_block (by rw [add_block]; exact hk y e)).trans c⟩
theorem RowAt.blk {A : Option Addr} {R : List Int} (h : RowAt w A R) {y : Addr} (e : A = some y) {j : Nat} {z : Int} (hz : R[j]? = some z) : y.block < w.heap.size := by
  obtain ⟨y', e', c⟩ := h j z hz
  obtain rfl : y = y' := Option.some.inj (e.symm.trans e')
  have := Go.block_lt_of_cell c
  rwa [add_block] at this
theorem TG.keep (h : TG d w0 cm cg FR FM FC FG ob cp Fp GV rs w) (b : Below w.heap.size w w') : TG d w0 cm cg FR FM FC FG ob cp Fp GV rs w' :=
  ⟨h.ss.keep b, h.pl.keep b, h.rr.kept b, h.gr.keep b, Nat.le_trans h.bs b.size, h.ap, h.tc⟩
/-- The search goes on. -/
theorem TG.search (h : TG d w0 cm cg FR FM FC FG ob cp Fp GV rs w) {cm' cg' : Nat} {FR' : Int → Option Value} {FM' FC' FG' : Int → Option Int} {ob' : Option Nat} (hs : SS d.W0 d.N d.s d.mt d.mr d.mm d.mc d.mg cm' cg' FR' FM' FC' FG' [] ob' w') (r : Rst d.N ob w w') (ho : ob' = ob ∨ ∃ j, ob' = some j ∧ w.heap.size ≤ j) : TG d w0 cm' cg' FR' FM' FC' FG' ob' cp Fp GV rs w' := by
  obtain ⟨a1, a2, a3⟩ := h.tc.c1
  have hbs := h.bs
  have hr : RowAt w' d.A d.RS := by
    intro j z hz
    obtain ⟨y, e, c⟩ := h.rr j z hz
    have hy := h.tc.ra y e
    refine ⟨y, e, (World.cell?_of_block ?_).trans c⟩
    rw [add_block]
    exact r.block _ hy.1 (by omega) (fun e2 => (h.ap _ e2).2.2.2 y e rfl)
  refine ⟨hs, h.pl.kept (r.block _ a1 h.pl.blk (fun e => (h.ap _ e).1 rfl)), hr, ⟨own_rst' h.gr.g (fun j hj => ⟨by have := (h.gr.g.lt j hj).1; omega, fun e => (h.ap j e).2.1 hj⟩) r, fun p hp => own_rst' (h.gr.r p hp) (fun j hj => ⟨by have := ((h.gr.r p hp).lt j hj).1; omega, fun e => (h.ap j e).2.2.1 p hp hj⟩) r, h.gr.d0, h.gr.d1⟩, Nat.le_trans h.bs r.size, fun j hj => ?_, h.tc⟩
  rcases ho with rfl | ⟨k, rfl, hk⟩
  · exact h.ap j hj
  · obtain rfl := Option.some.inj hj
    exact ⟨by have := h.pl.blk; omega, fun e => by have := (h.gr.g.lt _ e).2; omega, fun p hp e => by have := ((h.gr.r p hp).lt _ e).2; omega, fun y e => by have := h.tc.ra y e; omega⟩
where
  own_rst' {w w' : World} {N B n e : Nat} {T : TypeId} {V : Value} {xs : List Value} {ob : Option Nat} (h : w.ownsRow B T e V n xs) (hap : ∀ j, V.ownBlock = some j → N ≤ j ∧ ob ≠ some j) (r : Rst N ob w w') : w'.ownsRow B T e V n xs := by
    refine ⟨h.1, ?_⟩
    rcases h.2 with h' | ⟨g, cap, cur, e, h1, h2, h3⟩
    · exact .inl h'
    · exact .inr ⟨g, cap, cur, e, h1, (r.block g (hap g (by rw [e]; rfl)).1 (lt_of_block h2) (hap g (by rw [e]; rfl)).2).trans h2, h3⟩
theorem TG.put (h : TG d w0 cm cg FR FM FC FG ob cp Fp GV rs w) (hm : MapV w' d.P cp' Fp') (hg : w.grownBy w' (some d.P)) : TG d w0 cm cg FR FM FC FG ob cp' Fp' GV rs w' := by
  obtain ⟨a1, a2, a3⟩ := h.tc.c1
  refine ⟨h.ss.grownRow hg (fun j hj => ?_), hm, fun i z hz => ?_, h.gr.other hg a2, Nat.le_trans h.bs hg.size, h.ap, h.tc⟩
  · have e := Option.some.inj hj
    exact ⟨by omega, fun e2 => (h.ap j e2).1 e.symm⟩
  · obtain ⟨y, e, c⟩ := h.rr i z hz
    exact ⟨y, e, hg.cell c (fun e2 => by rw [add_block] at e2; exact (h.tc.ra y e).2.2 (Option.some.inj e2))⟩
/-- A row at B and above is changed. -/
theorem TG.rest (h : TG d w0 cm cg FR FM FC FG ob cp Fp GV rs w) {r : Option Nat} (hg : w.grownBy w' r) (hr : ∀ j, r = some j → d.B ≤ j ∧ ob ≠ some j) (hG : GR d.B GV' rs' w') (hap : ∀ j, ob = some j → GV'.ownBlock ≠ some j ∧ ∀ p ∈ rs', p.1.ownBlock ≠ some j) : TG d w0 cm cg FR FM FC FG ob cp Fp GV' rs' w' := by
  obtain ⟨a1, a2, a3⟩ := h.tc.c1
  refine ⟨h.ss.grownRow hg (fun j hj => ⟨by have := (hr j hj).1; omega, (hr j hj).2⟩), h.pl.kept (hg.block _ h.pl.blk (fun e => by have := (hr _ e.symm).1; omega)), fun i z hz => ?_, hG, Nat.le_trans h.bs hg.size, fun j hj => ⟨(h.ap j hj).1, (hap j hj).1, (hap j hj).2, (h.ap j hj).2.2.2⟩, h.tc⟩
  obtain ⟨y, e, c⟩ := h.rr i z hz
  exact ⟨y, e, hg.cell c (fun e2 => by rw [add_block] at e2; have := (hr _ e2.symm).1; have := (h.tc.ra y e).2.1; omega)⟩
theorem TG.more (h : TG d w0 cm cg FR FM FC FG ob cp Fp GV rs w) (ho : w'.ownsRow d.B 29 1 GV' (rs.length + 1) (rs.map Prod.fst ++ [.slice none 0 0])) (hg : w.grownBy w' GV.ownBlock) (hat : GV'.ownBlock = GV.ownBlock ∨ GV'.ownBlock = some w.heap.size) : TG d w0 cm cg FR FM FC FG ob cp Fp GV' (rs ++ [(.slice none 0 0, [])]) w' :=
  h.rest hg (fun j hj => ⟨(h.gr.g.lt j hj).1, fun e => (h.ap j e).2.1 hj⟩) (h.gr.more ho hg hat) (fun j hj => ⟨by
    rcases hat with e | e
    · rw [e]; exact (h.ap j hj).2.1
    · rw [e]
      intro e2
      have := Option.some.inj e2
      have := h.ss.ob_lt j hj
      omega, fun p hp => by
    rcases List.mem_append.1 hp with hp | hp
    · exact (h.ap j hj).2.2.1 p hp
    · rw [List.mem_singleton.1 hp]; intro e; cases e⟩)
theorem TG.grown (h : TG d w0 cm cg FR FM FC FG ob cp Fp GV rs w) {i : Nat} {V : Value} {L : List Int} {x : Int} (hi : rs[i]? = some (V, L)) (ho : w'.ownsRow d.B 3 1 V' (L.length + 1) (L.map (Value.int .i64) ++ [.int .i64 x])) (hg : w.grownBy w' V.ownBlock) (hat : V'.ownBlock = V.ownBlock ∨ V'.ownBlock = some w.heap.size)
    {g cap : Nat} (hG : GV = .slice (some ⟨g, 0, none⟩) rs.length cap) : w'.cell? ⟨g, i, none⟩ = some V ∧ w'.frozen? ⟨g, i, none⟩ = false ∧ TG d w0 cm cg FR FM FC FG ob cp Fp GV (rs.set i (V', L ++ [x])) (w'.setCell ⟨g, i, none⟩ V') := by
  have hm := List.mem_of_getElem? hi
  obtain ⟨h1, h2, h3, h4, h5⟩ := h.gr.grown hi ho hg hat hG
  have hV : ∀ j, V.ownBlock = some j → d.B ≤ j := fun j hj => ((h.gr.r _ hm).lt j hj).1
  have hgo : ∀ j, ob = some j → g ≠ j := fun j hj e => (h.ap j hj).2.1 (by rw [hG, e]; rfl)
  obtain ⟨a1, a2, a3⟩ := h.tc.c1
  have hs1 := h.ss.grownRow hg (fun j hj => ⟨by have := hV j hj; omega, fun e => (h.ap j e).2.2.1 _ hm hj⟩)
  have hs2 := hs1.grownRow h4 (fun j hj => by have e := Option.some.inj hj; exact ⟨by omega, fun e2 => hgo j e2 e⟩)
  have hp1 := h.pl.kept (hg.block _ h.pl.blk (fun e => by have := hV _ e.symm; omega))
  have hp2 := hp1.kept (h4.block _ hp1.blk (fun e => by have := Option.some.inj e; omega))
  refine ⟨h1, h2, hs2, hp2, fun j z hz => ?_, h3, Nat.le_trans h.bs (Nat.le_trans hg.size h4.size), fun j hj => ⟨(h.ap j hj).1, (h.ap j hj).2.1, fun p hp => ?_, (h.ap j hj).2.2.2⟩, h.tc⟩
  · obtain ⟨y, e, c⟩ := h.rr j z hz
    have hy := (h.tc.ra y e).2.1
    have e1 := hg.cell c (fun e => by rw [add_block] at e; have := hV _ e.symm; omega)
    exact ⟨y, e, h4.cell e1 (fun e => by rw [add_block] at e; have := Option.some.inj e; omega)⟩
  · rcases List.mem_or_eq_of_mem_set hp with hp | rfl
    · exact (h.ap j hj).2.2.1 p hp
    · dsimp only
      rcases hat with e | e
      · rw [e]; exact (h.ap j hj).2.2.1 _ hm
      · rw [e]
        intro e2
        have := Option.some.inj e2
        have := h.ss.ob_lt j hj
        omega
end

end Go.Proofs.Ytnngldkpkhabeaa.Rel
namespace Go.Proofs.Ytnngldkpkhabeaa.Rel

open Go.RowKit Go.PlainAid Go.Proofs.Ytnngldkpkhabeaa.Oct Go.Proofs.Ytnngldkpkhabeaa.Flt Go.Proofs.Ytnngldkpkhabeaa.Rdr Go.Proofs.Ytnngldkpkhabeaa.Args Go.Proofs.Ytnngldkpkhabeaa.Win Go.Proofs.Ytnngldkpkhabeaa.Mpv

open Go.Proofs.Ytnngldkpkhabeaa.Pai (P2 Rs TJ Lf sub_len PairsAt pairC Wide)

set_option linter.unusedVariables false

set_option linter.unusedSimpArgs false

/-- Groups, as the program lays them: a row of rows. -/
def SgPost (l : List P2) (ids : List Int) (w : World) (e : Ending) (w' : World) : Prop :=
  ∃ (GV : Value) (rs : List (Value × List Int)) (B : Nat), e = .returned GV ∧ rs.map Prod.snd = rowsG l (risZ ids) (frs l (risZ ids)) ∧ GR B GV rs w' ∧ w.heap.size ≤ B ∧ Below w.heap.size w w'
def SgRel (d : TE) (l : List P2) (D : List Int) (w : World) (FT : Int → Option Value) (gv i : Value) (W : World) : Prop :=
  ∃ (k : Nat) (A : Option Addr) (n c : Nat) (rs : List (Value × List Int)) (rest : Int → List Int) (FR : Int → Option Value) (FM FC FG : Int → Option Int) (cm cg : Nat) (ob : Option Nat) (cp : Nat) (Fp : Int → Option Value),
    k ≤ d.RS.length ∧ i = .int .i64 (k : Int) ∧ gv = .slice A n c ∧ rs.length = n ∧ n ≤ k ∧ cp ≤ k ∧ TG d w cm cg FR FM FC FG ob cp Fp gv rs W ∧ TA l D [] [] rest FM FC FG cm cg ∧ RW d.W0 d.N d.s d.mr d.mm d.mc d.mg l rest FR ∧
    rs.map Prod.snd = rowsG l (d.RS.take k) (frs l (d.RS.take k)) ∧
    (∀ (i : Nat) (a : Int), (frs l (d.RS.take k))[i]? = some a → ∃ lb, FG a = some lb ∧ Fp lb = some (.int .i64 (i : Int))) ∧
    (∀ lb x, Fp lb = some x → ∃ (i : Nat) (a : Int), (frs l (d.RS.take k))[i]? = some a ∧ FG a = some lb)
theorem own_at {w : World} {B n c : Nat} {A : Option Addr} {L : List Int} (h : w.ownsRow B 3 1 (.slice A n c) n (L.map (Value.int .i64))) (hl : L.length = n) : RowAt w A L ∧ n ≤ c ∧ (A = none → c = 0) ∧ (∀ y, A = some y → ∃ g o, y = ⟨g, o, none⟩) ∧ ∀ y, A = some y → (Value.slice A n c).ownBlock = some y.block := by
  rcases h.2 with ⟨e, h0⟩ | ⟨g, cap, cur, e, h1, h2, h3, h4⟩
  · injection e with e1 e2 e3
    subst e1 e2 e3
    obtain rfl : L = [] := List.eq_nil_of_length_eq_zero hl
    exact ⟨fun j z hz => (by simp at hz), Nat.le_refl _, fun _ => rfl, fun y e => (by cases e), fun y e => (by cases e)⟩
  · injection e with e1 e2 e3
    subst e1 e3
    exact ⟨row_ints h hl, h3, fun e => (by cases e), fun y e => ⟨g, 0, (Option.some.inj e).symm⟩, fun y e => (by rw [← Option.some.inj e]; rfl)⟩
theorem lab_in {l : List P2} {D K O : List Int} {rest : Int → List Int} {FM FC FG : Int → Option Int} {cm cg : Nat} (f : TA l D K O rest FM FC FG cm cg) (hd : ∀ p ∈ l, p.t ∈ D) {x a : Int} (hx : x ∈ D) (h : FG x = some a) : a ∈ D := by
  rcases (f.tj.g2 x a h).1 with e | e
  · rw [← e]; exact hx
  · obtain ⟨p, hp, e2⟩ := List.mem_map.1 (Pai.Conn.dom e).2
    rw [← e2]; exact hd p hp
theorem slice_of {w : World} {B s n : Nat} {V : Value} {xs : List Value} {T : TypeId} (h : w.ownsRow B T s V n xs) : ∃ A c, V = .slice A n c := by
  rcases h.2 with ⟨rfl, h0⟩ | ⟨g, cap, cur, rfl, _⟩
  · exact ⟨none, 0, by rw [h0]⟩
  · exact ⟨_, _, rfl⟩
set_option maxRecDepth 8000 in
set_option maxHeartbeats 12800000 in
theorem strong_any (A : Option Addr) (m cap : Nat) (l : List P2) (I : Option Addr) (li ci : Nat) (ids : List Int) (w : World) (hp : PairsAt w A l) (hw : ∀ x ∈ l, Wide x) (hlm : l.length = m) (hl : m ≤ 500) (hI : IntsBelow w.heap.size w (.slice I li ci) ids) (hids : ids.length ≤ 400) (hi64 : ∀ z ∈ ids, Mpv.I64 z) :
    Calls Try.prog 27 #[.slice A m cap, .slice I li ci] w (SgPost l ids w) := by
  obtain ⟨i0, hi, hz0, hz1, hz2⟩ := info_parts infoInt2
  obtain ⟨iS, hiS, hy0, hy1, hy2⟩ := info_parts infoSl
  have HST := Lib.hid (start_any A cap m l w hp hw hlm (by omega))
  have HQ := Lib.hid hI
  have HWD := Lib.hid hw
  have HLN : Hid (l.length ≤ 500 ∧ ids.length ≤ 400) := ⟨by omega, hids⟩
  have H64 := Lib.hid hi64
  have hmm := @run_makeMap Try.prog
  clear hp hw hlm hl hI hids hi64
  go_enter Try.func27, Try.ntmps27
  go_wp2_with fail
  refine HST.out.mono ?_
  rintro e w1 ⟨s, mr, mm, mc, mg, c, F, rfl, hlk, hss, hrb, hge, hb1⟩
  have HLK := Lib.hid hlk
  have HSS := Lib.hid hss
  have HRB := Lib.hid hrb
  have HB1 := Lib.hid hb1
  have HGE := Lib.hid hge
  obtain ⟨N, hN⟩ : ∃ N, w1.heap.size = N := ⟨_, rfl⟩
  rw [hN] at HSS
  have HN := Lib.hid hN
  clear hlk hss hrb hb1 hge HST hN
  go_upto_region 4 with fail
  have hba : Below w1.heap.size w1 (w1.alloc (.map #[] 0)) := (Below.refl _ _).alloc (Nat.le_refl _) _
  have hp2 : MapV (w1.alloc (.map #[] 0)) w1.heap.size 0 (fun _ => none) := map_made w1
  have hsz2 : (w1.alloc (.map #[] 0)).heap.size = w1.heap.size + 1 := by simp
  obtain ⟨w2, hw2⟩ : ∃ W, w1.alloc (.map #[] 0) = W := ⟨_, rfl⟩
  rw [hw2] at hba hp2 hsz2
  rw [hw2, HN.out]
  rw [HN.out] at hp2 hsz2
  have HBA := Lib.hid hba
  have HP2 := Lib.hid hp2
  have HZ2 := Lib.hid hsz2
  have HRI := Lib.hid (rising_any I li ci ids w2 ((HQ.out.below (HB1.out.trans (hba.mono HB1.out.size))).mono (Nat.le_trans HB1.out.size hba.size)) (by have := HLN.out.2; omega))
  clear hw2 hba hp2 hsz2
  go_wp2_with fail
  refine HRI.out.mono ?_
  rintro e w3 ⟨RV, rfl, ho3, hb3⟩
  have HO3 := Lib.hid ho3
  have HP3 := Lib.hid (HP2.out.keep hb3)
  have HSS3 := Lib.hid ((HSS.out.keep HBA.out).keep hb3)
  have HB3 := Lib.hid ((HB1.out.trans (HBA.out.mono HB1.out.size)).trans (hb3.mono (Nat.le_trans HB1.out.size HBA.out.size)))
  have HS23 : Hid (w2.heap.size ≤ w3.heap.size) := hb3.size
  obtain ⟨RA, rn, rc, hRV⟩ := ho3.slice
  subst hRV
  have hrn : rn = (risZ ids).length := by
    obtain ⟨A9, c9, e9⟩ := slice_of HO3.out.1
    injection e9
  subst hrn
  obtain ⟨o1, o2, o3, o4, o5⟩ := own_at HO3.out.1 rfl
  have HTC : Hid (TC ⟨w1, N, s, w.heap.size, mr, mm, mc, mg, N, RA, risZ ids, w3.heap.size⟩ w) := by
    have hz2 := HZ2.out
    have hnn := HN.out
    have h23 := HS23.out
    have h1 := HB1.out.size
    refine ⟨⟨Nat.le_refl _, by dsimp only; omega, by dsimp only; omega⟩, HGE.out, fun y e => ?_, HB1.out⟩
    have := HO3.out.1.lt _ (o5 y e)
    dsimp only
    omega
  have HTF : Hid (TF w1 N s w.heap.size mr mm mc mg l (l.map P2.t ++ risZ ids) F c) := by
    refine ⟨HLK.out.mp, fun id => ?_, ?_, fun z hz => ?_, fun p hp => by simp; exact .inl ⟨p, hp, rfl⟩, by have := HLN.out.1; omega⟩
    · obtain ⟨A, n, cp, h1, h2, h3⟩ := HLK.out.at_ id
      subst h3
      obtain ⟨p1, p2, p3, p4, p5⟩ := own_at h2 rfl
      refine ⟨A, _, cp, h1, p1, fun y e => ?_, rfl⟩
      cases hF : F id with
      | none => rw [hF] at h1; subst e; cases h1
      | some V =>
        rw [hF] at h1
        obtain rfl : V = _ := h1
        have := HRB.out id _ y.block hF (p5 y e)
        rw [HN.out] at this
        exact this
    · have := risZ_len ids
      have := HLN.out
      simp; omega
    · rcases List.mem_append.1 hz with hz | hz
      · obtain ⟨p, hp, rfl⟩ := List.mem_map.1 hz
        exact (HWD.out p hp).2
      · exact H64.out z ((risZ_mem ids z).1 hz)
  have HRW0 : Hid (RW w1 N s mr mm mc mg l (tg l) F) := by
    intro id
    obtain ⟨A, n, cp, h1, h2, h3⟩ := HLK.out.at_ id
    subst h3
    obtain ⟨p1, p2, p3, p4, p5⟩ := own_at h2 rfl
    obtain ⟨A', n', c', q1, q2, q3, q4⟩ := HTF.out.row id
    rw [h1] at q1
    injection q1 with e1 e2 e3
    subst e1
    exact ⟨A, _, cp, h1, p1, q3, rfl, p2, p3, p4, fun z hz => hz, tg_len l id⟩
  have HTA0 : Hid (TA l (l.map P2.t ++ risZ ids) [] [] (tg l) noI noI noI 0 0) := by
    refine ⟨TJ.start l (tg l) (fun u t h => mem_tg.2 h), ⟨[], List.nodup_nil, rfl, fun v => by simp [noI], by simp⟩, fun v x h => (by simp [noI] at h), fun v h => (by cases h), Nat.le_refl _⟩
  have HTG0 : Hid (TG ⟨w1, N, s, w.heap.size, mr, mm, mc, mg, N, RA, risZ ids, w3.heap.size⟩ w 0 0 F noI noI noI none 0 (fun _ => none) (.slice none 0 0) [] w3) :=
    ⟨HSS3.out, HP3.out, o1, GR.none_ _ _, Nat.le_refl _, fun j e => (by cases e), HTC.out⟩
  clear o1 o2 o3 o4 o5 HSS3 HP3 HO3 HSS HBA HP2
  obtain ⟨d, hd⟩ : ∃ d : TE, d = ⟨w1, N, s, w.heap.size, mr, mm, mc, mg, N, RA, risZ ids, w3.heap.size⟩ := ⟨_, rfl⟩
  rw [← hd] at HTG0 HTC
  have HDD := Lib.hid hd
  clear hd
  go_wp2_with fail
  go_loopw [6, 19] (fun gv i W => SgRel d l (l.map P2.t ++ risZ ids) w F gv i W) (fun _ i _ => (risZ ids).length - (intOf i).toNat)
  case atStart => exact ⟨0, none, 0, 0, [], tg l, F, noI, noI, noI, 0, 0, none, 0, fun _ => none, Nat.zero_le _, rfl, rfl, rfl, Nat.le_refl _, Nat.le_refl _, HTG0.out, HTA0.out, by rw [HDD.out]; exact HRW0.out, by simp [rowsG, frs], fun i a h => (by simp [frs] at h), fun lb x h => (by cases h)⟩
  case round =>
    clear HTG0 HTA0 HRW0
    obtain ⟨k, A', n, c', rs, rest, FR, FM, FC, FG, cm, cg, ob, cp, Fp, hk, rfl, rfl, hrn, hnk, hcp, htg, hta, hrw, hrows, hf1, hf2⟩ := hrel
    rw [HDD.out] at hk hrw
    dsimp only at hk hrw
    have eRS : d.RS = risZ ids := by rw [HDD.out]
    rw [eRS] at hrows hf1 hf2
    have HTG := Lib.hid htg
    have HTA := Lib.hid hta
    have HRW := Lib.hid hrw
    have HRO := Lib.hid hrows
    have HF1 := Lib.hid hf1
    have HF2 := Lib.hid hf2
    have HNK : Hid (rs.length = n ∧ n ≤ k ∧ cp ≤ k ∧ (risZ ids).length ≤ 400) := ⟨hrn, hnk, hcp, by have := risZ_len ids; have := HLN.out.2; omega⟩
    clear htg hta hrw hrows hf1 hf2 hrn hnk hcp
    by_cases hlt : k < (risZ ids).length
    · obtain ⟨x, hx⟩ : ∃ x, (risZ ids)[k]? = some x := ⟨_, List.getElem?_eq_getElem hlt⟩
      obtain ⟨y, hy, cy⟩ := HTG.out.rr k x (by rw [eRS]; exact hx)
      rw [HDD.out] at hy
      dsimp only at hy
      subst hy
      have hki : (0 : Int) ≤ k := by omega
      have hkb : (k : Int) < ((risZ ids).length : Int) := by omega
      have hk1 : IntKind.i64.wrap ((k : Int) + 1) = (k : Int) + 1 := IntWalk.i64_in _ (by have := HNK.out; omega)
      have hxD : x ∈ l.map P2.t ++ risZ ids := by
        rw [List.mem_append]; exact .inr (List.mem_of_getElem? hx)
      have hss := HTG.out.ss
      rw [HDD.out] at hss
      have HGA := Lib.hid (group_any hss HTF.out HTA.out HRW.out x hxD)
      have HXF : Hid ((risZ ids)[k]? = some x ∧ x ∈ l.map P2.t ++ risZ ids) := ⟨hx, hxD⟩
      clear hss hx hxD
      go_wp2_with fail
      refine HGA.out.mono ?_
      rintro e w4 ⟨a, rest', FR', FM', FC', FG', cm', cg', ob', rfl, hga, hta', hrw', hs', hrst, hob, hext⟩
      have eP : d.P = N := by rw [HDD.out]
      have htg2 := HTG.out.search (cm' := cm') (cg' := cg') (FR' := FR') (FM' := FM') (FC' := FC') (FG' := FG') (ob' := ob') (w' := w4) (by rw [HDD.out]; exact hs') (by rw [HDD.out]; exact hrst) hob
      have hxD := HXF.out.2
      have haD := lab_in hta' HTF.out.dt hxD hga
      have ha64 := HTF.out.di a haD
      have hFO := frs_ok l _ ((risZ ids).take k) rfl
      have e1 : (risZ ids).take (k + 1) = (risZ ids).take k ++ [x] := by rw [List.take_add_one, HXF.out.1]; rfl
      have HE1 := Lib.hid e1
      have hRL : rs.length = (frs l ((risZ ids).take k)).length := by have h := congrArg List.length HRO.out; simpa [rowsG] using h
      have hcpk := HNK.out
      have HST : Hid (TA l (l.map P2.t ++ risZ ids) [] [] rest' FM' FC' FG' cm' cg' ∧ RW w1 N s mr mm mc mg l rest' FR' ∧ (∀ u a, FG u = some a → FG' u = some a) ∧ FG' x = some a ∧ FO l ((risZ ids).take k) (frs l ((risZ ids).take k))) := ⟨hta', hrw', hext, hga, hFO⟩
      cases hFa : Fp a with
      | some v =>
        obtain ⟨i, b, hib, hgb⟩ := HF2.out a v hFa
        obtain ⟨lb, hgb2, hfb⟩ := HF1.out i b hib
        obtain rfl : a = lb := by rw [hgb] at hgb2; exact Option.some.inj hgb2
        obtain rfl : v = .int .i64 (i : Int) := by rw [hFa] at hfb; exact Option.some.inj hfb
        have hsb : sB l b x = true := sB_iff.2 ((hta'.tj.same (hext b a hgb) hga).1 rfl)
        have hlo : (Instr.lookup 59 (.map (some N)) (.int .i64 a) true).run Try.prog w4 = .ok (.tuple #[.int .i64 (i : Int), .bool true]) w4 := by
          have h := htg2.pl.look_ok Try.underlying59 (zero_int _) a ha64
          rw [eP, hFa] at h
          simpa using h
        have hil : i < rs.length := by have := (List.getElem?_eq_some_iff.1 hib).1; omega
        obtain ⟨⟨V, L⟩, hri⟩ : ∃ p, rs[i]? = some p := ⟨_, List.getElem?_eq_getElem hil⟩
        have hL : L = ((risZ ids).take k).filter (sB l b) := by
          have h := congrArg (fun z => z[i]?) HRO.out
          simp [rowsG, hri, hib] at h
          exact h
        obtain ⟨VA, Vc, hV⟩ := slice_of (htg2.gr.r _ (List.mem_of_getElem? hri))
        dsimp only at hV
        subst hV
        obtain ⟨g, hg⟩ : ∃ g, A' = some ⟨g, 0, none⟩ := by
          rcases htg2.gr.g.2 with ⟨_, h0⟩ | ⟨g, cap, _, e, _⟩
          · omega
          · injection e with e1 _ _; exact ⟨g, e1⟩
        subst hg
        obtain rfl : rs.length = n := HNK.out.1
        have hLl : L.length ≤ 400 := by
          rw [hL]
          have h1 := List.length_filter_le (sB l b) ((risZ ids).take k)
          have h2 := List.length_take_le' k (risZ ids)
          omega
        have HLL : Hid (L.length ≤ 400) := hLl
        have HTG2 := Lib.hid htg2
        have HRK := Lib.hid hri
        have HNEW : Hid ((rs.map Prod.snd).set i (L ++ [x]) = rowsG l ((risZ ids).take (k + 1)) (frs l ((risZ ids).take (k + 1))) ∧ frs l ((risZ ids).take (k + 1)) = frs l ((risZ ids).take k)) := by
          have ef : frs l ((risZ ids).take (k + 1)) = frs l ((risZ ids).take k) := by
            rw [e1, frs_snoc]
            unfold frs1
            rw [if_pos (List.any_eq_true.2 ⟨b, List.mem_of_getElem? hib, hsb⟩)]
          refine ⟨?_, ef⟩
          rw [ef, e1, rows_old hFO hib hsb, HRO.out, hL]
        have hcell : w4.cell? ⟨g, i, none⟩ = some (.slice VA L.length Vc) := by
          rw [htg2.gr.g.cellAt i (by omega), List.getElem?_map, hri]; rfl
        have hi0' : (0 : Int) ≤ i := by omega
        have hin : (i : Int) < ((rs.length : Nat) : Int) := by omega
        clear htg2 hxD haD ha64 hFO e1 hRL hcpk hs' hrst hob hta' hrw' hext hga hFa hib hgb hgb2 hfb hsb hil hri hL hLl HGA HTG cy
        go_upto_region 13 with (at_lookup; refine wpList_look _ rfl _ _ 59 true rfl _ _ _ rfl rfl hlo ?_)
        clear hlo
        have hbb : Below w4.heap.size w4 (w4.alloc (.cells #[.int .i64 x] 3)) := (Below.refl _ _).alloc (Nat.le_refl _) _
        have HTB := Lib.hid (HTG2.out.keep hbb)
        have HRW9 := Lib.hid (HTB.out.gr.r _ (List.mem_of_getElem? HRK.out))
        clear hbb
        go_wp2_with (at_builtin; refine wpList_append_own_at _ rfl _ _ 29 rfl d.B 3 i0 (.int .i64 0) 1 8 Try.underlying29 hi hz0 hz1 hz2 rfl (by decide) _ _ _ rfl HRW9.out ⟨w4.heap.size, 0, none⟩ 1 1 [.int .i64 x] rfl rfl (cell_one_new _ _ _) ?d1c2 ?d1c3 ?d1c4 ?d1c5 ?_)
        case d1c2 => first | rfl | (intro u hu; simp at hu; subst hu; rfl)
        case d1c3 => have := HLL.out; unfold maxLen; omega
        case d1c4 => have := HLL.out; omega
        case d1c5 => have := HTB.out.bs; first | exact this | (simp at this ⊢; omega)
        intro V1 wx1 ho hgx _ hat
        obtain ⟨A1, cv1, hV1⟩ := slice_of ho
        subst hV1
        obtain ⟨hz1c, hz2c, htx⟩ := HTB.out.grown HRK.out (x := x) ho hgx (by first | exact hat | (rw [World.size_alloc]; exact hat)) rfl
        obtain ⟨y1, hy1⟩ : ∃ W, wx1.setCell ⟨g, i, none⟩ (.slice A1 (L.length + 1) cv1) = W := ⟨_, rfl⟩
        rw [hy1] at htx
        have HTY := Lib.hid htx
        clear ho hgx hat htx hcell HTB HRW9
        go_wp2_with fail
        try rw [hy1]
        go_roundw
        case rel =>
          refine ⟨k + 1, _, rs.length, c', rs.set i (.slice A1 (L.length + 1) cv1, L ++ [x]), rest', FR', FM', FC', FG', cm', cg', ob', cp, Fp, by rw [eRS]; omega, by go_num, rfl, by simp, by have := HNK.out; omega, by have := HNK.out; omega, HTY.out, HST.out.1, by rw [HDD.out]; exact HST.out.2.1, by rw [List.map_set, eRS]; exact HNEW.out.1, fun j z hz => ?_, fun lb z hz => ?_⟩
          · rw [eRS, HNEW.out.2] at hz
            obtain ⟨lb, h1, h2⟩ := HF1.out j z hz
            exact ⟨lb, HST.out.2.2.1 _ _ h1, h2⟩
          · obtain ⟨j, z', h1, h2⟩ := HF2.out lb z hz
            exact ⟨j, z', by rw [eRS, HNEW.out.2]; exact h1, HST.out.2.2.1 _ _ h2⟩
        case measure => simp [intOf]; omega
      | none =>
        obtain rfl : rs.length = n := HNK.out.1
        have hno : ∀ b ∈ frs l ((risZ ids).take k), sB l b x = false := fun b hb => by
          cases hh : sB l b x with
          | false => rfl
          | true =>
            obtain ⟨j, hj⟩ := List.getElem?_of_mem hb
            obtain ⟨lb, h1, h2⟩ := HF1.out j b hj
            have e9 := (hta'.tj.same (hext b lb h1) hga).2 (sB_iff.1 hh)
            rw [e9, hFa] at h2
            cases h2
        have hlo : (Instr.lookup 59 (.map (some N)) (.int .i64 a) true).run Try.prog w4 = .ok (.tuple #[.int .i64 0, .bool false]) w4 := by
          have h := htg2.pl.look_ok Try.underlying59 (zero_int _) a ha64
          rw [eP, hFa] at h
          simpa using h
        obtain ⟨wu, hru, hmu, hgu⟩ := htg2.pl.put Try.underlying59 a ha64 (.int .i64 (rs.length : Int)) (by omega)
        rw [hFa] at hmu
        have HTU := Lib.hid (htg2.put hmu hgu)
        rw [eP] at hru
        have HRU := Lib.hid hru
        have HFA := Lib.hid hFa
        have HNEW : Hid (rs.map Prod.snd ++ [[x]] = rowsG l ((risZ ids).take (k + 1)) (frs l ((risZ ids).take (k + 1))) ∧ frs l ((risZ ids).take (k + 1)) = frs l ((risZ ids).take k) ++ [x] ∧ rs.length = (frs l ((risZ ids).take k)).length) := by
          have ef : frs l ((risZ ids).take (k + 1)) = frs l ((risZ ids).take k) ++ [x] := by
            rw [e1, frs_snoc]
            unfold frs1
            rw [if_neg (fun h => by
              obtain ⟨b, hb, h2⟩ := List.any_eq_true.1 h
              rw [hno b hb] at h2; cases h2)]
          refine ⟨?_, ef, hRL⟩
          rw [ef, e1, rows_new hFO hno, HRO.out]
        have hkk : k ≤ 400 := by omega
        have HKK : Hid (k ≤ 400) := hkk
        clear htg2 hxD haD ha64 hFO e1 hRL hcpk hs' hrst hob hta' hrw' hext hga hFa hno hru hmu hgu HGA HTG cy
        go_upto_region 12 with (first
          | (at_lookup; refine wpList_look _ rfl _ _ 59 true rfl _ _ _ rfl rfl hlo ?_)
          | (at_mapUpdate; refine wpList_upd _ rfl _ _ _ 59 rfl _ _ _ rfl rfl rfl wu HRU.out ?_))
        clear hlo
        have hba : Below wu.heap.size wu (wu.alloc (.cells #[.slice none 0 0] 29)) := (Below.refl _ _).alloc (Nat.le_refl _) _
        have HTA2 := Lib.hid (HTU.out.keep hba)
        have HGA2 := Lib.hid HTA2.out.gr.g
        clear hba
        go_upto_region 13 with (at_builtin; refine wpList_append_own_at _ rfl _ _ 41 rfl d.B 29 iS (.slice none 0 0) 1 24 Try.underlying41 hiS hy0 hy1 hy2 rfl (by decide) _ _ _ rfl HGA2.out ⟨wu.heap.size, 0, none⟩ 1 1 [.slice none 0 0] rfl rfl (cell_one_new _ _ _) ?n1c2 ?n1c3 ?n1c4 ?n1c5 ?_)
        case n1c2 => first | rfl | (intro u hu; simp at hu; subst hu; rfl)
        case n1c3 => have := HNK.out; have := HKK.out; unfold maxLen; omega
        case n1c4 => have := HNK.out; have := HKK.out; omega
        case n1c5 => have := HTA2.out.bs; first | exact this | (simp at this ⊢; omega)
        intro GV1 wg1 ho hgx _ hat
        obtain ⟨G1, cg1, hGV, hcv⟩ := row_form ho
        subst hGV
        have htg3 := HTA2.out.more ho hgx (by first | exact hat | (rw [World.size_alloc]; exact hat))
        have HTG3 := Lib.hid htg3
        clear ho hgx hat hcv htg3 HTA2 HGA2 HTU HRU
        have HRK : Hid ((rs ++ [((.slice none 0 0 : Value), ([] : List Int))])[rs.length]? = some (.slice none 0 0, ([] : List Int))) := by show _ = _; simp
        have hcell : wg1.cell? ⟨G1, rs.length, none⟩ = some (.slice none 0 0) := by
          have hgr3 := HTG3.out.gr.g
          rw [List.length_append, List.length_singleton] at hgr3
          rw [hgr3.cellAt rs.length (by omega), List.getElem?_map, HRK.out]; rfl
        have hbb : Below wg1.heap.size wg1 (wg1.alloc (.cells #[.int .i64 x] 3)) := (Below.refl _ _).alloc (Nat.le_refl _) _
        have HTB := Lib.hid (HTG3.out.keep hbb)
        have HRW9 : Hid ((wg1.alloc (.cells #[.int .i64 x] 3)).ownsRow d.B 3 1 (.slice none 0 0) 0 []) := HTB.out.gr.r _ (List.mem_of_getElem? HRK.out)
        have hi0' : (0 : Int) ≤ (rs.length : Int) := by omega
        have hin : (rs.length : Int) < ((rs.length + 1 : Nat) : Int) := by omega
        have hin' : (rs.length : Int) < (rs.length : Int) + 1 := by omega
        clear hbb
        go_wp2_with (at_builtin; refine wpList_append_own_at _ rfl _ _ 29 rfl d.B 3 i0 (.int .i64 0) 1 8 Try.underlying29 hi hz0 hz1 hz2 rfl (by decide) _ _ _ rfl HRW9.out ⟨wg1.heap.size, 0, none⟩ 1 1 [.int .i64 x] rfl rfl (cell_one_new _ _ _) ?d2c2 ?d2c3 ?d2c4 ?d2c5 ?_)
        case d2c2 => first | rfl | (intro u hu; simp at hu; subst hu; rfl)
        try (case d2c3 => decide)
        try (case d2c4 => decide)
        case d2c5 => have := HTB.out.bs; first | exact this | (simp at this ⊢; omega)
        intro V1 wx1 ho hgx _ hat
        obtain ⟨A1, cv1, hV1⟩ := slice_of ho
        subst hV1
        obtain ⟨hz1c, hz2c, htx⟩ := HTB.out.grown HRK.out (x := x) ho hgx (by first | exact hat | (rw [World.size_alloc]; exact hat)) (by rw [List.length_append, List.length_singleton])
        obtain ⟨y1, hy1⟩ : ∃ W, wx1.setCell ⟨G1, rs.length, none⟩ (.slice A1 (0 + 1) cv1) = W := ⟨_, rfl⟩
        rw [hy1] at htx
        have HTY := Lib.hid htx
        clear ho hgx hat htx hcell HTB HRW9
        go_wp2_with fail
        try rw [hy1]
        go_roundw
        case rel =>
          refine ⟨k + 1, _, rs.length + 1, cg1, (rs ++ [((.slice none 0 0 : Value), ([] : List Int))]).set rs.length (.slice A1 (0 + 1) cv1, [] ++ [x]), rest', FR', FM', FC', FG', cm', cg', ob', _, _, by rw [eRS]; omega, by go_num, rfl, by simp, by have := HNK.out; omega, ?_, HTY.out, HST.out.1, by rw [HDD.out]; exact HST.out.2.1, ?_, fun j z hz => ?_, fun lb z hz => ?_⟩
          · have := HNK.out
            simp; omega
          · rw [List.set_append_right _ _ (Nat.le_refl _), eRS, ← HNEW.out.1]
            simp
          · rw [eRS, HNEW.out.2.1] at hz
            rcases Nat.lt_or_ge j (frs l ((risZ ids).take k)).length with hj | hj
            · rw [List.getElem?_append_left hj] at hz
              obtain ⟨lb, h1, h2⟩ := HF1.out j z hz
              refine ⟨lb, HST.out.2.2.1 _ _ h1, ?_⟩
              try dsimp only
              rw [if_neg (fun e => by rw [e, HFA.out] at h2; cases h2)]
              exact h2
            · rw [List.getElem?_append_right hj] at hz
              have hj2 := (List.getElem?_eq_some_iff.1 hz).1
              simp at hj2
              obtain rfl : j = (frs l ((risZ ids).take k)).length := by omega
              simp at hz
              subst hz
              refine ⟨a, HST.out.2.2.2.1, ?_⟩
              try dsimp only
              rw [if_pos rfl, HNEW.out.2.2]
          · try dsimp only at hz
            rw [eRS, HNEW.out.2.1]
            split at hz
            · rename_i e
              subst e
              exact ⟨_, x, List.getElem?_concat_length, HST.out.2.2.2.1⟩
            · obtain ⟨j, z', h1, h2⟩ := HF2.out lb z hz
              exact ⟨j, z', by rw [List.getElem?_append_left (List.getElem?_eq_some_iff.1 h1).1]; exact h1, HST.out.2.2.1 _ _ h2⟩
        case measure => simp [intOf]; omega
    · obtain rfl : k = (risZ ids).length := by omega
      have HFIN : Hid (SgPost l ids w (.returned (.slice A' n c')) wr) := ⟨_, rs, d.B, rfl, by have h := HRO.out; rwa [List.take_length] at h, HTG.out.gr, by have h1 := HTC.out.c1; omega, HTG.out.below⟩
      clear HTG HTA HRW HRO HF1 HF2
      go_wp2
      simp [bodyPost, results, Try.results27, go_sem]
      exact HFIN.out
end Go.Proofs.Ytnngldkpkhabeaa.Rel
