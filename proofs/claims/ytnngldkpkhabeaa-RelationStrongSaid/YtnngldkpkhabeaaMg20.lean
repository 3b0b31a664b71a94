/- Pairs that rise: what rows of them lead to from an id (package pairs' reach, Reach, Targets). Condition: at most 1000 pairs. -/
import Derived.Test.YtnngldkpkhabeaaMg18
import Derived.Test.YtnngldkpkhabeaaMg19
import Derived.Maps.AppendAt
namespace Go.Proofs.Ytnngldkpkhabeaa.Pai

open Go.RowKit Go.PlainAid Go.Proofs.Ytnngldkpkhabeaa.Rdr Go.Proofs.Ytnngldkpkhabeaa.Args

open Go.Proofs.Ytnngldkpkhabeaa.Mpv (MapV map_made wpList_look wpList_upd)

set_option linter.unusedVariables false

set_option linter.unusedSimpArgs false

def boolsF (F : List Int) : Int → Option Value := fun v => if v ∈ F then some (.bool true) else none
theorem bools_snoc (F : List Int) (x : Int) : (fun i => if i = x then some (Value.bool true) else boolsF F i) = boolsF (F ++ [x]) := by
  funext i
  unfold boolsF
  by_cases h : i = x
  · simp [h]
  · simp [h]
/-- Within reach: what is found, what is still to be tried, the map. -/
structure RS (b : Nat) (V : Value) (F : List Int) (R : Value) (Ls : List Value) (K : List (List P2)) (w W : World) : Prop where
  set : ∃ c, c ≤ F.length ∧ MapV W b c (boolsF F)
  fnd : W.ownsRow w.heap.size 3 1 V F.length (F.map (Value.int .i64))
  rst : W.ownsRow w.heap.size 22 1 R Ls.length Ls
  stk : Ls.length = K.length
  sv : ∀ (i : Nat) (U : Value) (Q : List P2), Ls[i]? = some U → K[i]? = some Q → SV w U Q
  bel : Below w.heap.size w W
  bl : w.heap.size ≤ b
theorem map_blk {w : World} {b c : Nat} {F : Int → Option Value} (h : MapV w b c F) : ∃ es clock, w.heap[b]? = some (.map es clock) := by
  obtain ⟨D, ⟨es, clock, h1, _⟩, _⟩ := h
  exact ⟨es, clock, h1⟩
theorem row_no_map {w : World} {B m b c : Nat} {T : TypeId} {s : Nat} {V : Value} {xs : List Value} {F : Int → Option Value} (h : w.ownsRow B T s V m xs) (hs : MapV w b c F) : ∀ k, V.ownBlock = some k → k ≠ b := by
  rintro k hk rfl
  obtain ⟨cur, hc⟩ := Prt.own_block h hk
  obtain ⟨es, clock, hm⟩ := map_blk hs
  rw [hc] at hm
  cases hm
theorem row_just {w w' : World} {B m b : Nat} {T : TypeId} {s : Nat} {V : Value} {xs : List Value} (h : w.ownsRow B T s V m xs) (j : Just b w w') (hne : ∀ k, V.ownBlock = some k → k ≠ b) : w'.ownsRow B T s V m xs := Go.Proofs.Ytnngldkpkhabeaa.Act.row_beside h j hne
section

variable {b : Nat} {V V' R R' : Value} {F F' : List Int} {Ls Ls' : List Value} {K K' : List (List P2)} {w W W' : World}

theorem RS.keep (f : RS b V F R Ls K w W) (hb : Below W.heap.size W W') : RS b V F R Ls K w W' := by
  obtain ⟨c, hc, hm⟩ := f.set
  exact ⟨⟨c, hc, hm.keep hb⟩, row_just (b := W.heap.size) f.fnd (Just.of_below hb) fun k hk => by have := (f.fnd.lt k hk).2; omega, row_just (b := W.heap.size) f.rst (Just.of_below hb) fun k hk => by have := (f.rst.lt k hk).2; omega, f.stk, f.sv, f.bel.trans (hb.mono f.bel.size), f.bl⟩
/-- The map is stored into, and what was found is one more: in two steps. -/
structure RM (b : Nat) (V : Value) (F G : List Int) (R : Value) (Ls : List Value) (K : List (List P2)) (w W : World) : Prop where
  set : ∃ c, c ≤ G.length ∧ MapV W b c (boolsF G)
  fnd : W.ownsRow w.heap.size 3 1 V F.length (F.map (Value.int .i64))
  rst : W.ownsRow w.heap.size 22 1 R Ls.length Ls
  stk : Ls.length = K.length
  sv : ∀ (i : Nat) (U : Value) (Q : List P2), Ls[i]? = some U → K[i]? = some Q → SV w U Q
  bel : Below w.heap.size w W
  bl : w.heap.size ≤ b
theorem RM.keep {G : List Int} (f : RM b V F G R Ls K w W) (hb : Below W.heap.size W W') : RM b V F G R Ls K w W' := by
  obtain ⟨c, hc, hm⟩ := f.set
  exact ⟨⟨c, hc, hm.keep hb⟩, row_just (b := W.heap.size) f.fnd (Just.of_below hb) fun k hk => by have := (f.fnd.lt k hk).2; omega, row_just (b := W.heap.size) f.rst (Just.of_below hb) fun k hk => by have := (f.rst.lt k hk).2; omega, f.stk, f.sv, f.bel.trans (hb.mono f.bel.size), f.bl⟩
theorem RS.put {G : List Int} (f : RS b V F R Ls K w W) (hg : W.grownBy W' (some b)) (hs : ∃ c, c ≤ G.length ∧ MapV W' b c (boolsF G)) : RM b V F G R Ls K w W' := by
  have h2 := f.bl
  have j := just_of_grown hg
  obtain ⟨c, hc, hm⟩ := f.set
  exact ⟨hs, row_just f.fnd j (row_no_map f.fnd hm), row_just f.rst j (row_no_map f.rst hm), f.stk, f.sv, f.bel.grown hg f.bel.size (fun k hk => by simp at hk; omega), f.bl⟩
theorem map_off {c : Nat} {S : Int → Option Value} {n : Nat} {T : TypeId} {xs : List Value} (hm : MapV W b c S) (ho : W.ownsRow w.heap.size T 1 V n xs) (hg : W.grownBy W' V.ownBlock) : MapV W' b c S :=
  hm.kept (hg.block b hm.blk (fun e => row_no_map ho hm b e.symm rfl))
theorem RM.found {G : List Int} (f : RM b V F G R Ls K w W) (hg : W.grownBy W' V.ownBlock) (ho : W'.ownsRow w.heap.size 3 1 V' G.length (G.map (Value.int .i64))) : RS b V' G R Ls K w W' := by
  obtain ⟨c, hc, hm⟩ := f.set
  refine ⟨⟨c, hc, map_off hm f.fnd hg⟩, ho, ?_, f.stk, f.sv, f.bel.grown hg f.bel.size (fun k hk => (f.fnd.lt k hk).1), f.bl⟩
  cases hv : V.ownBlock with
  | none =>
    have j : Just W.heap.size W W' := ⟨hg.os, hg.tape, hg.output, hg.size, fun k hk _ => hg.block k hk (by rw [hv]; simp)⟩
    exact row_just f.rst j fun k hk => by have := (f.rst.lt k hk).2; omega
  | some k0 =>
    rw [hv] at hg
    exact row_just f.rst (just_of_grown hg) fun k hk => Ne.symm (row_not_row f.fnd f.rst (by decide) k0 hv k hk)
theorem RS.rest (f : RS b V F R Ls K w W) (k0 : Nat) (hv : R.ownBlock = some k0) (hg : W.grownBy W' (some k0)) (ho : W'.ownsRow w.heap.size 22 1 R' Ls'.length Ls') (hst : Ls'.length = K'.length) (hsv : ∀ (i : Nat) (U : Value) (Q : List P2), Ls'[i]? = some U → K'[i]? = some Q → SV w U Q) : RS b V F R' Ls' K' w W' := by
  obtain ⟨c, hc, hm⟩ := f.set
  have hk0 := f.rst.lt k0 hv
  refine ⟨⟨c, hc, map_off (V := R) hm f.rst (by rw [hv]; exact hg)⟩, row_just f.fnd (just_of_grown hg) fun k hk => row_not_row f.fnd f.rst (by decide) k hk k0 hv, ho, hst, hsv, f.bel.grown hg f.bel.size (fun k hk => by simp at hk; omega), f.bl⟩
theorem RS.cut {m g cap : Nat} (f : RS b V F (.slice (some ⟨g, 0, none⟩) m cap) Ls K w W) (hL : Ls.length = m) (k : Nat) (hk : k ≤ m) : RS b V F (.slice (some ⟨g, 0, none⟩) k cap) (Ls.take k) (K.take k) w W := by
  have h := f.rst
  rw [hL] at h
  have hkl := f.stk
  refine ⟨f.set, f.fnd, ?_, by rw [List.length_take, List.length_take, hkl], fun i U Q hU hQ => ?_, f.bel, f.bl⟩
  · have := own_cut h k hk
    rw [show (Ls.take k).length = k by rw [List.length_take]; omega]
    exact this
  · rw [List.getElem?_take] at hU hQ
    split at hU
    · rename_i hi
      rw [if_pos hi] at hQ
      exact f.sv i U Q hU hQ
    · cases hU
end

theorem sort_own2 (B : Nat) (V : Value) (zs : List Int) (w : World) (h : w.ownsRow B 3 1 V zs.length (zs.map (Value.int .i64))) (hl : zs.length < 4611686018427387904) :
    ∃ A n c, V = .slice A n c ∧ Calls Try.prog 54 #[.slice A n c] w fun e w' => e = .returned (.tuple #[]) ∧ w'.ownsRow B 3 1 (.slice A n c) zs.length ((zs.mergeSort fun x y => decide (x ≤ y)).map (Value.int .i64)) ∧ (∀ B0 w0, B0 ≤ B → Below B0 w0 w → B0 ≤ w.heap.size → Below B0 w0 w') := by
  rcases h.2 with ⟨h0, h1⟩ | ⟨g', cap', cur, e, hb, hg, h1, h2, h3, h4⟩
  · subst h0
    obtain rfl : zs = [] := List.eq_nil_of_length_eq_zero h1
    refine ⟨none, 0, 0, rfl, (Try.slices_Sort_int_none none 0 w).mono ?_⟩
    rintro e w' ⟨rfl, rfl⟩
    refine ⟨rfl, ?_, fun _ _ _ hb _ => hb⟩
    simpa using h
  · subst e
    refine ⟨_, _, _, rfl, (sort_own g' cap' B zs w h hl).mono ?_⟩
    rintro e w' ⟨rfl, h5, h6⟩
    exact ⟨rfl, h5, fun B0 w0 hB hbl hs => hbl.grown h6 hs (fun k hk => by cases hk; omega)⟩
theorem sv_set {w : World} {Ls : List Value} {K0 : List (List P2)} {Q B : List P2} {V' : Value} (h : ∀ (i : Nat) (U : Value) (Q' : List P2), Ls[i]? = some U → (K0 ++ [Q])[i]? = some Q' → SV w U Q') (hl : Ls.length = K0.length + 1) (hv : SV w V' B) : ∀ (i : Nat) (U : Value) (Q' : List P2), (Ls.set K0.length V')[i]? = some U → (K0 ++ [B])[i]? = some Q' → SV w U Q' := by
  intro i U Q' hU hQ
  rw [List.getElem?_set] at hU
  split at hU
  · rename_i hi
    subst hi
    rw [if_pos (by omega)] at hU
    obtain rfl := Option.some.inj hU
    rw [List.getElem?_append_right (Nat.le_refl _)] at hQ
    simp at hQ
    subst hQ
    exact hv
  · rename_i hi
    have hil := (List.getElem?_eq_some_iff.1 hU).1
    have hlt : i < K0.length := by omega
    rw [List.getElem?_append_left hlt] at hQ
    exact h i U Q' hU (by rw [List.getElem?_append_left hlt]; exact hQ)
theorem sv_app {w : World} {Ls : List Value} {K : List (List P2)} {B : List P2} {V : Value} (h : ∀ (i : Nat) (U : Value) (Q' : List P2), Ls[i]? = some U → K[i]? = some Q' → SV w U Q') (hl : Ls.length = K.length) (hv : SV w V B) : ∀ (i : Nat) (U : Value) (Q' : List P2), (Ls ++ [V])[i]? = some U → (K ++ [B])[i]? = some Q' → SV w U Q' := by
  intro i U Q' hU hQ
  rcases Nat.lt_or_ge i K.length with hi | hi
  · rw [List.getElem?_append_left (by omega)] at hU
    rw [List.getElem?_append_left hi] at hQ
    exact h i U Q' hU hQ
  · rw [List.getElem?_append_right (by omega)] at hU
    rw [List.getElem?_append_right hi, ← hl] at hQ
    match hj : i - Ls.length with
    | 0 =>
      rw [hj] at hU hQ
      obtain rfl := Option.some.inj hU
      obtain rfl := Option.some.inj hQ
      exact hv
    | j + 1 => rw [hj] at hU; simp at hU
def slLen : Value → Nat
  | .slice _ n _ => n
  | _ => 0
def RcPost (C : List P2) (v0 : Int) (w : World) (e : Ending) (w' : World) : Prop := ∃ V F, e = .returned V ∧ Rch C v0 F ∧ w'.ownsRow w.heap.size 3 1 V F.length (F.map (Value.int .i64)) ∧ Below w.heap.size w w'
def RcRel (C : List P2) (v0 : Int) (b : Nat) (w : World) (v r : Value) (W : World) : Prop :=
  ∃ F A n c A' m c' Ls K, v = .slice A n c ∧ r = .slice A' m c' ∧ F.length = n ∧ K.length = m ∧ m ≤ n + 1 ∧ (∀ R ∈ K, R.length ≤ 1000) ∧ DF C v0 F K ∧ RS b (.slice A n c) F (.slice A' m c') Ls K w W
def RiRel (Q : List P2) (F : List Int) (W0 : World) (i : Value) (W : World) : Prop :=
  ∃ k : Nat, k ≤ Q.length ∧ i = .int .i64 (k : Int) ∧ (∀ q ∈ Q.take k, q.t ∈ F) ∧ Below W0.heap.size W0 W
theorem own_len {w : World} {B n m c : Nat} {T : TypeId} {A : Option Addr} {xs : List Value} (h : w.ownsRow B T 1 (.slice A n c) m xs) : n = m := by
  rcases h.2 with ⟨h0, h1⟩ | ⟨g, c', cur, h0, _⟩
  · injection h0 with h2 h3 h4; omega
  · injection h0
set_option maxRecDepth 8000 in
set_option maxHeartbeats 6400000 in
theorem reach_any (A : Option Addr) (n cap : Nat) (C : List P2) (v0 : Int) (w : World) (hr : PAt w A C) (hn : C.length = n) (hl : n ≤ 1000) (hc : n ≤ cap) (hnil : A = none → cap = 0) (hz : ∀ y, A = some y → ∃ g, y = ⟨g, 0, none⟩) (hC : C.Pairwise Lt) (hw : ∀ x ∈ C, Wide x) :
    Calls Try.prog 34 #[.slice A n cap, .int .i64 v0] w (RcPost C v0 w) := by
  obtain ⟨i1, hi1, hy0, hy1, hy2⟩ := info_parts infoInt
  obtain ⟨i2, hi2, hx0, hx1, hx2⟩ := info_parts infoRows
  have hmm := @run_makeMap Try.prog
  have HN : Hid (C.length = n ∧ n ≤ 1000) := ⟨hn, hl⟩
  have HLL : Hid (∀ v, (lea C v).length ≤ 1000) := fun v => Nat.le_trans (List.length_filter_le _ _) (by omega)
  have HLE : Hid (∀ R ∈ [lea C v0], R.length ≤ 1000) := fun R hR => by obtain rfl := List.mem_singleton.1 hR; exact HLL.out v0
  have HC := Lib.hid hC
  have HW := Lib.hid hw
  have HLV : Hid (∀ (v : Int) W, Below w.heap.size w W → Calls Try.prog 35 #[.slice A n cap, .int .i64 v] W (LvPost A C v W)) := fun v W b => leaving_any A n cap C v W (hr.kept b) hn (by omega) hc hnil hz hC
  have HSVW : Hid (∀ (v : Int) W U, Below w.heap.size w W → SV W U (lea C v) → True) := fun _ _ _ _ _ => trivial
  have HB0 : Hid (Below w.heap.size w (w.alloc (.map #[] 0))) := (Below.refl _ _).alloc (Nat.le_refl _) _
  have HS0 : Hid (MapV (w.alloc (.map #[] 0)) w.heap.size 0 (boolsF [])) := by
    have h := map_made w
    have e : (fun _ : Int => (none : Option Value)) = boolsF [] := by funext v; simp [boolsF]
    rw [e] at h
    exact h
  have HR := Lib.hid hr
  have hzb : ∀ w : World, (zeroValue 4).run Try.prog w = .ok (.bool false) w := fun w => by go_simp
  have HZB := Lib.hid hzb
  unfold RcPost
  clear hr hn hl hc hnil hz hC hw HSVW hzb
  go_enter Try.func34, Try.ntmps34
  go_wp2
  go_step3
  go_wp2_with fail
  refine (HLV.out v0 _ HB0.out).mono ?_
  rintro e w1 ⟨U0, rfl, hsv0, hb1⟩
  have hU := hsv0 w HR.out
  obtain ⟨A0, c0, rfl, hU2⟩ := hU
  have HU0 := Lib.hid (hsv0 w HR.out)
  obtain ⟨q0, hq0⟩ : ∃ q0, (lea C v0).length = q0 := ⟨_, rfl⟩
  rw [hq0] at HU0
  rw [hq0]
  have hb2 : Below w.heap.size w (w1.alloc (.cells #[.slice A0 q0 c0] 22)) := (HB0.out.trans (hb1.mono HB0.out.size)).alloc (HB0.out.trans (hb1.mono HB0.out.size)).size _
  have hf0 : RS w.heap.size (.slice none 0 0) [] (.slice (some ⟨w1.heap.size, 0, none⟩) 1 1) [.slice A0 q0 c0] [lea C v0] w (w1.alloc (.cells #[.slice A0 q0 c0] 22)) :=
    ⟨⟨0, Nat.le_refl _, (HS0.out.keep hb1).keep ((Below.refl _ _).alloc (Nat.le_refl _) _)⟩, World.ownsRow_nil _ _ _ _, World.ownsRow_lit w1 #[.slice A0 q0 c0] 1 (HB0.out.trans (hb1.mono HB0.out.size)).size (by decide) rfl, rfl, fun i U Q h1 h2 => by
      match i, h1, h2 with
      | 0, h1, h2 =>
        obtain rfl := Option.some.inj h1
        obtain rfl := Option.some.inj h2
        exact HU0.out
      | i + 1, h1, h2 => simp at h1, hb2, Nat.le_refl _⟩
  have HF0 := Lib.hid hf0
  clear hf0 hb1 hb2 hsv0 hU2 hq0 HU0 HS0
  go_wp2
  try go_step3
  try go_wp2
  go_loopw [5, 7] (fun v r W => RcRel C v0 w.heap.size w v r W) (fun v r _ => 2 * (n - slLen v) + slLen r)
  case atStart => exact ⟨[], none, 0, 0, _, 1, 1, _, _, rfl, rfl, rfl, rfl, Nat.le_refl _, HLE.out, DF.start C v0, HF0.out⟩
  case round =>
    rename World => W
    clear HF0 HB0
    obtain ⟨F, AF, nF, cF, AR, m, cR, Ls, K, rfl, rfl, hFl, hKl, hmn, hkb, hdf, hrs⟩ := hrel
    have HKB := Lib.hid hkb
    have HDF := Lib.hid hdf
    have HRS := Lib.hid hrs
    have HFL := Lib.hid hFl
    clear hdf hrs hFl hkb
    rcases List.eq_nil_or_concat K with rfl | ⟨K0, Q, hKe⟩
    · obtain rfl : 0 = m := hKl
      have HDN := Lib.hid HDF.out.rch
      obtain ⟨Az, nz, cz, ez, hso⟩ := sort_own2 w.heap.size _ F W HRS.out.fnd (by have h1 := HDF.out.len; have h2 := HN.out; omega)
      injection ez with e1 e2 e3
      subst e1 e2 e3
      have HSO := Lib.hid hso
      clear hso hmm
      go_wp2_with fail
      refine HSO.out.mono ?_
      rintro e w2 ⟨rfl, ho2, hb2⟩
      have HO2 := Lib.hid ho2
      have HB2 := Lib.hid (hb2 w.heap.size w (Nat.le_refl _) HRS.out.bel HRS.out.bel.size)
      clear ho2 hb2
      go_wp2
      rw [Exit.noGoto_ret]
      go_ret
      exact ⟨_, _, rfl, HDN.out, by rw [List.length_mergeSort]; exact HO2.out, HB2.out⟩
    · rw [List.concat_eq_append] at hKe
      subst hKe
      rw [List.length_append, List.length_singleton] at hKl
      obtain ⟨m0, hm0⟩ : ∃ m0, K0.length = m0 := ⟨_, rfl⟩
      rw [hm0] at hKl
      subst hKl
      have HM0 := Lib.hid hm0
      have hLl : Ls.length = m0 + 1 := by rw [HRS.out.stk, List.length_append, hm0]; rfl
      obtain ⟨r, cap', eR, hR1, hR2, hR3⟩ := own_some HRS.out.rst (by omega)
      rw [hLl] at eR
      injection eR with e1 e2 e3
      subst e1 e3
      obtain ⟨U, hUl⟩ : ∃ U, Ls[m0]? = some U := ⟨_, List.getElem?_eq_getElem (by omega)⟩
      have hsv := HRS.out.sv m0 U Q hUl (by rw [List.getElem?_append_right (by omega), hm0]; simp)
      obtain ⟨AU, cU, rfl, hU1, hU2, hU3, hU4⟩ := hsv
      obtain ⟨q, hq⟩ : ∃ q, Q.length = q := ⟨_, rfl⟩
      rw [hq] at hU1 hUl
      have HQL := Lib.hid hq
      have HQB : Hid (q ≤ 1000) := by have h := HKB.out Q (by simp); show _ ≤ _; omega
      have HKB0 : Hid (∀ R ∈ K0, R.length ≤ 1000) := fun R hR => HKB.out R (by simp [hR])
      have HU : Hid (Ls[m0]? = some (.slice AU q cU) ∧ q ≤ cU ∧ (AU = none → cU = 0) ∧ (∀ y, AU = some y → ∃ g o, y = ⟨g, o, none⟩) ∧ SAt w AU Q) := ⟨hUl, hU1, hU2, hU3, hU4⟩
      have s0 : W.cell? ⟨r, m0, none⟩ = some (.slice AU q cU) := by
        have h := HRS.out.rst
        rw [hLl] at h
        rw [h.cellAt m0 (by omega)]; exact hUl
      have w0 : IntKind.i64.wrap (((m0 : Int) + 1) - 1) = (m0 : Int) := by rw [show ((m0 : Int) + 1) - 1 = (m0 : Int) by omega]; exact IntWalk.i64_in _ (by have h1 := hR1; have h2 := hR2; unfold maxLen at h2; omega)
      have w0' : IntKind.i64.wrap (((m0 + 1 : Nat) : Int) - 1) = (m0 : Int) := by rw [show ((m0 + 1 : Nat) : Int) - 1 = (m0 : Int) by omega]; exact IntWalk.i64_in _ (by have h1 := hR1; have h2 := hR2; unfold maxLen at h2; omega)
      have w0'' : IntKind.i64.wrap (m0 : Int) = (m0 : Int) := IntWalk.i64_in _ (by have h1 := hR1; have h2 := hR2; unfold maxLen at h2; omega)
      have t0 : decide ((0 : Int) < ((m0 + 1 : Nat) : Int)) = true := decide_eq_true (by omega)
      have t0' : decide ((0 : Int) < (m0 : Int) + 1) = true := decide_eq_true (by omega)
      have b0 : (0 : Int) ≤ m0 := by omega
      have b1 : (m0 : Int) < ((m0 + 1 : Nat) : Int) := by omega
      have b1' : (m0 : Int) < (m0 : Int) + 1 := by omega
      have HCR : Hid (m0 + 1 ≤ cR ∧ cR ≤ maxLen ∧ Ls.length = m0 + 1 ∧ m0 + 1 ≤ nF + 1 ∧ nF ≤ n ∧ n ≤ 1000) := by
        have h1 := HDF.out.len
        have h2 := HN.out
        have h3 := HFL.out
        exact ⟨by omega, hR2, hLl, hmn, by omega, h2.2⟩
      have HI0 : Hid (∀ x : Nat, x = 0 → RiRel Q F W (.int .i64 (x : Int)) W) := fun x hx => ⟨x, by omega, rfl, fun z hz => by rw [hx] at hz; simp at hz, Below.refl _ _⟩
      have HRT : Hid (some r = (Value.slice (some ⟨r, 0, none⟩) (m0 + 1) cR).ownBlock) := rfl
      clear hUl hU1 hU2 hU3 hU4 hm0 hLl hR1 hR2 hR3 hq hmn
      go_wp2_with fail
      clear s0 w0 w0' w0'' t0 t0' b0 b1 b1'
      go_loopw [5, 7, 27] (fun v r' i W2 => v = .slice AF nF cF ∧ r' = .slice (some ⟨r, 0, none⟩) (m0 + 1) cR ∧ RiRel Q F W i W2) (fun _ _ i _ => (q + 1) - (intOf i).toNat)
      case atStart => exact ⟨rfl, rfl, HI0.out 0 rfl⟩
      case round =>
        rename World => W2
        clear HI0
        obtain ⟨rfl, rfl, k, hk, rfl, hF, hbw⟩ := hrel
        have HF := Lib.hid hF
        have HRS2 := Lib.hid (HRS.out.keep hbw)
        have HKQ : Hid (k ≤ q) := by have := HQL.out; show _ ≤ _; omega
        clear hk hF
        have hcr := HCR.out
        by_cases hlt : k < q
        · have t1 : decide ((k : Int) < (q : Int)) = true := decide_eq_true (by omega)
          have t1n : decide (k < q) = true := decide_eq_true hlt
          obtain ⟨x, hx⟩ : ∃ x, Q[k]? = some x := ⟨_, List.getElem?_eq_getElem (by have := HQL.out; omega)⟩
          obtain ⟨gx, ox, hAU, c0, c1⟩ := (HU.out.2.2.2.2.kept HRS2.out.bel) k x hx
          subst hAU
          have b2 : (0 : Int) ≤ k := by omega
          have b3 : (k : Int) < q := by omega
          have wk : IntKind.i64.wrap ((k : Int) + 1) = ((k + 1 : Nat) : Int) := by rw [Int.natCast_add]; exact IntWalk.i64_in _ (by have := HQB.out; omega)
          have HX := Lib.hid hx
          have hxw := HW.out x ((HDF.out.sub Q (by simp) x (List.mem_of_getElem? hx)).1)
          have HXW := Lib.hid hxw
          have HBA : Hid (∀ W9 : World, Below W9.heap.size W9 (W9.alloc (.cells #[.int .i64 x.f, .int .i64 x.t] 24))) := fun W9 => (Below.refl _ _).alloc (Nat.le_refl _) _
          have HRS3 := Lib.hid (HRS2.out.keep (HBA.out W2))
          have HP3 := Lib.hid (heap_alloc_new W2 (.cells #[.int .i64 x.f, .int .i64 x.t] 24))
          obtain ⟨cm, hcm, hmap⟩ := HRS3.out.set
          have hlook := hmap.look Try.underlying51 (HZB.out _) x.t hxw.2
          by_cases hin : x.t ∈ F
          · have hl2 : (boolsF F x.t).getD (.bool false) = .bool true := by unfold boolsF; rw [if_pos hin]; rfl
            rw [hl2] at hlook
            have HLK := Lib.hid hlook
            have HNX : Hid (RiRel Q F W (.int .i64 ((k + 1 : Nat) : Int)) (W2.alloc (.cells #[.int .i64 x.f, .int .i64 x.t] 24))) := ⟨k + 1, by have := HQL.out; omega, rfl, fun z hz => by
              rw [List.take_add_one, HX.out] at hz
              rcases List.mem_append.1 hz with hz | hz
              · exact HF.out z hz
              · obtain rfl : z = x := by simpa using hz
                exact hin, hbw.trans ((HBA.out W2).mono hbw.size)⟩
            clear hlook hl2 hmap hcm hxw hx hin hbw hlt hcr
            go_wp2_with (first | (at_lookup; refine wpList_look _ rfl _ _ 51 false rfl _ _ _ rfl rfl HLK.out ?_) | fail)
            go_roundw
            case rel => exact ⟨rfl, rfl, HNX.out⟩
            case measure => simp [intOf]; omega
          · have hl2 : (boolsF F x.t).getD (.bool false) = .bool false := by unfold boolsF; rw [if_neg hin]; rfl
            rw [hl2] at hlook
            have HLK := Lib.hid hlook
            have hFl := HFL.out
            obtain ⟨w4, hr4, hm4, hg4⟩ := hmap.put Try.underlying51 x.t hxw.2 (.bool true) (by omega)
            rw [bools_snoc] at hm4
            have HRM4 := Lib.hid (HRS3.out.put (G := F ++ [x.t]) hg4 ⟨_, by rw [List.length_append]; split <;> simp <;> omega, hm4⟩)
            have hbk : w.heap.size < W2.heap.size := by obtain ⟨_, _, hh⟩ := HRS2.out.set; exact hh.blk
            have HP4 := Lib.hid ((hg4.block W2.heap.size (by simp) (fun e => by have := Option.some.inj e; omega)).trans HP3.out)
            have HRM5 := Lib.hid (HRM4.out.keep ((Below.refl _ _).alloc (Nat.le_refl _) (.cells #[.int .i64 x.t] 3)))
            have hown5 := HRM5.out.fnd
            rw [hFl] at hown5
            have HOWN5 := Lib.hid hown5
            have HR4 := Lib.hid hr4
            have e1 := cell_of_row w4 _ 1 _ _ _ HP4.out
            simp only [List.getElem?_toArray, List.getElem?_cons_zero, List.getElem?_cons_succ] at e1
            have hrlt := (HRS2.out.rst.lt r rfl).2
            have HAP : Hid (some W2.heap.size ≠ (Value.slice AF nF cF).ownBlock) := fun e => by
              obtain ⟨cur, hc⟩ := Prt.own_block HRM4.out.fnd e.symm
              rw [HP4.out] at hc
              simp only [Option.some.injEq, Obj.cells.injEq] at hc
              exact absurd hc.2.1 (by decide)
            have HIN := Lib.hid hin
            have HRL := Lib.hid hrlt
            have HWB := Lib.hid hbk
            have HKLT : Hid (k < q) := hlt
            clear hlook hl2 hmap hcm hxw hx hin hbw hlt hcr hr4 hm4 hg4 hown5 hFl hrlt hbk
            go_wp2_with (first
              | (at_lookup; refine wpList_look _ rfl _ _ 51 false rfl _ _ _ rfl rfl HLK.out ?_)
              | (at_mapUpdate; refine wpList_upd _ rfl _ _ _ 51 rfl _ _ _ rfl rfl rfl w4 HR4.out ?_)
              | (at_builtin; refine wpList_append_own _ rfl _ _ 29 rfl w.heap.size 3 i1 (.int .i64 0) 1 8 Try.underlying29 hi1 hy0 hy1 hy2 rfl (by decide) _ nF _ rfl HOWN5.out ⟨w4.heap.size, 0, none⟩ 1 1 [.int .i64 x.t] rfl rfl (cell_one_new _ _ _) ?c2 ?c3 ?c4 ?c5 ?_))
            case c2 => intro u hu; simp at hu; subst hu; rfl
            case c3 => have := HCR.out; unfold maxLen; omega
            case c4 => have := HCR.out; omega
            case c5 => exact HRM5.out.bel.size
            intro v' w5 ho5 hg5 _
            obtain ⟨gF, cF', rfl, _, _, _⟩ := own_some ho5 (by omega)
            have HRS5 := Lib.hid (HRM5.out.found (V' := .slice (some ⟨gF, 0, none⟩) (nF + 1) cF') hg5 (by simpa [HFL.out] using ho5))
            have hp5 : w5.heap[W2.heap.size]? = some (.cells #[.int .i64 x.f, .int .i64 x.t] 24 (0, 0)) := (hg5.block _ (by have := lt_of_block HP4.out; simp; omega) HAP.out).trans ((heap_alloc_old _ _ (lt_of_block HP4.out)).trans HP4.out)
            have HP5 := Lib.hid hp5
            clear ho5 hg5 e1 hp5
            have s5 : w5.cell? ⟨r, m0, none⟩ = some (.slice (some ⟨gx, ox, none⟩) q cU) := by
              have h := HRS5.out.rst
              rw [HCR.out.2.2.1] at h
              rw [h.cellAt m0 (by omega)]; exact HU.out.1
            have hrst5 := HRS5.out.rst
            rw [HCR.out.2.2.1] at hrst5
            have HRT5 := Lib.hid hrst5
            have z5 : w5.frozen? ⟨r, m0, none⟩ = false := hrst5.frozenAt m0
            clear hrst5
            have e5 := cell_of_row w5 _ 1 _ _ _ HP5.out
            simp only [List.getElem?_toArray, List.getElem?_cons_zero, List.getElem?_cons_succ] at e5
            have hnr : ¬ W2.heap.size = r := by have := HRL.out; omega
            have hnr2 : ¬ r = W2.heap.size := by omega
            obtain ⟨A', c', hsl, hq2, hq3, hq4, hq5⟩ := run_tail (some ⟨gx, ox, none⟩) q cU (k + 1) (by have := HKLT.out; omega) HU.out.2.1 HU.out.2.2.1 HU.out.2.2.2.1 ((k : Int) + 1) (by omega)
            have hsl2 : ∀ W : World, (Instr.slice 22 (.slice (some ⟨gx, ox, none⟩) q cU) (some (.int .i64 ((k + 1 : Nat) : Int))) none none).run Try.prog W = .ok (.slice A' (q - (k + 1)) c') W := fun W => by rw [Int.natCast_add]; exact hsl W
            obtain ⟨q', hqq⟩ : ∃ q', q - (k + 1) = q' := ⟨_, rfl⟩
            have HSV' : Hid (SV w (.slice A' q' c') (Q.drop (k + 1))) := by
              have hl : (Q.drop (k + 1)).length = q' := by rw [List.length_drop, HQL.out]; exact hqq
              exact ⟨A', c', by rw [hl], by rw [hl, ← hqq]; exact hq2, hq3, hq4, hq5 w Q HQL.out HU.out.2.2.2.2⟩
            rw [hqq] at hsl hsl2
            clear hq2 hq3 hq4 hq5 hqq
            have b0 : (0 : Int) ≤ m0 := by omega
            have b1 : (m0 : Int) < ((m0 + 1 : Nat) : Int) := by omega
            have b1' : (m0 : Int) < (m0 : Int) + 1 := by omega
            go_wp2_with fail
            have hst := HRT5.out.stored m0 (.slice A' q' c')
            have hrs6 := HRS5.out.rest (R' := .slice (some ⟨r, 0, none⟩) (m0 + 1) cR) (Ls' := Ls.set m0 (.slice A' q' c')) (K' := K0 ++ [Q.drop (k + 1)]) r rfl hst.2 (by rw [List.length_set, HCR.out.2.2.1]; exact hst.1) (by rw [List.length_set, HCR.out.2.2.1, List.length_append, HM0.out]; rfl) (by
              have h := sv_set HRS5.out.sv (by rw [HCR.out.2.2.1, HM0.out]) HSV'.out
              rw [HM0.out] at h
              exact h)
            have HRS6 := Lib.hid hrs6
            clear hst hrs6 s5 z5 e5 hnr hnr2 hsl hsl2
            refine (HLV.out x.t _ HRS6.out.bel).mono ?_
            rintro e w7 ⟨U2, rfl, hsv2, hb7⟩
            have hu2 := hsv2 w HR.out
            obtain ⟨A2, c2, rfl, hu3⟩ := hu2
            have HU2 := Lib.hid (hsv2 w HR.out)
            obtain ⟨n2, hn2⟩ : ∃ n2, (lea C x.t).length = n2 := ⟨_, rfl⟩
            rw [hn2] at HU2
            rw [hn2]
            have HRS7 := Lib.hid (HRS6.out.keep hb7)
            have HRS8 := Lib.hid (HRS7.out.keep ((Below.refl _ _).alloc (Nat.le_refl _) (.cells #[.slice A2 n2 c2] 22)))
            have hown8 := HRS8.out.rst
            rw [List.length_set, HCR.out.2.2.1] at hown8
            have HOWN8 := Lib.hid hown8
            clear hb7 hsv2 hu3 hn2 hown8
            go_wp2_with (at_builtin; refine wpList_append_own _ rfl _ _ 67 rfl w.heap.size 22 i2 (.slice none 0 0) 1 24 Try.underlying67 hi2 hx0 hx1 hx2 rfl (by decide) _ (m0 + 1) _ rfl HOWN8.out ⟨w7.heap.size, 0, none⟩ 1 1 [.slice A2 n2 c2] rfl rfl (cell_one_new _ _ _) ?d2 ?d3 ?d4 ?d5 ?_)
            case d2 => intro u hu; simp at hu; subst hu; rfl
            case d3 => have := HCR.out; unfold maxLen; omega
            case d4 => have := HCR.out; omega
            case d5 => exact HRS8.out.bel.size
            intro v9 w9 ho9 hg9 _
            obtain ⟨r9, c9, rfl, _, _, _⟩ := own_some ho9 (by omega)
            have hrs9 := HRS8.out.rest (R' := .slice (some ⟨r9, 0, none⟩) (m0 + 1 + 1) c9) (Ls' := Ls.set m0 (.slice A' q' c') ++ [.slice A2 n2 c2]) (K' := K0 ++ [Q.drop (k + 1)] ++ [lea C x.t]) r rfl hg9 (by simpa [HCR.out.2.2.1] using ho9) (by simp [HCR.out.2.2.1, HM0.out]) (by
              refine sv_app HRS8.out.sv HRS8.out.stk HU2.out)
            have hQe : Q.take k ++ x :: Q.drop (k + 1) = Q := by
              have h1 := (List.getElem?_eq_some_iff.1 HX.out)
              obtain ⟨h2, h3⟩ := h1
              rw [← h3, ← List.drop_eq_getElem_cons h2, List.take_append_drop]
            have hdf9 : DF C v0 (F ++ [x.t]) (K0 ++ [Q.drop (k + 1)] ++ [lea C x.t]) := DF.push (A := Q.take k) (by rw [hQe]; exact HDF.out) HF.out HIN.out
            have HNX : Hid (RcRel C v0 w.heap.size w (.slice (some ⟨gF, 0, none⟩) (nF + 1) cF') (.slice (some ⟨r9, 0, none⟩) (m0 + 1 + 1) c9) w9) :=
              ⟨F ++ [x.t], _, _, _, _, _, _, _, _, rfl, rfl, by rw [List.length_append, HFL.out]; rfl, by simp [HM0.out], by have := HCR.out; omega, fun R hR => by
                rcases List.mem_append.1 hR with hR | hR
                · rcases List.mem_append.1 hR with hR | hR
                  · exact HKB0.out R hR
                  · obtain rfl := List.mem_singleton.1 hR
                    rw [List.length_drop, HQL.out]; have := HQB.out; omega
                · obtain rfl := List.mem_singleton.1 hR
                  exact HLL.out _, hdf9, hrs9⟩
            have HF9 : Hid (nF + 1 ≤ n) := by
              have h1 := hdf9.len
              rw [List.length_append, HFL.out] at h1
              have h2 := HN.out
              show _ ≤ _
              simp at h1
              omega
            clear ho9 hg9 hrs9 hQe hdf9
            go_wp2
            go_roundw
            case rel => exact HNX.out
            case measure => have := HF9.out; simp [slLen]; omega
        · obtain rfl : k = q := by have := HKQ.out; omega
          have t1 : decide ((k : Int) < (k : Int)) = false := decide_eq_false (by omega)
          have t1n : decide (k < k) = false := decide_eq_false (by omega)
          have hq2 : Q.take k = Q := List.take_of_length_le (by rw [HQL.out]; exact Nat.le_refl _)
          have hdf2 : DF C v0 F K0 := HDF.out.pop (by have h := HF.out; rw [hq2] at h; exact h)
          have hrs2 := HRS2.out.cut HCR.out.2.2.1 m0 (by omega)
          rw [List.take_left' HM0.out] at hrs2
          have HNX : Hid (RcRel C v0 w.heap.size w (.slice AF nF cF) (.slice (some ⟨r, 0, none⟩) m0 cR) W2) := ⟨F, AF, nF, cF, _, m0, cR, _, K0, rfl, rfl, HFL.out, HM0.out, by omega, HKB0.out, hdf2, hrs2⟩
          have b4 : (0 : Int) ≤ (m0 : Int) := by omega
          have b5 : (m0 : Int) ≤ cR := by omega
          clear hq2 hdf2 hrs2 hbw hlt hcr
          go_wp2
          go_roundw
          case rel => exact HNX.out
          case measure => simp [slLen]
end Go.Proofs.Ytnngldkpkhabeaa.Pai
