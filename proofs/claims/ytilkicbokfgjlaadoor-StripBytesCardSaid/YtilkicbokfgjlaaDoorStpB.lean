
/- A strip in memory: Add. Condition: none. -/

import Derived.Test.YtilkicbokfgjlaaDoorStpA

namespace Go.Proofs.YtilkicbokfgjlaaDoor.Stp

open Go.RowKit Go.PlainAid Go.Proofs.YtilkicbokfgjlaaDoor.Cel

set_option linter.unusedVariables false

set_option linter.unusedSimpArgs false

theorem row_ne {w : World} {B g n c : Nat} {A : Option Addr} {xs : List Value} {cs : Array Value} (hb : w.heap[g]? = some (.cells cs 80 (0, 0))) (h : w.ownsRow B 78 2 (.slice A n c) n xs) : ∀ a, A = some a → a.block ≠ g := by
  intro a ha e
  rcases h.2 with ⟨h0, _⟩ | ⟨q, c', cur, h0, _, h5, _⟩
  · injection h0 with h4; subst ha; cases h4
  · injection h0 with h4
    subst ha
    obtain rfl := Option.some.inj h4
    dsimp only at e
    rw [e, hb] at h5
    simp only [Option.some.injEq, Obj.cells.injEq] at h5
    exact absurd h5.2.1 (by decide)
theorem row_type {w : World} {B n c : Nat} {A : Option Addr} {xs : List Value} (h : w.ownsRow B 78 2 (.slice A n c) n xs) : ∀ a, A = some a → ∃ cs, w.heap[a.block]? = some (.cells cs 78 (0, 0)) := by
  intro a ha
  rcases h.2 with ⟨h0, _⟩ | ⟨q, c', cur, h0, _, h5, _⟩
  · injection h0 with h4; subst ha; cases h4
  · injection h0 with h4
    subst ha
    obtain rfl := Option.some.inj h4
    exact ⟨_, h5⟩
theorem chg_two {w w' : World} {B g c : Nat} {A : Option Addr} {X : List RW} (h : IsS w B g A c X) (t : Two g A w w') : Chg B w w' := by
  refine ⟨t.os, t.tape, t.output, t.size, fun k hk hs => t.block k hs (by have := h.low; omega) (fun a ha => by have := (h.apart a ha).2.2.1; omega), fun k hk ht => t.block k hk (fun e => ?_) (fun a ha e => ?_)⟩
  · subst e; exact (ht _ _ _ h.box).1 rfl
  · subst e
    obtain ⟨cs, hc⟩ := row_type h.own a ha
    exact (ht _ _ _ hc).2 rfl
theorem two_grown {w w' : World} {g n c : Nat} {A : Option Addr} (h : w.grownBy w' (Value.slice A n c).ownBlock) : Two g A w w' :=
  ⟨h.os, h.tape, h.output, h.size, fun k hk hg ha => h.block k hk fun e => by
    cases A with
    | none => cases e
    | some a => simp only [Value.ownBlock] at e; exact ha a rfl (Option.some.inj e).symm⟩
/-- Behind an append that is stored. -/
theorem app_post {W w' : World} {B g c c' : Nat} {A A' : Option Addr} {X X' : List RW} (h : IsS W B g A c X) (hg : W.grownBy w' (Value.slice A X.length c).ownBlock) (ho : w'.ownsRow B 78 2 (.slice A' X'.length c') X'.length (flatR (runsF 0 X'))) :
    IsS (w'.setCell ⟨g, 0, none⟩ (.slice A' X'.length c')) B g A' c' X' ∧ Chg B W (w'.setCell ⟨g, 0, none⟩ (.slice A' X'.length c')) ∧ w'.heap[g]? = some (.cells #[.slice A X.length c] 80 (0, 0)) := by
  have t1 : Two g A W w' := two_grown hg
  have t2 : Two g A w' (w'.setCell ⟨g, 0, none⟩ (.slice A' X'.length c')) := two_cell _ _ _ (.inl rfl)
  have t3 : Two g none w' (w'.setCell ⟨g, 0, none⟩ (.slice A' X'.length c')) := two_cell _ _ _ (.inl rfl)
  have hbox : w'.heap[g]? = some (.cells #[.slice A X.length c] 80 (0, 0)) := (hg.block g h.lt (fun e => by
    cases A with
    | none => cases e
    | some a => simp only [Value.ownBlock] at e; exact (h.apart a rfl).1 (Option.some.inj e).symm)).trans h.box
  refine ⟨⟨?_, own_apart ho t3 (row_ne hbox ho) (fun a b _ e => by cases e), h.low, by have := h.gsz; have := hg.size; have := t2.size; omega⟩, chg_two h (t1.trans t2), hbox⟩
  rw [setCell_eq_setRow w' g 0 _ _ _ _ hbox, setRow_heap _ _ _ _ _ _ hbox]
  rfl
theorem set_last (Y : List RW) (y : RW) (n : Int) : (flatR (runsF 0 (Y ++ [y]))).set (Y.length * 2 + 1) (.int .i64 (sumR Y + y.c + n)) = flatR (runsF 0 (Y ++ [⟨y.i, y.c + n⟩])) := by
  rw [runsF_snoc, runsF_snoc, flatR_snoc, flatR_snoc, List.set_append_right _ _ (by rw [flatR_len, runsF_len]; omega), flatR_len, runsF_len, Nat.add_sub_cancel_left]
  dsimp only
  rw [show (0 : Int) + sumR Y + (y.c + n) = sumR Y + y.c + n by omega]
  rfl
theorem step_append_ownR {P : Program} {ops : Array Oper} {o : Oper} {a : Act} {w : World} {K : Act → World → Prop} {Q : Exit → Act → World → Prop} {E : Prop}
    (hg : o.guard = none) (s x : Operand) (t : TypeId) (ho : o.op = .call { callee := .builtin .append, args := #[s, x], argTypes := #[t, t] })
    (base : Nat) (e : TypeId) (i : TypeInfo) (z : Value) (size bytes : Nat) (ht : P.underlying t = some (.slice e)) (hi : P.info? e = some i) (hz : i.zero = some z)
    (hsize : i.size = size) (hby : i.bytes = bytes) (hzs : z.cells.size = size) (hsz : 0 < size)
    (v : Value) (n : Nat) (xs : List Value) (hs : a.eval s = v) (hown : w.ownsRow base e size v n xs)
    (ad : Addr) (m c : Nat) (news : List Value) (hx : a.eval x = .slice (some ad) m c) (hl : news.length = m * size) (hnews : ∀ j u, news[j]? = some u → w.cell? (ad.add j) = some u) (h1 : ∀ u ∈ news, u.oneCell' = true)
    (h63 : n + m ≤ maxLen) (hbytes : (n + m) * bytes ≤ 140737488355328) (hbase : base ≤ w.heap.size)
    (hK : ∀ v' w', w'.ownsRow base e size v' (n + m) (xs ++ news) → w.grownBy w' v.ownBlock → K (a.put o.dst v') w') :
    if Region.wanted o (yielded ops a.tmps) = true then Oper.wp P o a w K Q else E := by
  have hw : Region.wanted o (yielded ops a.tmps) = true := by simp [Region.wanted, hg]
  rw [if_pos hw]
  exact wp_append_own w s x t ho base e i z size bytes ht hi hz hsize hby hzs hsz v n xs hs hown ad m c news hx hl hnews h1 h63 hbytes hbase fun v' w' h2 h3 _ => hK v' w' h2 h3
theorem new2W (w w2 : World) (T : TypeId) (a b : Int) (h : w2.heap = (w.alloc (.cells #[.int .i64 a, .int .i64 b] T)).heap) : ∀ j u, ([.int .i64 a, .int .i64 b] : List Value)[j]? = some u → w2.cell? ((Addr.mk w.heap.size 0 none).add j) = some u := by
  intro j q hj
  have hrow : w2.heap[w.heap.size]? = some (.cells #[.int .i64 a, .int .i64 b] T (0, 0)) := by rw [h]; exact heap_alloc_new w (.cells #[.int .i64 a, .int .i64 b] T)
  have e : (Addr.mk w.heap.size 0 none).add j = ⟨w.heap.size, j, none⟩ := by cases j <;> simp [Addr.add]
  rw [e, cell_of_row _ _ _ _ _ _ hrow, ← hj]; simp
theorem one2W (a b : Int) : ∀ u ∈ ([.int .i64 a, .int .i64 b] : List Value), u.oneCell' = true := by
  intro q hq; simp at hq; rcases hq with rfl | rfl <;> rfl
def AddPost (w : World) (B g : Nat) (X : List RW) (i n : Int) (e : Ending) (w' : World) : Prop := e = .returned (.bool (okX X n)) ∧ IsSt w' B g (addX X i n) ∧ Chg B w w'
section

variable {w : World} {B g : Nat} {A : Option Addr} {c : Nat} {X : List RW} {i n : Int}

set_option maxRecDepth 4000 in
set_option maxHeartbeats 800000 in
theorem add_low (h : IsS w B g A c X) (h0 : n < 0) : Calls Tryd.prog 18 #[.pointer (some ⟨g, 0, none⟩), .int .i64 i, .int .i64 n] w (AddPost w B g X i n) := by
  have hk : okX X n = false := by unfold okX; rw [decide_eq_false (by omega)]; rfl
  unfold AddPost
  rw [hk, add_no _ hk]
  have HS : Hid (IsSt w B g X) := ⟨A, c, h⟩
  have t0 : decide (n < 0) = true := decide_eq_true h0
  clear h hk h0
  go_enter Tryd.func18, Tryd.ntmps18
  go_wp2
  go_ret
  exact ⟨rfl, HS.out, Chg.refl _ _⟩
set_option maxRecDepth 4000 in
set_option maxHeartbeats 800000 in
theorem add_many (h : IsS w B g A c X) (ho : OkX X) (h0 : 0 ≤ n) (h1 : 1073741824 - sumR X < n) : Calls Tryd.prog 18 #[.pointer (some ⟨g, 0, none⟩), .int .i64 i, .int .i64 n] w (AddPost w B g X i n) := by
  have hk : okX X n = false := by unfold okX; rw [decide_eq_false (show ¬ n ≤ 1073741824 - sumR X by omega)]; simp
  unfold AddPost
  rw [hk, add_no _ hk]
  have HS : Hid (IsSt w B g X) := ⟨A, c, h⟩
  have t0 : decide (n < 0) = false := decide_eq_false (by omega)
  have HL := Lib.hid (len_any w B g A c X h ho)
  have s0 := ho.sum0
  have s1 := ho.sum
  have hw : IntKind.i64.wrap (1073741824 - sumR X) = 1073741824 - sumR X := IntWalk.i64_in _ (by omega)
  have t1 : decide (1073741824 - sumR X < n) = true := decide_eq_true h1
  obtain ⟨v, hv⟩ : ∃ v, sumR X = v := ⟨_, rfl⟩
  rw [hv] at HL hw t1
  clear h hk h0 h1 ho hv s0 s1
  go_enter Tryd.func18, Tryd.ntmps18
  go_wp2_with (go_at_call 30; refine HL.out.mono ?_; rintro e w1 ⟨rfl, k, rfl⟩)
  go_ret
  exact ⟨rfl, HS.out.keep (below_n _ _), Chg.of (below_n _ _)⟩
set_option maxRecDepth 4000 in
set_option maxHeartbeats 800000 in
theorem add_zero (h : IsS w B g A c X) (ho : OkX X) : Calls Tryd.prog 18 #[.pointer (some ⟨g, 0, none⟩), .int .i64 i, .int .i64 0] w (AddPost w B g X i 0) := by
  have s0 := ho.sum0
  have s1 := ho.sum
  have hk : okX X 0 = true := (okX_iff _ _).2 ⟨by omega, by omega⟩
  unfold AddPost
  rw [hk, add_yes _ hk, join_zero]
  have HS : Hid (IsSt w B g X) := ⟨A, c, h⟩
  have HC := Lib.hid (fun k => (h.keep (below_n w k)).cell)
  have HL := Lib.hid (len_any w B g A c X h ho)
  have hw : IntKind.i64.wrap (1073741824 - sumR X) = 1073741824 - sumR X := IntWalk.i64_in _ (by omega)
  have t1 : decide (1073741824 - sumR X < 0) = false := decide_eq_false (by omega)
  have hl := ho.len
  have hwl : IntKind.i64.wrap ((X.length : Int) - 1) = (X.length : Int) - 1 := IntWalk.i64_in _ (by omega)
  obtain ⟨v, hv⟩ : ∃ v, sumR X = v := ⟨_, rfl⟩
  rw [hv] at HL hw t1
  obtain ⟨N, hN⟩ : ∃ N, X.length = N := ⟨_, rfl⟩
  rw [hN] at HC hwl
  clear h hk ho hv s0 s1 hN hl
  go_enter Tryd.func18, Tryd.ntmps18
  go_wp2_with (go_at_call 30; refine HL.out.mono ?_; rintro e w1 ⟨rfl, k, rfl⟩; have hc0 := HC.out k; have HSk := Lib.hid (HS.out.keep (below_n w k)); have HCk : Hid (Chg B w (w.drewN k)) := Chg.of (below_n w k); obtain ⟨W, hW⟩ : ∃ W, w.drewN k = W := ⟨_, rfl⟩; rw [hW] at hc0 HSk HCk; rw [hW]; clear hW)
  go_ret
  exact ⟨rfl, HSk.out, HCk.out⟩
set_option maxRecDepth 4000 in
set_option maxHeartbeats 1600000 in
theorem add_same {Y : List RW} {y : RW} (h : IsS w B g A c (Y ++ [y])) (ho : OkX (Y ++ [y])) (h0 : 0 < n) (h1 : n ≤ 1073741824 - sumR (Y ++ [y])) (hy : y.i = i) : Calls Tryd.prog 18 #[.pointer (some ⟨g, 0, none⟩), .int .i64 i, .int .i64 n] w (AddPost w B g (Y ++ [y]) i n) := by
  have s0 := ho.sum0
  have s1 := ho.sum
  have hk : okX (Y ++ [y]) n = true := (okX_iff _ _).2 ⟨by omega, by omega⟩
  unfold AddPost
  rw [hk, add_yes _ hk, join_snoc _ _ _ _ (by omega), if_pos hy]
  have HS : Hid (∀ k, IsS (w.drewN k) B g A c (Y ++ [y])) := fun k => h.keep (below_n w k)
  have HL := Lib.hid (len_any w B g A c _ h ho)
  have hw : IntKind.i64.wrap (1073741824 - sumR (Y ++ [y])) = 1073741824 - sumR (Y ++ [y]) := IntWalk.i64_in _ (by omega)
  have t0 : decide (n < 0) = false := decide_eq_false (by omega)
  have t1 : decide (1073741824 - sumR (Y ++ [y]) < n) = false := decide_eq_false (by omega)
  have t2 : (n == 0) = false := by simp; omega
  have hl := ho.len
  have hwa : IntKind.i64.wrap (sumR Y + y.c + n) = sumR Y + y.c + n := IntWalk.i64_in _ (by rw [sumR_snoc] at h1 s0; omega)
  have hkk : (runsF 0 (Y ++ [y]))[Y.length]? = some ⟨y.i, 0 + sumR Y + y.c⟩ := by rw [runsF_snoc, List.getElem?_append_right (by rw [runsF_len]; exact Nat.le_refl _), runsF_len]; simp
  obtain ⟨ax, rfl, -, -⟩ := h.rat _ _ hkk
  obtain ⟨-, hax, -, -⟩ := h.apart ax rfl
  obtain ⟨q, hq⟩ : ∃ q, ax.block = q := ⟨_, rfl⟩
  rw [hq] at hax
  subst hax
  have hc1 : ∀ k, (w.drewN k).cell? ⟨q, Y.length * 2, none⟩ = some (.int .i64 i) ∧ (w.drewN k).cell? ⟨q, Y.length * 2 + 1, none⟩ = some (.int .i64 (sumR Y + y.c)) ∧ (w.drewN k).frozen? ⟨q, Y.length * 2 + 1, none⟩ = false := fun k => by
    have hb := (HS.out k).own
    have hfl := fun j => flatR_get _ Y.length _ j hkk
    have hz : Y.length * 2 + 1 < (Y ++ [y]).length * 2 := by simp; omega
    refine ⟨(hb.cellAt _ (by omega)).trans ((hfl 0 (by omega)).trans (by rw [← hy]; rfl)), (hb.cellAt _ hz).trans ((hfl 1 (by omega)).trans ?_), hb.frozenAt _⟩
    show some (Value.int .i64 (0 + sumR Y + y.c)) = _
    rw [show 0 + sumR Y + y.c = sumR Y + y.c by omega]
  have HC1 := Lib.hid hc1
  have hcc : ∀ k, (w.drewN k).cell? ⟨g, 0, none⟩ = some (.slice (some ⟨q, 0, none⟩) (Y ++ [y]).length c) := fun k => (HS.out k).cell
  have HCC := Lib.hid hcc
  have hgq := (h.apart _ rfl).1
  dsimp only at hgq
  have HP : Hid (∀ k, IsS ((w.drewN k).setCell ⟨q, Y.length * 2 + 1, none⟩ (.int .i64 (sumR Y + y.c + n))) B g (some ⟨q, 0, none⟩) c (Y ++ [⟨y.i, y.c + n⟩]) ∧ Chg B w ((w.drewN k).setCell ⟨q, Y.length * 2 + 1, none⟩ (.int .i64 (sumR Y + y.c + n)))) := fun k => by
    have hs := HS.out k
    have hst := (hs.own.stored (Y.length * 2 + 1) (.int .i64 (sumR Y + y.c + n))).1
    have t : Two g (some ⟨q, 0, none⟩) (w.drewN k) ((w.drewN k).setCell ⟨q, Y.length * 2 + 1, none⟩ (.int .i64 (sumR Y + y.c + n))) := two_cell _ _ _ (.inr ⟨_, rfl, rfl⟩)
    have hle : (Y ++ [(⟨y.i, y.c + n⟩ : RW)]).length = (Y ++ [y]).length := by simp
    refine ⟨⟨?_, ?_, hs.low, Nat.le_trans hs.gsz t.size⟩, (Chg.of (below_n w k)).trans (chg_two hs t)⟩
    · rw [hle]; exact (heap_setCell_other _ ⟨q, _, none⟩ g _ (fun e => hgq e.symm)).trans hs.box
    · rw [hle, ← set_last]; exact hst
  have hwl : IntKind.i64.wrap (((Y ++ [y]).length : Int) - 1) = (Y.length : Int) := by rw [show ((Y ++ [y]).length : Int) - 1 = (Y.length : Int) by simp]; exact IntWalk.i64_in _ (by simp at hl; omega)
  obtain ⟨v, hv⟩ : ∃ v, sumR (Y ++ [y]) = v := ⟨_, rfl⟩
  rw [hv] at HL hw t1
  obtain ⟨ee, hee⟩ : ∃ v, sumR Y + y.c = v := ⟨_, rfl⟩
  rw [hee] at HC1 HP hwa
  have hN : (Y ++ [y]).length = Y.length + 1 := by simp
  rw [hN] at HCC hwl hl
  obtain ⟨m, hm⟩ : ∃ m, Y.length = m := ⟨_, rfl⟩
  rw [hm] at HC1 HP HCC hwl hl
  obtain ⟨N, hNN⟩ : ∃ N, m + 1 = N := ⟨_, rfl⟩
  rw [hNN] at HCC hwl hl
  have g0 : (0 : Int) ≤ m := by omega
  have g1 : (m : Int) < N := by omega
  have g2 : decide ((0 : Int) ≤ (m : Int)) = true := decide_eq_true g0
  have g3 : (i == i) = true := by simp
  have HXP : Hid (∀ W, (∃ k, W = (w.drewN k).setCell ⟨q, m * 2 + 1, none⟩ (.int .i64 (ee + n))) → IsSt W B g (Y ++ [⟨y.i, y.c + n⟩]) ∧ Chg B w W) := by
    rintro W ⟨k, rfl⟩
    exact ⟨⟨_, _, (HP.out k).1⟩, (HP.out k).2⟩
  clear h hk ho hv s0 s1 hl h0 h1 hy HS hc1 hcc hgq HP hee hN hm hNN hkk hq
  go_enter Tryd.func18, Tryd.ntmps18
  go_wp2_with (go_at_call 30; refine HL.out.mono ?_; rintro e w1 ⟨rfl, k, rfl⟩; obtain ⟨c1, c2, f2⟩ := HC1.out k; have cc := HCC.out k; have HX := Lib.hid (fun W hW => HXP.out W ⟨k, hW⟩); obtain ⟨W, hW⟩ : ∃ W, w.drewN k = W := ⟨_, rfl⟩; rw [hW] at c1 c2 f2 cc HX; rw [hW]; clear hW)
  go_ret
  obtain ⟨x1, x2⟩ := HX.out _ rfl
  exact ⟨rfl, x1, x2⟩
end

end Go.Proofs.YtilkicbokfgjlaaDoor.Stp
