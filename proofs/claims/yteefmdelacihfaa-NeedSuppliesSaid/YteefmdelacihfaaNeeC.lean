
/- Needs: the least that a number stands in each part of some. Conditions: the parts are all of one length of at least 1; at most 2 to the power 40 numbers. -/

import Derived.Test.YteefmdelacihfaaNeeB

namespace Go.Proofs.Yteefmdelacihfaa.Nee

open Go.RowKit Go.PlainAid Go.Shelf Go.Proofs.Yteefmdelacihfaa.Oct Go.Proofs.Yteefmdelacihfaa.Flt Go.Proofs.Yteefmdelacihfaa.Rdr Go.Proofs.Yteefmdelacihfaa.Args Go.Proofs.Yteefmdelacihfaa.Win

set_option linter.unusedVariables false

set_option linter.unusedSimpArgs false
attribute [local go_sem] Oper.semAt_some

theorem chunk_any (a : Option Addr) (len cap p : Nat) (hp : 1 ≤ p) (w : World) :
    Calls Try.prog 29 #[.slice a len cap, .int .i64 (p : Int)] w fun e w' => e = .returned (.func (.func 34) #[] #[.pointer (some ⟨w.heap.size, 0, none⟩), .pointer (some ⟨w.heap.size + 1, 0, none⟩)]) ∧ w' = (w.alloc (.cells #[.slice a len cap] 28)).alloc (.cells #[.int .i64 (p : Int)] 3) := by
  have h1 : ¬ (p : Int) < 1 := by omega
  go_enter Try.func29, Try.ntmps29
  go_wp2
  go_ret
  exact ⟨rfl, rfl⟩
/-- Between the parts: the box of the least so far. -/
def LsI (z : Int) (zs : List Int) (p T b N : Nat) (w3 : World) {K : Nat} (xs : List (Fin K)) (W : World) : Prop :=
  (W.cell? ⟨b, 0, none⟩ = some (.int .i64 ((minL z zs p T (xs.map Fin.val) : Nat) : Int)) ∧ W.frozen? ⟨b, 0, none⟩ = false) ∧ But b N w3 W
theorem But.drew {b N : Nat} {u v : World} (h : But b N u v) : But b N u v.drew := h.trans ⟨rfl, rfl, rfl, Nat.le_refl _, fun _ _ _ => rfl⟩
theorem But.grown {b N : Nat} {u v v' : World} {row : Option Nat} (h : But b N u v) (hN : N ≤ u.heap.size) (hg : v.grownBy v' row) (hr : ∀ r, row = some r → N ≤ r) : But b N u v' :=
  ⟨hg.os.trans h.os, hg.tape.trans h.tape, hg.output.trans h.output, Nat.le_trans h.size hg.size, fun k hk hb => (hg.block k (by have := h.size; omega) (fun e => by have := hr k e.symm; omega)).trans (h.block k hk hb)⟩
set_option maxRecDepth 100000 in
set_option maxHeartbeats 4000000 in
theorem least_any (z : Int) (zs : List Int) (y : Addr) (p K cap : Nat) (w : World) (ho : ZAt w y zs) (hy : y.block < w.heap.size) (hn : zs.length = K * p) (hp : 1 ≤ p) (hK : 1 ≤ K) (hl : K * p ≤ 1099511627776) (hcap : K * p ≤ cap) :
    Calls Try.prog 21 #[.slice (some y) (K * p) cap, .int .i64 z, .int .i64 (p : Int)] w fun e w' => e = .returned (.int .i64 (minC z zs p p K : Nat)) ∧ Below w.heap.size w w' := by
  refine (callsIn_wide (n := 3)).1 ?_
  refine callsIn_of_wp_marks Try.func21 rfl trivial ?_ rfl
  simp only [Try.ntmps21, List.size_toArray, List.length_cons, List.length_nil, Nat.reduceAdd, Nat.reduceSub, Array.replicate_succ, Array.replicate_zero, List.push_toArray, List.append_toArray, List.nil_append, List.cons_append]
  have HC := Lib.hid (fun W => chunk_any (some y) (K * p) cap p hp W)
  obtain ⟨T, hT⟩ : ∃ T, K * p = T := ⟨_, rfl⟩
  rw [hT] at HC
  rw [hT]
  gi_wp2_with fail
  refine ⟨trivial, (callsIn_wide.2 (HC.out _)).mono ?_⟩
  rintro e w3 ⟨rfl, rfl⟩
  gi_wp2
  have hb3 : Below w.heap.size w ((((w.alloc (.cells #[.int .i64 z] 3)).alloc (.cells #[.int .i64 (T : Int)] 3)).alloc (.cells #[.slice (some y) T cap] 28)).alloc (.cells #[.int .i64 (p : Int)] 3)) :=
    ((((Below.refl _ _).alloc (Nat.le_refl _) _).alloc (by simp) _).alloc (by simp; omega) _).alloc (by simp; omega) _
  have hs3 : ((((w.alloc (.cells #[.int .i64 z] 3)).alloc (.cells #[.int .i64 (T : Int)] 3)).alloc (.cells #[.slice (some y) T cap] 28)).alloc (.cells #[.int .i64 (p : Int)] 3)).heap.size = w.heap.size + 4 := by simp
  have k0 : ((((w.alloc (.cells #[.int .i64 z] 3)).alloc (.cells #[.int .i64 (T : Int)] 3)).alloc (.cells #[.slice (some y) T cap] 28)).alloc (.cells #[.int .i64 (p : Int)] 3)).cell? ⟨w.heap.size, 0, none⟩ = some (.int .i64 z) := by go_simp
  have k1 : ((((w.alloc (.cells #[.int .i64 z] 3)).alloc (.cells #[.int .i64 (T : Int)] 3)).alloc (.cells #[.slice (some y) T cap] 28)).alloc (.cells #[.int .i64 (p : Int)] 3)).cell? ⟨w.heap.size + 1, 0, none⟩ = some (.int .i64 (T : Int)) := by go_simp
  have f1 : ((((w.alloc (.cells #[.int .i64 z] 3)).alloc (.cells #[.int .i64 (T : Int)] 3)).alloc (.cells #[.slice (some y) T cap] 28)).alloc (.cells #[.int .i64 (p : Int)] 3)).frozen? ⟨w.heap.size + 1, 0, none⟩ = false := by go_simp
  have k2 : ((((w.alloc (.cells #[.int .i64 z] 3)).alloc (.cells #[.int .i64 (T : Int)] 3)).alloc (.cells #[.slice (some y) T cap] 28)).alloc (.cells #[.int .i64 (p : Int)] 3)).cell? ⟨w.heap.size + 1 + 1, 0, none⟩ = some (.slice (some y) T cap) := by go_simp
  have k3 : ((((w.alloc (.cells #[.int .i64 z] 3)).alloc (.cells #[.int .i64 (T : Int)] 3)).alloc (.cells #[.slice (some y) T cap] 28)).alloc (.cells #[.int .i64 (p : Int)] 3)).cell? ⟨w.heap.size + 1 + 1 + 1, 0, none⟩ = some (.int .i64 (p : Int)) := by go_simp
  generalize ((((w.alloc (.cells #[.int .i64 z] 3)).alloc (.cells #[.int .i64 (T : Int)] 3)).alloc (.cells #[.slice (some y) T cap] 28)).alloc (.cells #[.int .i64 (p : Int)] 3)) = w3 at *
  have hlen : ∀ x : Fin K, (chkZ zs p x.1).length = p := fun x => by
    unfold chkZ
    rw [List.length_take, List.length_drop, hn]
    have h := Nat.mul_le_mul_right p x.2
    rw [Nat.succ_mul] at h
    omega
  have hpT : p ≤ T := by rw [← hT]; exact Nat.le_trans (Nat.le_of_eq (Nat.one_mul p).symm) (Nat.mul_le_mul_right p hK)
  have hmin : minL z zs p T ((List.finRange K).map Fin.val) = minC z zs p p K := by
    have e : (List.finRange K).map Fin.val = List.range K := by
      apply List.ext_getElem
      · simp
      · intro i h1 h2; simp
    rw [e, minL_range]
    obtain ⟨K', rfl⟩ : ∃ k, K = k + 1 := ⟨K - 1, by omega⟩
    exact minC_same z zs p T hpT K'
  refine wpIn_rangeFunc_ownG rfl (by decide) (gf := 34) (lb := #[.pointer (some ⟨w.heap.size + 1 + 1, 0, none⟩), .pointer (some ⟨w.heap.size + 1 + 1 + 1, 0, none⟩)]) rfl trivial (enters_of Try.func34 (by kernel_rfl) rfl)
    (chunk_stops 2 (by decide) (w.heap.size + 1) (w.heap.size + 4) (w.heap.size + 1 + 1) (w.heap.size + 1 + 1 + 1) y p K cap hp hl hcap w3 ⟨by omega, by omega⟩ ⟨by omega, by omega⟩ (by omega) (by rw [hT]; exact k2) k3)
    But.trans (fun W l o o' h1 h2 h3 h4 => But.put (by omega) W l o o' h1 h2 h3 h4) (Below.refl _ _) (fun _ => rfl)
    (fun pre W => LsI z zs p T (w.heap.size + 1) (w.heap.size + 4) w3 pre W)
    (fun _ _ _ => False)
    (fun s A B row hs hg hr => ⟨⟨cell_kept hs.1.1 hg (fun r e => (hr r e).2), (frozen_kept hs.1.1 hg (fun r e => (hr r e).2)).trans hs.1.2⟩, hs.2.grown (by omega) hg (fun r e => by have := (hr r e).1; omega)⟩)
    (fun _ _ _ _ _ hs _ _ => hs)
    ⟨⟨k1, f1⟩, But.refl _ _ _⟩
    (fun x => { tmps := #[.slice (some y) T cap, .int .i64 z, .int .i64 (p : Int), undef, .pointer (some ⟨w.heap.size, 0, none⟩), undef, .int .i64 0, .pointer (some ⟨w.heap.size + 1, 0, none⟩), .slice (some (y.add (x.1 * p))) p p, .slice (some y) T cap, .int .i64 (T : Int), .slice (some y) T cap, .int .i64 (p : Int), .func (.func 34) #[] #[.pointer (some ⟨w.heap.size + 1 + 1, 0, none⟩), .pointer (some ⟨w.heap.size + 1 + 1 + 1, 0, none⟩)], .slice (some (y.add (x.1 * p))) p p, undef, undef, undef, undef, undef, undef], defers := [] }) ?assign ?body ?done ?stop
  case assign =>
    intro l x W K1 hK1
    gi_wp2
    exact hK1
  case body =>
    rintro l pre x W ⟨⟨hc, hf⟩, hbu⟩ hlt
    have c0 := (hbu.cell (p := ⟨w.heap.size, 0, none⟩) (by show w.heap.size < _; omega) (by show w.heap.size ≠ _; omega)).trans k0
    have hbw : Below w.heap.size w W := hb3.trans (hbu.below (by omega) (by omega))
    have hz : ZAt W (y.add (x.1 * p)) (chkZ zs p x.1) := (ho.kept hbw (fun _ => hy)).part (x.1 * p) p
    have HN := Lib.hid (fun W' (h : ZAt W' (y.add (x.1 * p)) (chkZ zs p x.1)) => ncount_any z (chkZ zs p x.1) (y.add (x.1 * p)) p p W' h (hlen x) (by omega))
    have hfn : Fence.wide.fn 23 := trivial
    have hd1 : 1 ≤ 3 - 1 - 1 := by decide
    have hmx : Try.prog.follows .mixedOrders = true := by kernel_rfl
    have hsn := minL_snoc z zs p T (pre.map Fin.val) x.1
    obtain ⟨mm, hmm⟩ : ∃ n, minL z zs p T (pre.map Fin.val) = n := ⟨_, rfl⟩
    obtain ⟨cn, hcn⟩ : ∃ n, cntZ z (chkZ zs p x.1) = n := ⟨_, rfl⟩
    rw [hmm, hcn] at hsn
    rw [hmm] at hc
    rw [hcn] at HN
    have HZ := Lib.hid hz
    have HBU := Lib.hid hbu
    have HSN : Hid (minL z zs p T ((pre ++ [x]).map Fin.val) = min mm cn) := by show _ = _; rw [List.map_append]; exact hsn
    clear hz hbu hsn hmm hcn hbw hmin hlen ho hn
    gi_wp2
    gi_region_with_o (gi_at_call 23; refine (CallsIn.inRound l (callsIn_wide.2 (HN.out W.drew HZ.out))).mono ?_; rintro e w' ⟨rfl, rfl⟩)
    all_goals gi_wp2
    all_goals exact ⟨((KeepsOthers.setCell _ _ _).trans (KeepsOthers.drew _)).from _, ((But.refl _ _ _).set _).drew, ⟨by rw [HSN.out, show (((min mm cn : Nat)) : Int) = min (mm : Int) (cn : Int) by omega]; exact World.cell?_setCell_same' _ _ _ (by rw [hc]; rfl), by rw [frozen_drew_own, World.frozen?_setCell]; exact hf⟩, (HBU.out.set _).drew⟩
  case done =>
    rintro D xs W hD rfl ⟨⟨hc, hf⟩, hbu⟩ hKd
    rw [hmin] at hc
    gi_wp2
    refine ⟨by simp, .inl ⟨_, _, rfl, run_takeDeferred hKd, ?_⟩⟩
    exact ⟨_, results_tmp rfl _ _ _, rfl, (hb3.trans (hbu.below (by omega) (by omega))).trans (belowK_b (w := w) (Nat.le_refl _) W D _ _ (by omega) hKd rfl rfl)⟩
  case stop =>
    rintro D c pre W _ _ h _
    exact h.elim
end Go.Proofs.Yteefmdelacihfaa.Nee
