
/- Needs: the parts of some numbers (slices.Chunk), one behind the other. Conditions: the parts are all of one length of at least 1; at most 2 to the power 40 numbers. -/

import Derived.Sort.QuietTacIn

import Derived.Test.YteefmdelacihfaaNeeA

namespace Go.Proofs.Yteefmdelacihfaa.Nee

open Go.RowKit Go.PlainAid Go.Shelf Go.Proofs.Yteefmdelacihfaa.Oct Go.Proofs.Yteefmdelacihfaa.Flt Go.Proofs.Yteefmdelacihfaa.Rdr Go.Proofs.Yteefmdelacihfaa.Args Go.Proofs.Yteefmdelacihfaa.Win

set_option linter.unusedVariables false

set_option linter.unusedSimpArgs false
attribute [local go_sem] Oper.semAt_some

/-- The k-th part of numbers. -/
def chkZ (zs : List Int) (p k : Nat) : List Int := (zs.drop (k * p)).take p
/-- The least count of the first k parts. -/
def minC (z : Int) (zs : List Int) (p b : Nat) : Nat → Nat
  | 0 => b
  | k + 1 => min (minC z zs p b k) (cntZ z (chkZ zs p k))
/-- The least count of some parts. -/
def minL (z : Int) (zs : List Int) (p b : Nat) (xs : List Nat) : Nat := xs.foldl (fun m x => min m (cntZ z (chkZ zs p x))) b
theorem minL_range (z : Int) (zs : List Int) (p b : Nat) : ∀ k, minL z zs p b (List.range k) = minC z zs p b k
  | 0 => rfl
  | k + 1 => by
    have ih := minL_range z zs p b k
    unfold minL at ih ⊢
    rw [List.range_succ, List.foldl_append, ih]
    rfl
theorem minL_snoc (z : Int) (zs : List Int) (p b : Nat) (xs : List Nat) (x : Nat) : minL z zs p b (xs ++ [x]) = min (minL z zs p b xs) (cntZ z (chkZ zs p x)) := by
  unfold minL
  rw [List.foldl_append]
  rfl
theorem chk_le (z : Int) (zs : List Int) (p k : Nat) : cntZ z (chkZ zs p k) ≤ p := by
  refine Nat.le_trans (cntZ_le _ _) ?_
  unfold chkZ
  rw [List.length_take]
  omega
/-- From a period's length on it is the same least, where there is a part. -/
theorem minC_same (z : Int) (zs : List Int) (p b : Nat) (h : p ≤ b) : ∀ k, minC z zs p b (k + 1) = minC z zs p p (k + 1)
  | 0 => by
    have := chk_le z zs p 0
    simp only [minC]
    omega
  | k + 1 => by
    have ih := minC_same z zs p b h k
    rw [minC, ih]
    rfl
theorem minC_le (z : Int) (zs : List Int) (p b : Nat) : ∀ k, minC z zs p b k ≤ b
  | 0 => Nat.le_refl _
  | k + 1 => by
    have := minC_le z zs p b k
    rw [minC]
    omega
/-- All blocks below N but one are as they were. -/
structure But (b N : Nat) (w w' : World) : Prop where
  os : w'.os = w.os
  tape : w'.tape = w.tape
  output : w'.output = w.output
  size : w.heap.size ≤ w'.heap.size
  block : ∀ k, k < N → k ≠ b → w'.heap[k]? = w.heap[k]?
theorem But.refl (b N : Nat) (w : World) : But b N w w := ⟨rfl, rfl, rfl, Nat.le_refl _, fun _ _ _ => rfl⟩
theorem But.trans {b N : Nat} {u v w : World} (h : But b N u v) (k : But b N v w) : But b N u w :=
  ⟨k.os.trans h.os, k.tape.trans h.tape, k.output.trans h.output, Nat.le_trans h.size k.size, fun i hi hb => (k.block i hi hb).trans (h.block i hi hb)⟩
theorem But.below {b N B : Nat} {u v : World} (h : But b N u v) (hb : B ≤ b) (hN : B ≤ N) : Below B u v := ⟨h.os, h.tape, h.output, h.size, fun k hk => h.block k (by omega) (by omega)⟩
theorem But.cell {b N : Nat} {u v : World} (h : But b N u v) {p : Addr} (hN : p.block < N) (hb : p.block ≠ b) : v.cell? p = u.cell? p := World.cell?_of_block (h.block _ hN hb)
theorem But.put {b N : Nat} {w : World} (hn : N ≤ w.heap.size) (W : World) (l : Nat) (o o' : Obj) (hl : w.heap.size ≤ l) (h : W.heap[l]? = some o) (_ : o.isCells = false) (_ : o.isWalk = false) : But b N W (W.putObj l o') := by
  have hg := grownBy_putObj' W l o'
  exact ⟨hg.os, hg.tape, hg.output, hg.size, fun k hk _ => hg.block k (by have := (Array.getElem?_eq_some_iff.1 h).1; omega) (fun e => by cases e; omega)⟩
theorem But.drewN {b N : Nat} {u v : World} (h : But b N u v) (n : Nat) : But b N u (v.drewN n) := h.trans ⟨rfl, rfl, rfl, Nat.le_refl _, fun _ _ _ => rfl⟩
theorem But.set {b N : Nat} {u v : World} (h : But b N u v) (x : Value) : But b N u (v.setCell ⟨b, 0, none⟩ x) :=
  ⟨h.os, h.tape, h.output, Nat.le_trans h.size (KeepsWalks.setCell v _ x).size, fun k hk hb => (Below.heap_setCell _ _ _ k hb).trans (h.block k hk hb)⟩
theorem fin_take {K k : Nat} (h : k < K) : (List.finRange K).take (k + 1) = (List.finRange K).take k ++ [⟨k, h⟩] := by
  rw [List.take_add_one, List.getElem?_eq_getElem (by rw [List.length_finRange]; exact h), List.getElem_finRange]
  rfl
set_option maxRecDepth 100000 in
set_option maxHeartbeats 2000000 in
theorem chunk_in (n : Nat) (hn : 1 ≤ n) (l b N Bs Cs : Nat) (y : Addr) (p K cap : Nat) (hp : 1 ≤ p) (hl : K * p ≤ 1099511627776) (hcap : K * p ≤ cap)
    (hB : Bs < N ∧ Bs ≠ b) (hC : Cs < N ∧ Cs ≠ b) (J Jx : List (Fin K) → World → Prop) (hJd : ∀ s W m, J s W → J s (W.drewN m))
    (hY : ∀ pre x W, J pre W → pre.length < K → YieldAt Fence.wide (n - 1) Try.prog l #[.slice (some (y.add (x.1 * p))) p p] W fun e W' =>
      (e = .returned (.bool true) ∧ J (pre ++ [x]) W' ∧ But b N W W') ∨ (e = .returned (.bool false) ∧ Jx (pre ++ [x]) W'))
    (W : World) (hcs : W.cell? ⟨Bs, 0, none⟩ = some (.slice (some y) (K * p) cap)) (hcc : W.cell? ⟨Cs, 0, none⟩ = some (.int .i64 (p : Int))) (h0 : J [] W) :
    CallsIn Fence.wide n Try.prog 34 #[.func (.yield l) #[] #[], .pointer (some ⟨Bs, 0, none⟩), .pointer (some ⟨Cs, 0, none⟩)] W fun e W' => (∃ v, e = .returned v) ∧
      (J (List.finRange K) W' ∨ ∃ pre, Jx pre W') := by
  obtain ⟨T, hT⟩ : ∃ T, K * p = T := ⟨_, rfl⟩
  rw [hT] at hl hcap hcs
  refine callsIn_of_wp Try.func34 rfl trivial ?_ rfl
  simp only [Try.ntmps34, List.size_toArray, List.length_cons, List.length_nil, Nat.reduceAdd, Nat.reduceSub, Array.replicate_succ, Array.replicate_zero, List.push_toArray, List.append_toArray, List.nil_append, List.cons_append]
  gi_wp2
  gi_loopw [4] (fun i wr => ∃ k : Nat, k ≤ K ∧ i = .int .i64 ((k * p : Nat) : Int) ∧ J ((List.finRange K).take k) wr ∧ But b N W wr) (fun i _ => T - (intOf i).toNat)
  case atStart => exact ⟨0, Nat.zero_le _, by simp, h0, But.refl _ _ _⟩
  case round =>
    obtain ⟨k, hk, rfl, hJs, hbu⟩ := hrel
    have c1 := (hbu.cell (p := ⟨Bs, 0, none⟩) hB.1 hB.2).trans hcs
    have c2 := (hbu.cell (p := ⟨Cs, 0, none⟩) hC.1 hC.2).trans hcc
    by_cases hlt : k < K
    · have hip : k * p + p ≤ T := by rw [← hT, ← Nat.succ_mul]; exact Nat.mul_le_mul_right p hlt
      have hi1 : (k + 1) * p = k * p + p := Nat.succ_mul k p
      have HY := Lib.hid (fun m => hY ((List.finRange K).take k) ⟨k, hlt⟩ (wr.drewN m) (hJd _ _ m hJs) (by rw [List.length_take, List.length_finRange]; omega))
      obtain ⟨i, hi⟩ : ∃ i, k * p = i := ⟨_, rfl⟩
      rw [hi] at hip hi1 HY
      rw [hi]
      have t1 : (i : Int) < T := by omega
      have t1' : i < T := by omega
      have t2 : (0 : Int) ≤ i := by omega
      have t3 : (i : Int) ≤ T := by omega
      have t4 : IntKind.i64.wrap ((i : Int) + (p : Int)) = ((i + p : Nat) : Int) := IntWalk.i64_in _ (by omega)
      have t5 : i ≤ T := by omega
      have t6 : min (p : Int) ((T - i : Nat) : Int) = (p : Int) := by omega
      have t7 : ¬ p = 0 := by omega
      have t8 : i + p ≤ cap := by omega
      have HI := Lib.hid hi1
      have HBU := Lib.hid hbu
      clear hi hi1 hbu hY hJs
      gi_wp2
      gi_quiet_th (fail)
      obtain ⟨fn, tmps, assign, body, hy, hR⟩ := HY.out nq
      have d1 : (wr.drewN nq).cell? ⟨Bs, 0, none⟩ = some (.slice (some y) T cap) := c1
      have d2 : (wr.drewN nq).cell? ⟨Cs, 0, none⟩ = some (.int .i64 (p : Int)) := c2
      gi_wp2
      refine hR.mono ?_
      rintro e W3 (⟨rfl, hJ3, hb3⟩ | ⟨rfl, hJx3⟩)
      · have d3 := (hb3.cell (p := ⟨Cs, 0, none⟩) hC.1 hC.2).trans d2
        gi_wp2
        go_roundw
        case rel => exact ⟨k + 1, by omega, by rw [HI.out]; first | rfl | go_num | simp, by rw [fin_take hlt]; exact hJ3, (HBU.out.drewN nq).trans hb3⟩
        case measure => simp [intOf]; omega
      · gi_wp2
        refine bodyPost_ret (results_none rfl _ _ _) rfl ?_
        exact ⟨⟨_, rfl⟩, .inr ⟨_, hJx3⟩⟩
    · obtain rfl : k = K := by omega
      rw [hT]
      gi_wp2
      go_end0
      rw [List.take_of_length_le (by rw [List.length_finRange]; exact Nat.le_refl _)] at hJs
      exact ⟨⟨_, rfl⟩, .inl hJs⟩
/-- The parts, as a sequence. -/
theorem chunk_stops (n : Nat) (hn : 1 ≤ n) (b N Bs Cs : Nat) (y : Addr) (p K cap : Nat) (hp : 1 ≤ p) (hl : K * p ≤ 1099511627776) (hcap : K * p ≤ cap) (w : World)
    (hB : Bs < N ∧ Bs ≠ b) (hC : Cs < N ∧ Cs ≠ b) (hN : N ≤ w.heap.size) (hcs : w.cell? ⟨Bs, 0, none⟩ = some (.slice (some y) (K * p) cap)) (hcc : w.cell? ⟨Cs, 0, none⟩ = some (.int .i64 (p : Int))) :
    SeqStopsK Fence.wide n Try.prog 34 #[.pointer (some ⟨Bs, 0, none⟩), .pointer (some ⟨Cs, 0, none⟩)] (fun x : Fin K => #[Value.slice (some (y.add (x.1 * p))) p p]) (But b N) (fun xs => xs = List.finRange K) (fun _ => True) K w := fun l J Jx W hW hJ _ hY h0 => by
  refine (chunk_in n hn l b N Bs Cs y p K cap hp hl hcap hB hC J Jx (fun s W m h => hJ s W _ none h ⟨rfl, rfl, rfl, Nat.le_refl _, fun _ _ _ => rfl⟩ (fun r e => by cases e)) hY W ((hW.cell (p := ⟨Bs, 0, none⟩) (Nat.lt_of_lt_of_le hB.1 hN)).trans hcs) ((hW.cell (p := ⟨Cs, 0, none⟩) (Nat.lt_of_lt_of_le hC.1 hN)).trans hcc) h0).mono ?_
  rintro e W' ⟨he, h | ⟨pre, h⟩⟩
  · exact ⟨he, .inl ⟨_, rfl, h⟩⟩
  · exact ⟨he, .inr ⟨_, trivial, h⟩⟩
end Go.Proofs.Yteefmdelacihfaa.Nee
