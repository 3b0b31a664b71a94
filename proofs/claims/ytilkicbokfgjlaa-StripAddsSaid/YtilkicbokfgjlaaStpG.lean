
/- A strip in memory: Word. Condition: at most 268,435,455 ticks. -/

import Derived.Test.YtilkicbokfgjlaaStpF

import Derived.Laws.CopyOwn

namespace Go.Proofs.Ytilkicbokfgjlaa.Stp

open Go.RowKit Go.PlainAid Go.Proofs.Ytilkicbokfgjlaa.Cel

set_option linter.unusedVariables false

set_option linter.unusedSimpArgs false

/-- 'make([]T, m, n)' with cells of one place each. -/
theorem wpList_make_n {P : Program} (w : World) {ops : Array Oper} {rest : List Oper} {o : Oper} {a : Act} {Q : Exit → Act → World → Prop}
    (hg : o.guard = none) (l c : Operand) (t : TypeId) (hop : o.op = Op.makeSlice t l c)
    (e : TypeId) (i : TypeInfo) (z : Value) (h1 : P.underlying t = some (.slice e)) (h2 : P.info? e = some i) (h3 : i.zero = some z) (h4 : i.size = 1) (hz : z.cells = #[z])
    (kl kc : IntKind) (L C : Int) (m n : Nat) (hl : a.eval l = .int kl L) (hc : a.eval c = .int kc C) (hL : L = (m : Int)) (hC : C = (n : Int)) (hmn : m ≤ n) (b2 : i.bytes * n ≤ 281474976710656) (b3 : n ≤ 9223372036854775807)
    (hK : wpList P ops Q rest (a.put o.dst (.slice (some ⟨w.heap.size, 0, none⟩) m n)) (w.alloc (.cells (List.replicate n z).toArray e))) :
    wpList P ops Q (o :: rest) a w := by
  refine wpList_plain hg fun K hK' => ?_
  have hb' : (i.bytes : Int) * (n : Int) ≤ 281474976710656 := by
    have h : ((i.bytes * n : Nat) : Int) ≤ 281474976710656 := by omega
    rwa [Int.natCast_mul] at h
  have hrun := run_make (P := P) w t e i z h1 h2 h3 kl kc m n (by omega) (by omega) hb' (by omega)
  simp only [Int.toNat_natCast, h4, Nat.mul_one, hz] at hrun
  subst hL
  subst hC
  unfold Oper.wp
  simp [execOp, hop, hl, hc, hrun, Result.andThen]
  have e1 : madeCells #[z] n = (List.replicate n z).toArray := by
    apply Array.toList_inj.1; rw [toList_madeCells_one]
  rw [e1]
  exact hK' _ _ hK
/-- A row's block is not one of another type. -/
theorem own_not {w : World} {B e s n q : Nat} {V : Value} {xs : List Value} {cs : Array Value} {t : TypeId} (h : w.heap[q]? = some (.cells cs t (0, 0))) (ho : w.ownsRow B e s V n xs) (ht : t ≠ e) : some q ≠ V.ownBlock := by
  intro e0
  rcases ho.2 with ⟨h1, _⟩ | ⟨g, cap, cur, h1, h2, h3, h4⟩
  · rw [h1] at e0; cases e0
  · rw [h1] at e0
    have e2 : q = g := by simpa [Value.ownBlock] using e0
    rw [← e2, h] at h3
    simp only [Option.some.injEq, Obj.cells.injEq] at h3
    exact ht h3.2.1
def iv (l : List Int) : List Value := l.map (.int .i64)
theorem iv_len (l : List Int) : (iv l).length = l.length := by simp [iv]
theorem infoInt : (Try.prog.info? 3).map (fun i => (i.zero, i.size, i.bytes)) = some (some (.int .i64 0), 1, 8) := by kernel_rfl
theorem new1W (w : World) (T : TypeId) (a : Int) : ∀ j u, ([.int .i64 a] : List Value)[j]? = some u → (w.alloc (.cells #[.int .i64 a] T)).cell? ((Addr.mk w.heap.size 0 none).add j) = some u := by
  intro j q hj
  have hrow := heap_alloc_new w (.cells #[.int .i64 a] T)
  have e : (Addr.mk w.heap.size 0 none).add j = ⟨w.heap.size, j, none⟩ := by cases j <;> simp [Addr.add]
  rw [e, cell_of_row _ _ _ _ _ _ hrow, ← hj]; simp
theorem word_take {X : List RW} (h : ∀ x ∈ X, 1 ≤ x.c) (k : Nat) : ((wordX (X.take k)).length : Int) = sumR (X.take k) := word_len fun x hx => h x (List.mem_of_mem_take hx)
def slen : Value → Nat
  | .slice _ n _ => n
  | _ => 0
def WordPost (w : World) (X : List RW) (n : Nat) (e : Ending) (w' : World) : Prop := ∃ A c, e = .returned (.slice A n c) ∧ w'.ownsRow w.heap.size 3 1 (.slice A n c) n (iv (wordX X)) ∧ Below w.heap.size w w'
def WoRel (X : List RW) (w : World) (i v : Value) (wr : World) : Prop :=
  ∃ (k n : Nat) (A : Option Addr) (c : Nat), k ≤ X.length ∧ i = .int .i64 (k : Int) ∧ v = .slice A n c ∧ (wordX (X.take k)).length = n ∧ wr.ownsRow w.heap.size 3 1 (.slice A n c) n (iv (wordX (X.take k))) ∧ Below w.heap.size w wr
def WiRel (pre : List Int) (xi : Int) (xc : Nat) (q : Nat) (en : Int) (w : World) (v : Value) (wr : World) : Prop :=
  ∃ (j n : Nat) (A : Option Addr) (c : Nat), j ≤ xc ∧ v = .slice A n c ∧ pre.length + j = n ∧ wr.ownsRow w.heap.size 3 1 (.slice A n c) n (iv (pre ++ List.replicate j xi)) ∧ Below w.heap.size w wr ∧ wr.heap[q]? = some (.cells #[.int .i64 xi, .int .i64 en] 52 (0, 0))
theorem made_own (w W2 : World) (n : Nat) (h : w.heap.size ≤ W2.heap.size) (hm : n ≤ 268435455) : (W2.alloc (.cells (List.replicate n (Value.int .i64 0)).toArray 3)).ownsRow w.heap.size 3 1 (.slice (some ⟨W2.heap.size, 0, none⟩) 0 n) 0 [] := World.ownsRow_made _ _ n h (by unfold maxLen; omega) (by simp)
section

variable {w : World} {B g : Nat} {X : List RW}

set_option maxRecDepth 4000 in
set_option maxHeartbeats 3200000 in
theorem word_any (h : IsSt w B g X) (ho : OkX X) (n : Nat) (hn : sumR X = (n : Int)) (hm : n ≤ 268435455) : Calls Try.prog 17 #[.pointer (some ⟨g, 0, none⟩)] w (WordPost w X n) := by
  obtain ⟨i0, hi, hz0, hz1, hz2⟩ := info_parts infoInt
  obtain ⟨A0, c0, h⟩ := h
  have hl := ho.len
  have HL := Lib.hid (fun (W : World) (b : Below w.heap.size w W) => len_any W B g A0 c0 X (h.keep b) ho)
  rw [hn] at HL
  have HC := Lib.hid (fun (W : World) (b : Below w.heap.size w W) => (h.keep b).cell)
  have HS : Hid (∀ W1, Below w.heap.size w W1 → RAt W1 A0 (runsF 0 X)) := fun W1 hb => (h.keep hb).rat
  have HO := Lib.hid ho
  have HNN := Lib.hid hn
  have HM : Hid (n ≤ 268435455) := hm
  obtain ⟨N, hN⟩ : ∃ N, X.length = N := ⟨_, rfl⟩
  have HN := Lib.hid hN
  rw [hN] at HC hl
  have HLN : Hid (N ≤ 1073741824) := hl
  have t0 : decide ((268435455 : Int) < (n : Int)) = false := decide_eq_false (by omega)
  clear h ho hN hl hn hm
  have HL0 := Lib.hid (HL.out w (Below.refl _ _))
  go_enter Try.func17, Try.ntmps17
  go_wp2_with (go_at_call 15; refine HL0.out.mono ?_; rintro e w1 ⟨rfl, q, rfl⟩; have hb1 := below_n w q; have HL1 := Lib.hid (HL.out _ hb1); have HB1 := Lib.hid hb1; obtain ⟨W, hW⟩ : ∃ W, w.drewN q = W := ⟨_, rfl⟩; rw [hW] at HL1 HB1; rw [hW]; clear hW hb1)
  go_wp2_with (first | (go_at_call 15; refine HL1.out.mono ?_; rintro e w2 ⟨rfl, q2, rfl⟩; have HB2 := Lib.hid (HB1.out.trans ((below_n W q2).mono HB1.out.size)); obtain ⟨W2, hW2⟩ : ∃ W2, W.drewN q2 = W2 := ⟨_, rfl⟩; rw [hW2] at HB2; rw [hW2]; clear hW2; have HB3 := Lib.hid (HB2.out.trans ((below_al W2 (.cells (List.replicate n (Value.int .i64 0)).toArray 3)).mono HB2.out.size)); have c3 := HC.out _ HB3.out; have HO3 := Lib.hid (made_own w W2 n HB2.out.size HM.out)) | (at_make; refine wpList_make_n _ rfl _ _ 43 rfl 3 i0 (.int .i64 0) Try.underlying43 hi hz0 hz1 rfl _ _ _ _ 0 n rfl rfl rfl rfl (Nat.zero_le _) (by rw [hz2]; have := HM.out; omega) (by have := HM.out; omega) ?_; obtain ⟨W3, hW3⟩ : ∃ W3, W2.alloc (.cells (List.replicate n (Value.int .i64 0)).toArray 3) = W3 := ⟨_, rfl⟩; rw [hW3] at HB3 c3 HO3; rw [hW3]; clear hW3))
  go_loopw [17, 3] (fun i v wr => WoRel X w i v wr) (fun i _ _ => N - (intOf i).toNat)
  case atStart => exact ⟨0, 0, _, _, Nat.zero_le _, rfl, rfl, rfl, HO3.out, HB3.out⟩
  case round =>
    obtain ⟨k, m, A, c, hk, rfl, rfl, hml, how, hb⟩ := hrel
    rw [HN.out] at hk
    have HB := Lib.hid hb
    have HOW := Lib.hid how
    have HML := Lib.hid hml
    clear hb how hml HO3 HB3
    by_cases hlt : k < N
    · obtain ⟨x, hx⟩ : ∃ x, X[k]? = some x := ⟨_, List.getElem?_eq_getElem (by rw [HN.out]; exact hlt)⟩
      obtain ⟨ax, rfl, c1, c2⟩ := HS.out _ HB.out k _ (runsF_get X 0 k x hx)
      dsimp only at c1 c2
      have hsk := sum_take_succ hx
      have HT := Lib.hid (take_snoc hx)
      have hm2 := sum_take_le HO.out.pos (k + 1)
      have hwl := word_take HO.out.pos k
      rw [HML.out] at hwl
      have hxc := HO.out.pos x (List.mem_of_getElem? hx)
      rw [HNN.out] at hm2
      obtain ⟨xi, xcI⟩ := x
      dsimp only at c1 hsk hxc
      obtain ⟨xc, rfl⟩ : ∃ n : Nat, xcI = n := ⟨xcI.toNat, by omega⟩
      have hen : (0 : Int) + sumR (X.take (k + 1)) = ((m + xc : Nat) : Int) := by omega
      rw [hen] at c2
      obtain ⟨en, hee⟩ : ∃ e, m + xc = e := ⟨_, rfl⟩
      rw [hee] at c2
      have HEE : Hid (m + xc = en) := hee
      have HW9 : Hid (wordX (X.take (k + 1)) = wordX (X.take k) ++ List.replicate xc xi) := by show _ = _; rw [HT.out, word_snoc]; rfl
      obtain ⟨pre, hpre⟩ : ∃ p, wordX (X.take k) = p := ⟨_, rfl⟩
      rw [hpre] at HW9 HOW HML
      have h0 : (0 : Int) ≤ k := by omega
      have h1 : (k : Int) < N := by omega
      have hk1 : IntKind.i64.wrap ((k : Int) + 1) = (k : Int) + 1 := IntWalk.i64_in _ (by have := HLN.out; omega)
      have HKL : Hid (k < N) := hlt
      have HEN : Hid (en ≤ 268435455) := by have := HM.out; show _ ≤ _; omega
      obtain ⟨wo, rfl⟩ : ∃ wo, wo = wr := ⟨_, rfl⟩
      have HBO := Lib.hid (HB.out.trans ((below_al wo (.cells #[.int .i64 xi, .int .i64 (en : Int)] 52)).mono HB.out.size))
      have HXO := Lib.hid (heap_alloc_new wo (.cells #[.int .i64 xi, .int .i64 (en : Int)] 52))
      have HOO := Lib.hid (HOW.out.alloc (.cells #[.int .i64 xi, .int .i64 (en : Int)] 52))
      obtain ⟨q, hq⟩ : ∃ q, wo.heap.size = q := ⟨_, rfl⟩
      rw [hq] at HXO
      have HQ := Lib.hid hq
      clear hx hsk hm2 hwl hxc hen hee hpre hlt hk hq HOW HB HT
      go_wp2_with fail
      rw [HQ.out]
      go_loopw [3] (fun v wr => WiRel pre xi xc q (en : Int) w v wr) (fun v _ => en - slen v)
      case atStart => exact ⟨0, m, A, c, Nat.zero_le _, rfl, by rw [HML.out]; rfl, by rw [List.replicate_zero, List.append_nil]; exact HOO.out, HBO.out, HXO.out⟩
      case round =>
        obtain ⟨j, n2, A2, c2', hj, rfl, hn2, how2, hb2, hbx⟩ := hrel
        have HO2 := Lib.hid how2
        have HB2' := Lib.hid hb2
        have HX2 := Lib.hid hbx
        have e0 := cell_of_row _ _ 0 _ _ _ hbx
        have e1 := cell_of_row _ _ 1 _ _ _ hbx
        simp only [List.getElem?_toArray, List.getElem?_cons_zero, List.getElem?_cons_succ] at e0 e1
        have hee := HEE.out
        have hml := HML.out
        have HN2 := Lib.hid hn2
        clear how2 hb2 hbx c1 c2 HOO HBO HXO
        by_cases hjx : j < xc
        · have tt : decide ((n2 : Int) < (en : Int)) = true := decide_eq_true (by omega)
          have tn : decide (n2 < en) = true := decide_eq_true (by omega)
          have HJX : Hid (j < xc) := hjx
          have HNE : Hid (n2 < en) := by show _ < _; omega
          have HR := Lib.hid (HO2.out.alloc (.cells #[.int .i64 xi] 3))
          have HBR := Lib.hid (HB2'.out.trans ((below_al wr (.cells #[.int .i64 xi] 3)).mono HB2'.out.size))
          have HXR : Hid ((wr.alloc (.cells #[.int .i64 xi] 3)).heap[q]? = some (.cells #[.int .i64 xi, .int .i64 (en : Int)] 52 (0, 0))) := ((below_al wr _).block _ (lt_of_block HX2.out)).trans HX2.out
          clear hj hn2 hjx hee hml
          go_wp2_with (at_builtin; refine wpList_append_own _ rfl _ _ 43 rfl _ 3 i0 (.int .i64 0) 1 8 Try.underlying43 hi hz0 hz1 hz2 rfl (by decide) _ _ _ rfl HR.out ⟨wr.heap.size, 0, none⟩ 1 1 [.int .i64 xi] rfl rfl (new1W wr _ _) (by simp [Value.oneCell']) (by have := HNE.out; have := HEN.out; unfold maxLen; omega) (by have := HNE.out; have := HEN.out; omega) HBR.out.size ?_)
          intro V4 W4 ho4 hg4 _
          have HO4 := Lib.hid ho4
          have HB4 := Lib.hid (HBR.out.grown hg4 HBR.out.size (fun j hj => (HR.out.lt j hj).1))
          have HX4 := Lib.hid ((hg4.block q (lt_of_block HXR.out) (own_not HXR.out HR.out (by decide))).trans HXR.out)
          obtain ⟨A4, c4, hV4⟩ := own_slice ho4
          subst hV4
          clear ho4 hg4 e0 e1
          go_wp2
          go_roundw
          case rel =>
            refine ⟨j + 1, n2 + 1, A4, c4, HJX.out, rfl, by have := HN2.out; omega, ?_, HB4.out, HX4.out⟩
            have e : iv (pre ++ List.replicate (j + 1) xi) = iv (pre ++ List.replicate j xi) ++ [.int .i64 xi] := by rw [List.replicate_succ', ← List.append_assoc]; simp [iv]
            rw [e]; exact HO4.out
          case measure => have := HNE.out; simp [slen]; omega
        · obtain rfl : j = xc := by omega
          have tt : decide ((n2 : Int) < (en : Int)) = false := decide_eq_false (by omega)
          have tn : decide (n2 < en) = false := decide_eq_false (by omega)
          clear hj hjx hee hml hn2
          go_wp2
          go_roundw
          case rel => exact ⟨k + 1, n2, A2, c2', by rw [HN.out]; exact HKL.out, by go_num, rfl, by rw [HW9.out, List.length_append, List.length_replicate]; exact HN2.out, by rw [HW9.out]; exact HO2.out, HB2'.out⟩
          case measure => have := HKL.out; simp [intOf]; omega
    · obtain rfl : k = N := by omega
      have hf : X.take k = X := List.take_of_length_le (by rw [HN.out]; exact Nat.le_refl _)
      rw [hf] at HOW HML
      have hwl := word_len HO.out.pos
      rw [HML.out, HNN.out] at hwl
      obtain rfl : m = n := by omega
      clear hf hk hlt hwl
      go_wp2
      go_ret
      exact ⟨A, c, rfl, HOW.out, HB.out⟩
end

end Go.Proofs.Ytilkicbokfgjlaa.Stp
