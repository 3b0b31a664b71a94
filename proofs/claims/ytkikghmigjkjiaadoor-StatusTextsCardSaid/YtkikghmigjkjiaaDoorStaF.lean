
/- A status out of a text: the text's words (strings.SplitN at one blank), what the library makes of a word that may be no number. Condition: the variables hold what the program and the library lay there; the text has at most 300 bytes. -/

import Derived.Test.YtkikghmigjkjiaaDoorStaE

import Derived.Test.YtkikghmigjkjiaaDoorFltK

namespace Go.Proofs.YtkikghmigjkjiaaDoor.Sta

open Go.RowKit Go.PlainAid Go.Proofs.YtkikghmigjkjiaaDoor.Oct Go.Proofs.YtkikghmigjkjiaaDoor.Flt Go.Lib Go.Sort

set_option linter.unusedVariables false

set_option linter.unusedSimpArgs false

/-- 'make([]T, m, n)' with cells of one place each. -/
theorem wpList_make_one {P : Program} (w : World) {ops : Array Oper} {rest : List Oper} {o : Oper} {a : Act} {Q : Exit → Act → World → Prop}
    (hg : o.guard = none) (l c : Operand) (t : TypeId) (hop : o.op = Op.makeSlice t l c)
    (e : TypeId) (i : TypeInfo) (z : Value) (h1 : P.underlying t = some (.slice e)) (h2 : P.info? e = some i) (h3 : i.zero = some z) (h4 : i.size = 1) (hz : z.cells = #[z])
    (kl kc : IntKind) (L C : Int) (m n : Nat) (hl : a.eval l = .int kl L) (hc : a.eval c = .int kc C) (hL : L = (m : Int)) (hC : C = (n : Int)) (hmn : m ≤ n) (b2 : i.bytes * n ≤ 281474976710656) (b3 : n ≤ 9223372036854775807)
    (hK : ∀ w' cur, Hid (cur = List.replicate n z) → Hid (w'.heap[w.heap.size]? = some (.cells cur.toArray e (0, 0))) → Below w.heap.size w w' → wpList P ops Q rest (a.put o.dst (.slice (some ⟨w.heap.size, 0, none⟩) m n)) w') :
    wpList P ops Q (o :: rest) a w := by
  refine wpList_plain hg fun K hK' => ?_
  have hb' : (i.bytes : Int) * (n : Int) ≤ 281474976710656 := by
    have h : ((i.bytes * n : Nat) : Int) ≤ 281474976710656 := by omega
    rwa [Int.natCast_mul] at h
  have hrun := run_make (P := P) w t e i z h1 h2 h3 kl kc m n (by omega) (by omega) hb' (by omega)
  simp only [Int.toNat_natCast, h4, Nat.mul_one, hz] at hrun
  subst hL
  subst hC
  unfold Oper.wp
  simp [execOp, hop, hl, hc, hrun, Result.andThen]
  refine hK' _ _ (hK _ _ rfl ?_ ((Below.refl _ _).alloc (Nat.le_refl _) _))
  show _ = _
  have e1 : madeCells #[z] n = (List.replicate n z).toArray := by
    apply Array.toList_inj.1; rw [toList_madeCells_one]
  rw [e1]
  exact heap_alloc_new _ _
def strV (l : List UInt8) : Value := .string (BA l)
/-- A row of texts of the call's own. -/
def RowT (g : Nat) (L : List Value) (W : World) : Prop := W.heap[g]? = some (.cells L.toArray 9 (0, 0))
theorem RowT.keep {g : Nat} {L : List Value} {W W' : World} (h : RowT g L W) (b : Below W.heap.size W W') : RowT g L W' := (b.block _ (lt_of_block h)).trans h
theorem RowT.cell {g : Nat} {L : List Value} {W : World} (h : RowT g L W) {i : Nat} {x : Value} (hx : L[i]? = some x) : W.cell? ⟨g, i, none⟩ = some x := by
  rw [cell_of_row _ _ _ _ _ _ h]
  simp [hx]
theorem RowT.free {g : Nat} {L : List Value} {W : World} (h : RowT g L W) (i : Nat) : W.frozen? ⟨g, i, none⟩ = false := by simp [World.frozen?, show W.heap[g]? = _ from h]
theorem RowT.set {g : Nat} {L : List Value} {W : World} (h : RowT g L W) (i : Nat) (x : Value) : RowT g (L.set i x) (W.setCell ⟨g, i, none⟩ x) := by
  unfold RowT
  rw [setCell_eq_setRow W g i _ _ _ _ h]
  have := setRow_heap W g L.toArray (L.toArray.setIfInBounds i x) 9 (0, 0) h
  rw [this]
  congr 2
  rw [List.setIfInBounds_toArray]
theorem infoStr : (Tryd.prog.info? 9).map (fun i => (i.zero, i.size, i.bytes)) = some (some (.string ⟨#[]⟩), 1, 16) := by kernel_rfl
theorem rt_set (acc : List (List UInt8)) (x : List UInt8) (z : Value) (m : Nat) : (acc.map strV ++ List.replicate (m + 1) z).set acc.length (strV x) = (acc ++ [x]).map strV ++ List.replicate m z := by
  rw [List.replicate_succ, List.set_append_right _ _ (by simp)]
  simp
def SpRel (s0 : List UInt8) (F g : Nat) (w : World) (r i : Value) (W : World) : Prop :=
  ∃ (k : Nat) (acc : List (List UInt8)) (l : List UInt8), r = .string (BA l) ∧ i = .int .i64 (k : Int) ∧ acc.length = k ∧ k ≤ F ∧ acc ++ spl (F - k) l = spl F s0 ∧ l.length ≤ s0.length ∧ RowT g (acc.map strV ++ List.replicate (F + 1 - k) (.string ⟨#[]⟩)) W ∧ Below w.heap.size w W
def SpPost (s0 : List UInt8) (F : Nat) (w : World) (e : Ending) (w' : World) : Prop :=
  ∃ g, e = .returned (.slice (some ⟨g, 0, none⟩) (spl F s0).length (F + 1)) ∧ (∀ i p, (spl F s0)[i]? = some p → w'.cell? ⟨g, i, none⟩ = some (strV p)) ∧ Below w.heap.size w w'
set_option maxRecDepth 8000 in
set_option maxHeartbeats 3200000 in
theorem split_any (s0 : List UInt8) (F : Nat) (hF : F = min 6 s0.length) (hl : s0.length ≤ 300) (w : World) :
    Calls Tryd.prog 38 #[.string (BA s0), .string ⟨#[32]⟩, .int .i64 0, .int .i64 7] w (SpPost s0 F w) := by
  obtain ⟨i0, hi0, hz0, hz1, hz2⟩ := info_parts infoStr
  have hsz : (BA s0).size = s0.length := ba_size s0
  obtain ⟨S, hS⟩ : ∃ S, BA s0 = S := ⟨_, rfl⟩
  rw [hS] at hsz
  rw [hS]
  have HS := Lib.hid hS
  have hmn : min (7 : Int) ((S.size : Int) + 1) = ((F + 1 : Nat) : Int) := by rw [hsz]; omega
  have hmn2 : IntKind.i64.wrap ((S.size : Int) + 1) = (S.size : Int) + 1 := IntWalk.i64_in _ (by rw [hsz]; omega)
  have hsub : IntKind.i64.wrap (((F + 1 : Nat) : Int) - 1) = (F : Int) := by rw [IntKind.wrap_i64]; omega
  have HF6 : Hid (F ≤ 6) := by show _ ≤ _; omega
  have HL : Hid (s0.length ≤ 300) := hl
  have hs1 : (⟨#[32]⟩ : ByteArray).size = 1 := rfl
  obtain ⟨N, hN⟩ : ∃ N, F + 1 = N := ⟨_, rfl⟩
  have HN := Lib.hid hN
  rw [hN] at hmn hsub
  unfold SpPost
  rw [hN]
  clear hF hl hS hsz hN
  go_enter Tryd.func38, Tryd.ntmps38
  go_wp2_with (first | (at_make; refine wpList_make_one _ rfl _ _ 60 rfl 9 i0 (.string ⟨#[]⟩) Tryd.underlying60 hi0 hz0 hz1 rfl _ _ _ _ N N rfl rfl ?c1 ?c2 ?c3 ?c4 ?c5 ?_) | fail)
  case c1 => rfl
  case c2 => rfl
  case c3 => omega
  case c4 => have := HF6.out; have := HN.out; rw [hz2]; omega
  case c5 => have := HF6.out; have := HN.out; omega
  intro w2 cur hcur hrow2 hb2
  have HR2 : Hid (RowT w.heap.size (([] : List (List UInt8)).map strV ++ List.replicate (F + 1 - 0) (.string ⟨#[]⟩)) w2) := by
    have h := hrow2.out
    rw [hcur.out] at h
    show RowT _ _ _
    unfold RowT
    rw [h, Nat.sub_zero, HN.out]
    simp
  have HB2 := Lib.hid hb2
  clear hcur hrow2 hb2 hmn hmn2
  go_wp2_with fail
  clear hsub
  go_loopw [0, 10] (fun r i W => SpRel s0 F w.heap.size w r i W) (fun _ i _ => F - (RowKit.intOf i).toNat)
  case atStart => exact ⟨0, [], s0, by rw [HS.out], rfl, rfl, Nat.zero_le _, rfl, Nat.le_refl _, HR2.out, HB2.out⟩
  case round =>
    rename World => W
    obtain ⟨k, acc, l, rfl, rfl, hak, hkf, heq, hll, hr, hb⟩ := hrel
    have HR := Lib.hid hr
    have HB := Lib.hid hb
    have hbs : (BA l).size = l.length := ba_size l
    have HLL : Hid (l.length ≤ 300) := Nat.le_trans hll HL.out
    clear HR2 HB2 hr hb
    by_cases hlt : k < F
    · have HIX : Hid (∀ w, Calls Tryd.prog 52 #[.string (BA l), .string ⟨#[32]⟩] w fun e w' => e = .returned (.int .i64 (indexByte l 32)) ∧ w = w') := fun w => by
        have h := Tryd.strings_Index_one (BA l) 32 w
        rw [ba_data] at h
        exact h.mono fun e w' hh => ⟨hh.1, hh.2.symm⟩
      have HIL : Hid (0 ≤ indexByte l 32 → (indexByte l 32).toNat < l.length) := fun h => idx_lt h
      have hstep : spl (F - k) l = if indexByte l 32 < 0 then [l] else l.take (indexByte l 32).toNat :: spl (F - (k + 1)) (l.drop ((indexByte l 32).toNat + 1)) := by
        rw [show F - k = (F - (k + 1)) + 1 by omega]; rfl
      obtain ⟨ix, hix⟩ : ∃ ix, indexByte l 32 = ix := ⟨_, rfl⟩
      rw [hix] at HIX HIL hstep
      have hlk : decide ((k : Int) < F) = true := decide_eq_true (by omega)
      have hlkn : decide (k < F) = true := decide_eq_true hlt
      clear hix
      by_cases hneg : ix < 0
      · have tneg : decide (ix < 0) = true := decide_eq_true hneg
        rw [if_pos hneg] at hstep
        have hall : acc ++ [l] = spl F s0 := by rw [← heq, hstep]
        clear hstep heq HIL hneg hlt
        go_wp2_with fail
        refine (HIX.out _).mono ?_
        rintro e w' ⟨rfl, rfl⟩
        clear HIX
        have hkF : k + 1 ≤ N := by have := HN.out; have := hkf; omega
        have hkF2 : (k : Int) < N := by omega
        have hk7 : (k : Int) ≤ 6 := by have := HF6.out; omega
        have hkF3 : IntKind.i64.wrap ((k : Int) + 1) = ((k + 1 : Nat) : Int) := by rw [Int.natCast_add]; exact IntWalk.i64_in _ (by have := HF6.out; omega)
        have hkF0 : (0 : Int) ≤ k := by omega
        obtain ⟨m, hm⟩ : ∃ m, F + 1 - k = m + 1 := ⟨F - k, by omega⟩
        have hst := HR.out
        rw [hm] at hst
        have hold : (acc.map strV ++ List.replicate (m + 1) (.string ⟨#[]⟩))[k]? = some (.string ⟨#[]⟩) := by
          rw [List.getElem?_append_right (by simp; omega)]
          simp [hak]
        have q1 := hst.cell hold
        have q2 := hst.free k
        have hset := hst.set k (strV l)
        rw [← hak, rt_set acc l (.string ⟨#[]⟩) m, hak] at hset
        have HSL : Hid (acc ++ [l] = spl F s0) := hall
        have HFIN : Hid (∀ i p, (spl F s0)[i]? = some p → (W.setCell ⟨w.heap.size, k, none⟩ (strV l)).cell? ⟨w.heap.size, i, none⟩ = some (strV p)) := fun i p hp => by
          refine hset.cell ?_
          rw [HSL.out]
          have hi := (List.getElem?_eq_some_iff.1 hp).1
          rw [List.getElem?_append_left (by simpa using hi), List.getElem?_map, hp]
          rfl
        have HBF : Hid (Below w.heap.size w (W.setCell ⟨w.heap.size, k, none⟩ (strV l))) := HB.out.trans ⟨rfl, rfl, rfl, by simp, fun b hb => heap_setCell_other _ _ _ _ (by show b ≠ w.heap.size; omega)⟩
        have hlen : (spl F s0).length = k + 1 := by rw [← HSL.out]; simp [hak]
        have hsl : ∀ W : World, (Instr.slice 60 (.slice (some ⟨w.heap.size, 0, none⟩) N N) none (some (.int .i64 ((k + 1 : Nat) : Int))) none).run Tryd.prog W = .ok (.slice (some ⟨w.heap.size, 0, none⟩) (k + 1) N) W := fun W => by
          rw [run_slice_h (P := Tryd.prog) W 60 (some ⟨w.heap.size, 0, none⟩) N N Tryd.underlying60 .i64 ((k + 1 : Nat) : Int) (by omega) (by omega)]
          go_simp
        have HLN := Lib.hid hlen
        unfold strV at HFIN HBF
        clear hst hold hset hm hall hlen hkf hak HSL
        go_wp2
        go_ret
        exact ⟨w.heap.size, by rw [HLN.out]; rfl, HFIN.out, HBF.out⟩
      · have tneg : decide (ix < 0) = false := decide_eq_false hneg
        rw [if_neg hneg] at hstep
        obtain ⟨m, rfl⟩ : ∃ m : Nat, ix = (m : Int) := ⟨ix.toNat, by omega⟩
        have hml := HIL.out (by omega)
        rw [Int.toNat_natCast] at hml hstep
        have hnx : (acc ++ [l.take m]) ++ spl (F - (k + 1)) (l.drop (m + 1)) = spl F s0 := by rw [← heq, hstep]; simp
        have hs1' : ∀ W : World, (Instr.slice 9 (.string (BA l)) none (some (.int .i64 (m : Int))) none).run Tryd.prog W = .ok (.string (BA (l.take m))) W := fun W => by
          have e : BA (l.take m) = (BA l).extract 0 m := by apply ByteArray.ext; simp [BA, ByteArray.data_extract]
          have hm2 : m ≤ (BA l).size := by rw [hbs]; omega
          rw [e]
          simp [Instr.slice, go_sem, hm2]
        have hs2' : ∀ W : World, (Instr.slice 9 (.string (BA l)) (some (.int .i64 ((m : Int) + 1))) none none).run Tryd.prog W = .ok (.string (BA (l.drop (m + 1)))) W := fun W => by
          have e : (BA l).extract (m + 1) (BA l).size = BA (l.drop (m + 1)) := by
            apply ByteArray.ext
            rw [hbs]
            simp [BA, ByteArray.data_extract, List.extract_eq_take_drop]
            exact List.take_of_length_le (by simp)
          have h := run_slice_string_l (P := Tryd.prog) (w := W) 9 (BA l) Tryd.underlying9 .i64 ((m : Int) + 1) (by omega) (by rw [hbs]; omega)
          rw [show ((m : Int) + 1).toNat = m + 1 by omega, e] at h
          exact h
        have hw1 : IntKind.i64.wrap ((m : Int) + 0) = (m : Int) := IntWalk.i64_in _ (by have := HLL.out; omega)
        have hw0 : IntKind.i64.wrap (m : Int) = (m : Int) := IntWalk.i64_in _ (by have := HLL.out; omega)
        have hw2 : IntKind.i64.wrap ((m : Int) + 1) = (m : Int) + 1 := IntWalk.i64_in _ (by have := HLL.out; omega)
        have hk1 : IntKind.i64.wrap ((k : Int) + 1) = ((k + 1 : Nat) : Int) := by rw [Int.natCast_add]; exact IntWalk.i64_in _ (by have := HF6.out; omega)
        have hkN : (k : Int) < N := by have := HN.out; omega
        have HLT : Hid (k < F) := hlt
        have hk0 : (0 : Int) ≤ k := by omega
        obtain ⟨q, hq⟩ : ∃ q, F + 1 - k = q + 1 := ⟨F - k, by omega⟩
        have hst := HR.out
        rw [hq] at hst
        have hold : (acc.map strV ++ List.replicate (q + 1) (.string ⟨#[]⟩))[k]? = some (.string ⟨#[]⟩) := by
          rw [List.getElem?_append_right (by simp; omega)]
          simp [hak]
        have q1 := hst.cell hold
        have q2 := hst.free k
        have hset := hst.set k (strV (l.take m))
        rw [← hak, rt_set acc (l.take m) (.string ⟨#[]⟩) q, hak, show q = F + 1 - (k + 1) by omega] at hset
        have HNX : Hid (SpRel s0 F w.heap.size w (.string (BA (l.drop (m + 1)))) (.int .i64 ((k + 1 : Nat) : Int)) (W.setCell ⟨w.heap.size, k, none⟩ (strV (l.take m)))) :=
          ⟨k + 1, acc ++ [l.take m], l.drop (m + 1), rfl, rfl, by simp [hak], hlt, hnx, by simp; omega, hset, HB.out.trans ⟨rfl, rfl, rfl, by simp, fun b hb => heap_setCell_other _ _ _ _ (by show b ≠ w.heap.size; omega)⟩⟩
        unfold strV at HNX
        clear hst hold hset hq hnx hstep heq HIL hml hak hkf hlt hneg hll hbs
        go_wp2_with (go_at_call 52; refine (HIX.out _).mono ?_; rintro e w' ⟨rfl, rfl⟩)
        go_roundw
        case rel => exact HNX.out
        case measure => have := HLT.out; simp [RowKit.intOf]; omega
    · have hkFe : k = F := by omega
      have hlk : decide ((k : Int) < F) = false := decide_eq_false (by omega)
      have hlkn : decide (k < F) = false := decide_eq_false hlt
      have hall : acc ++ [l] = spl F s0 := by rw [← heq, hkFe, Nat.sub_self]; rfl
      clear heq hlt
      have hkF : k + 1 ≤ N := by have := HN.out; have := hkf; omega
      have hkF2 : (k : Int) < N := by omega
      have hk7 : (k : Int) ≤ 6 := by have := HF6.out; omega
      have hkF3 : IntKind.i64.wrap ((k : Int) + 1) = ((k + 1 : Nat) : Int) := by rw [Int.natCast_add]; exact IntWalk.i64_in _ (by have := HF6.out; omega)
      have hkF0 : (0 : Int) ≤ k := by omega
      obtain ⟨m, hm⟩ : ∃ m, F + 1 - k = m + 1 := ⟨F - k, by omega⟩
      have hst := HR.out
      rw [hm] at hst
      have hold : (acc.map strV ++ List.replicate (m + 1) (.string ⟨#[]⟩))[k]? = some (.string ⟨#[]⟩) := by
        rw [List.getElem?_append_right (by simp; omega)]
        simp [hak]
      have q1 := hst.cell hold
      have q2 := hst.free k
      have hset := hst.set k (strV l)
      rw [← hak, rt_set acc l (.string ⟨#[]⟩) m, hak] at hset
      have HSL : Hid (acc ++ [l] = spl F s0) := hall
      have HFIN : Hid (∀ i p, (spl F s0)[i]? = some p → (W.setCell ⟨w.heap.size, k, none⟩ (strV l)).cell? ⟨w.heap.size, i, none⟩ = some (strV p)) := fun i p hp => by
        refine hset.cell ?_
        rw [HSL.out]
        have hi := (List.getElem?_eq_some_iff.1 hp).1
        rw [List.getElem?_append_left (by simpa using hi), List.getElem?_map, hp]
        rfl
      have HBF : Hid (Below w.heap.size w (W.setCell ⟨w.heap.size, k, none⟩ (strV l))) := HB.out.trans ⟨rfl, rfl, rfl, by simp, fun b hb => heap_setCell_other _ _ _ _ (by show b ≠ w.heap.size; omega)⟩
      have hlen : (spl F s0).length = k + 1 := by rw [← HSL.out]; simp [hak]
      have hsl : ∀ W : World, (Instr.slice 60 (.slice (some ⟨w.heap.size, 0, none⟩) N N) none (some (.int .i64 ((k + 1 : Nat) : Int))) none).run Tryd.prog W = .ok (.slice (some ⟨w.heap.size, 0, none⟩) (k + 1) N) W := fun W => by
        rw [run_slice_h (P := Tryd.prog) W 60 (some ⟨w.heap.size, 0, none⟩) N N Tryd.underlying60 .i64 ((k + 1 : Nat) : Int) (by omega) (by omega)]
        go_simp
      have HLN := Lib.hid hlen
      unfold strV at HFIN HBF
      clear hkFe hst hold hset hm hall hlen hkf hak HSL
      go_wp2
      go_ret
      exact ⟨w.heap.size, by rw [HLN.out]; rfl, HFIN.out, HBF.out⟩
end Go.Proofs.YtkikghmigjkjiaaDoor.Sta
