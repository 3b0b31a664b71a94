
/- Maps keyed by pairs, of the program's own making; pairs as keys. No condition. -/

import Derived.Test.YtbfhcphjeiojmaaLatB

import Derived.DeepKeys5

namespace Go.Proofs.Ytbfhcphjeiojmaa.Lat

open Go.RowKit Go.PlainAid Go.Proofs.Ytbfhcphjeiojmaa.Args Go.Proofs.Ytbfhcphjeiojmaa.Cel Go.Proofs.Ytbfhcphjeiojmaa.Mpv

set_option linter.unusedVariables false

set_option linter.unusedSimpArgs false

theorem row_pair : (57 : TypeId) < Try.prog.types.size := of_decide_eq_true (by kernel_rfl)
theorem cells_pair : Try.prog.cellsOf 57 = 2 := by kernel_rfl
theorem cells_int : Try.prog.cellsOf 3 = 1 := by kernel_rfl
theorem pair_keyed : Maps.Keyed Try.prog 57 :=
  Maps.Keyed.of_law (deep_law_laid (P := Try.prog) (by kernel_rfl) (m := 3) (by omega) row_pair (by kernel_rfl) (by kernel_rfl))
theorem lits_int {d : Nat} {n : Int} (h : I64 n) : Try.prog.keyLits (d + 1) 3 [.int .i64 n] = some [.int .i64 n] := by
  simp [Program.keyLits, Try.underlying3, wf_i64 h]
theorem pair_key {a b : Int} (ha : I64 a) (hb : I64 b) : ∃ l, keyOf Try.prog 57 (.agg #[.int .i64 a, .int .i64 b]) = some l := by
  have hkt : Try.prog.keyType 57 = true := by kernel_rfl
  obtain ⟨m, hm⟩ : ∃ m, Try.prog.types.size = m + 1 := ⟨_, (Nat.succ_pred_eq_of_pos (Nat.lt_of_le_of_lt (Nat.zero_le _) row_pair)).symm⟩
  have hf : (Value.agg #[.int .i64 a, .int .i64 b]).formed Try.prog 57 = true := by
    simp [Value.formed, Try.underlying57, cells_pair]
  have hl : ∃ ls, Try.prog.keyLits (Try.prog.types.size + 1) 57 [.int .i64 a, .int .i64 b] = some ls := by
    rw [hm]
    simp [Program.keyLits, Try.underlying57, Try.underlying3, cells_pair, cells_int, wf_i64 ha, wf_i64 hb]
  obtain ⟨ls, hls⟩ := hl
  refine ⟨.string (keyBytes ls), ?_⟩
  have hc : (Value.agg #[.int .i64 a, .int .i64 b]).cells.toList = [.int .i64 a, .int .i64 b] := rfl
  unfold keyOf
  rw [hc, hls, hkt, hf]
  simp [Try.underlying57]
/-- What a pair reads as. -/
noncomputable def pkL (p : P2) : Lit := (keyOf Try.prog 57 (.agg #[.int .i64 p.f, .int .i64 p.t])).getD (.bool false)
def I2 (p : P2) : Prop := I64 p.f ∧ I64 p.t
theorem pk_key {p : P2} (h : I2 p) : keyOf Try.prog 57 (.agg #[.int .i64 p.f, .int .i64 p.t]) = some (pkL p) := by
  obtain ⟨l, hl⟩ := pair_key h.1 h.2
  unfold pkL
  rw [hl]; rfl
theorem pk_lit {p : P2} (h : I2 p) : WideAt.IsKeyLit (pkL p) := pair_keyed.key (pk_key h)
theorem pk_inj {p q : P2} (h : I2 p) (h2 : I2 q) (e : pkL p = pkL q) : p = q := by
  have h3 := pair_keyed.inj (pk_key h) ((pk_key h2).trans (by rw [e]))
  obtain ⟨a, b⟩ := p
  obtain ⟨c, d⟩ := q
  injection h3 with h4
  have h5 := congrArg Array.toList h4
  simp at h5
  rw [h5.1, h5.2]
/-- A map of c pairs in block b. -/
def MapP (w : World) (b c : Nat) (F : P2 → Option Value) : Prop :=
  ∃ D : DataW Value, w.ownsMap Try.prog 57 rdV b c D ∧ Maps.Tidy D ∧ Maps.size D = c ∧ ∀ v, I2 v → Maps.has D (pkL v) = (F v).isSome ∧ ∀ z, D.atKey (pkL v) (.held z) = .held ((F v).getD z)
theorem MapP.blk {w : World} {b c : Nat} {F : P2 → Option Value} (h : MapP w b c F) : b < w.heap.size := by
  obtain ⟨D, h, _⟩ := h
  exact h.lt
theorem MapP.kept {w w' : World} {b c : Nat} {F : P2 → Option Value} (h : MapP w b c F) (e : w'.heap[b]? = w.heap[b]?) : MapP w' b c F := by
  obtain ⟨D, ⟨es, clock, h1, h2⟩, h3⟩ := h
  exact ⟨D, ⟨es, clock, e.trans h1, h2⟩, h3⟩
theorem MapP.keep {w w' : World} {b c : Nat} {F : P2 → Option Value} (h : MapP w b c F) (e : Below w.heap.size w w') : MapP w' b c F := h.kept (e.block _ h.blk)
theorem mapp_made (w : World) : MapP (w.alloc (.map #[] 0)) w.heap.size 0 (fun _ => none) :=
  ⟨.map [], World.ownsMap_made _ _ _ _, Maps.tidy_empty, rfl, fun _ _ => ⟨rfl, fun _ => rfl⟩⟩
section

variable {w : World} {b c : Nat} {F : P2 → Option Value} {t e : TypeId} {z : Value}

set_option maxRecDepth 4000 in
theorem MapP.look (h : MapP w b c F) (ht : Try.prog.underlying t = some (.map 57 e)) (hz : (zeroValue e).run Try.prog w = .ok z w) (v : P2) (hv : I2 v) :
    (Instr.lookup t (.map (some b)) (.agg #[.int .i64 v.f, .int .i64 v.t]) false).run Try.prog w = .ok ((F v).getD z) w := by
  obtain ⟨D, h1, _, _, h3⟩ := h
  obtain ⟨x, ps, hrun, hx⟩ := h1.lookup (z := z) pair_keyed ht hz (zd := .held z) (zp := []) rfl (kl := pkL v) (pk_key hv)
  rw [(h3 v hv).2 z] at hx
  have hx2 : (DataW.held x : DataW Value) = .held ((F v).getD z) := by
    have := Option.some.inj hx
    simp only [Prod.mk.injEq] at this
    exact this.1
  injection hx2 with hx3
  rw [hrun, hx3]
theorem MapP.put (h : MapP w b c F) (ht : Try.prog.underlying t = some (.map 57 e)) (v : P2) (hv : I2 v) (x : Value) (hc : c ≤ 1099511627776) :
    ∃ w', (Instr.mapUpdate t (.map (some b)) (.agg #[.int .i64 v.f, .int .i64 v.t]) x).run Try.prog w = .ok () w' ∧ MapP w' b (if (F v).isSome then c else c + 1) (fun i => open Classical in if i = v then some x else F i) ∧ w.grownBy w' (some b) := by
  obtain ⟨D, h1, h2, h4, h3⟩ := h
  obtain ⟨w', hrun, ho, hg⟩ := h1.update pair_keyed ht (by unfold maxLen; omega) (kl := pkL v) (pk_key hv) (val := x) (d := .held x) (ps := []) rfl
  have hsz : Maps.size (D.put (pkL v) (.held x)) = if (F v).isSome then c else c + 1 := by rw [Maps.size_put h2, (h3 v hv).1, h4]
  refine ⟨w', hrun, ⟨_, own_size ho hsz, h2.put (pk_lit hv) _, hsz, fun i hi => ?_⟩, hg⟩
  by_cases hiv : i = v
  · subst hiv
    refine ⟨?_, fun y => ?_⟩
    · rw [Maps.has_put_same h2.isMap (pk_lit hv)]; simp
    · rw [Maps.atKey_put_same h2.isMap (pk_lit hv)]; simp
  · have hne : pkL i ≠ pkL v := fun e => hiv (pk_inj hi hv e)
    refine ⟨?_, fun y => ?_⟩
    · rw [Maps.has_put_other hne]; simp [hiv, (h3 i hi).1]
    · rw [Maps.atKey_put_other hne]; simp [hiv, (h3 i hi).2 y]
end

end Go.Proofs.Ytbfhcphjeiojmaa.Lat
