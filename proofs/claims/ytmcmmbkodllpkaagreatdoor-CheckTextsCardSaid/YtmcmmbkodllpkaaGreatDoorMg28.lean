/- Maps from numbers to values of any kind, of the program's own making: look-ups, stores, how many. No condition. Transitions: the ids, each once, from the least on; whether one is among them. Condition: at most 2 to the power 40 ids. Transitions: a search through pairs: an id is met. No condition. Transitions: a search through pairs: an id is met. Condition: fewer than 2 to the power 40 ids were met. Transitions: a search through pairs: the next one that wasn't met. Condition: rows of at most 2 to the power 20 ids. Transitions: a search through pairs: an id is left. Condition: rows of at most 2 to the power 20 ids. Transitions: a search through pairs, and the row of ids on the way. No condition. Transitions: a search from the first id of the chapter's example. No condition. Transitions: an id's group, at the chapter's example. No condition. -/
import Derived.Test.YtmcmmbkodllpkaaGreatDoorMg04
import Derived.Test.YtmcmmbkodllpkaaGreatDoorMg02
import Derived.Below
import Derived.Maps.OwnSet
import Derived.Maps.OwnOps
import Derived.Maps.Views
import Derived.Test.YtmcmmbkodllpkaaGreatDoorMg27
import Derived.Test.YtmcmmbkodllpkaaGreatDoorMg21
import Derived.Test.YtmcmmbkodllpkaaGreatDoorMg16
import Derived.Lib.RowBridge
import Derived.Maps.AppendAt
import Derived.LoopN
namespace Go.Proofs.YtmcmmbkodllpkaaGreatDoor.Mpv

open Go.RowKit Go.PlainAid Go.Proofs.YtmcmmbkodllpkaaGreatDoor.Oct Go.Proofs.YtmcmmbkodllpkaaGreatDoor.Flt

set_option linter.unusedVariables false

set_option linter.unusedSimpArgs false

def rdV (v : Value) : Option (DataW Value × List MemPlace) := some (.held v, [])
def I64 (n : Int) : Prop := -9223372036854775808 ≤ n ∧ n ≤ 9223372036854775807
theorem wf_i64 {v : Int} (h : I64 v) : (Lit.int .i64 v).wf = true := by
  have h1 : (-9223372036854775808 : Int) ≤ v := h.1
  have h2 : v ≤ 9223372036854775807 := h.2
  show (decide (IntKind.i64.min ≤ v) && decide (v ≤ IntKind.i64.max)) = true
  have e1 : IntKind.i64.min = -9223372036854775808 := by decide
  have e2 : IntKind.i64.max = 9223372036854775807 := by decide
  rw [e1, e2]
  simp [h1, h2]
/-- A map of c entries in block b: what stands at each key, if anything does. -/
def MapV (w : World) (b c : Nat) (F : Int → Option Value) : Prop :=
  ∃ D : DataW Value, w.ownsMap Tryz.prog 3 rdV b c D ∧ Maps.Tidy D ∧ Maps.size D = c ∧ ∀ v, I64 v → Maps.has D (.int .i64 v) = (F v).isSome ∧ ∀ z, D.atKey (.int .i64 v) (.held z) = .held ((F v).getD z)
theorem own_size {H : Type} {P : Program} {k : TypeId} {R : Value → Option (DataW H × List MemPlace)} {w : World} {b n c : Nat} {D : DataW H} (h : w.ownsMap P k R b n D) (hs : Maps.size D = c) : w.ownsMap P k R b c D := by
  obtain ⟨es, clock, hb, F, _, hD⟩ := h
  refine ⟨es, clock, hb, F, ?_, hD⟩
  have e1 : Maps.size D = es.size := by rw [hD]; simp [Maps.size, Go.length_sorted]
  omega
theorem MapV.blk {w : World} {b c : Nat} {F : Int → Option Value} (h : MapV w b c F) : b < w.heap.size := by
  obtain ⟨D, h, _⟩ := h
  exact h.lt
theorem MapV.kept {w w' : World} {b c : Nat} {F : Int → Option Value} (h : MapV w b c F) (e : w'.heap[b]? = w.heap[b]?) : MapV w' b c F := by
  obtain ⟨D, ⟨es, clock, h1, h2⟩, h3⟩ := h
  exact ⟨D, ⟨es, clock, e.trans h1, h2⟩, h3⟩
theorem MapV.keep {w w' : World} {b c : Nat} {F : Int → Option Value} (h : MapV w b c F) (e : Below w.heap.size w w') : MapV w' b c F := h.kept (e.block _ h.blk)
theorem map_made (w : World) : MapV (w.alloc (.map #[] 0)) w.heap.size 0 (fun _ => none) :=
  ⟨.map [], World.ownsMap_made _ _ _ _, Maps.tidy_empty, rfl, fun _ _ => ⟨rfl, fun _ => rfl⟩⟩
section

variable {w : World} {b c : Nat} {F : Int → Option Value} {t e : TypeId} {z : Value}

set_option maxRecDepth 4000 in
theorem MapV.look (h : MapV w b c F) (ht : Tryz.prog.underlying t = some (.map 3 e)) (hz : (zeroValue e).run Tryz.prog w = .ok z w) (v : Int) (hv : I64 v) :
    (Instr.lookup t (.map (some b)) (.int .i64 v) false).run Tryz.prog w = .ok ((F v).getD z) w := by
  obtain ⟨D, h1, _, _, h3⟩ := h
  obtain ⟨x, ps, hrun, hx⟩ := h1.lookup (z := z) (Maps.int_keyed Tryz.underlying3) ht hz (zd := .held z) (zp := []) rfl (kl := .int .i64 v) (Maps.keyOf_int_mk Tryz.underlying3 (wf_i64 hv))
  rw [(h3 v hv).2 z] at hx
  have hx2 : (DataW.held x : DataW Value) = .held ((F v).getD z) := by
    have := Option.some.inj hx
    simp only [Prod.mk.injEq] at this
    exact this.1
  injection hx2 with hx3
  rw [hrun, hx3]
set_option maxRecDepth 4000 in
theorem MapV.look_ok (h : MapV w b c F) (ht : Tryz.prog.underlying t = some (.map 3 e)) (hz : (zeroValue e).run Tryz.prog w = .ok z w) (v : Int) (hv : I64 v) :
    (Instr.lookup t (.map (some b)) (.int .i64 v) true).run Tryz.prog w = .ok (.tuple #[(F v).getD z, .bool (F v).isSome]) w := by
  obtain ⟨D, h1, _, _, h3⟩ := h
  obtain ⟨x, ps, hrun, hx⟩ := h1.look_ok (z := z) (Maps.int_keyed Tryz.underlying3) ht hz (zd := .held z) (zp := []) rfl (kl := .int .i64 v) (Maps.keyOf_int_mk Tryz.underlying3 (wf_i64 hv))
  rw [(h3 v hv).2 z] at hx
  have hx2 : (DataW.held x : DataW Value) = .held ((F v).getD z) := by
    have := Option.some.inj hx
    simp only [Prod.mk.injEq] at this
    exact this.1
  injection hx2 with hx3
  rw [hrun, hx3, (h3 v hv).1]
theorem MapV.len (h : MapV w b c F) (ht : Tryz.prog.underlying t = some (.map 3 e)) (ty : TypeId) : (Builtin.len_ #[t] ty #[.map (some b)]).run Tryz.prog w = .ok (.int .i64 (c : Int)) w := by
  obtain ⟨D, h1, _, h4, _⟩ := h
  rw [h1.len ht ty, h4]
theorem MapV.put (h : MapV w b c F) (ht : Tryz.prog.underlying t = some (.map 3 e)) (v : Int) (hv : I64 v) (x : Value) (hc : c ≤ 1099511627776) :
    ∃ w', (Instr.mapUpdate t (.map (some b)) (.int .i64 v) x).run Tryz.prog w = .ok () w' ∧ MapV w' b (if (F v).isSome then c else c + 1) (fun i => if i = v then some x else F i) ∧ w.grownBy w' (some b) := by
  obtain ⟨D, h1, h2, h4, h3⟩ := h
  obtain ⟨w', hrun, ho, hg⟩ := h1.update (Maps.int_keyed Tryz.underlying3) ht (by unfold maxLen; omega) (kl := .int .i64 v) (Maps.keyOf_int_mk Tryz.underlying3 (wf_i64 hv)) (val := x) (d := .held x) (ps := []) rfl
  have hsz : Maps.size (D.put (.int .i64 v) (.held x)) = if (F v).isSome then c else c + 1 := by rw [Maps.size_put h2, (h3 v hv).1, h4]
  refine ⟨w', hrun, ⟨_, own_size ho hsz, h2.put (by simp [WideAt.IsKeyLit]) _, hsz, fun i hi => ?_⟩, hg⟩
  by_cases hiv : i = v
  · subst hiv
    refine ⟨?_, fun y => ?_⟩
    · rw [Maps.has_put_same h2.isMap (by simp [WideAt.IsKeyLit])]; simp
    · rw [Maps.atKey_put_same h2.isMap (by simp [WideAt.IsKeyLit])]; simp
  · refine ⟨?_, fun y => ?_⟩
    · rw [Maps.has_put_other (by simpa using hiv)]; simp [hiv, (h3 i hi).1]
    · rw [Maps.atKey_put_other (by simpa using hiv)]; simp [hiv, (h3 i hi).2 y]
end

theorem wpList_look {P : Program} (w : World) {ops : Array Oper} {rest : List Oper} {o : Oper} {a : Act} {Q : Exit → Act → World → Prop}
    (hg : o.guard = none) (m x : Operand) (t : TypeId) (ok : Bool) (hop : o.op = Op.lookup t m x ok) (v key mv : Value) (hm : a.eval m = mv) (hx : a.eval x = key)
    (hrun : (Instr.lookup t mv key ok).run P w = .ok v w) (hK : wpList P ops Q rest (a.put o.dst v) w) : wpList P ops Q (o :: rest) a w := by
  refine wpList_plain hg fun K' hK' => ?_
  unfold Oper.wp
  simp [execOp, hop, hm, hx, hrun, Result.andThen]
  exact hK' _ _ hK
theorem wpList_upd {P : Program} (w : World) {ops : Array Oper} {rest : List Oper} {o : Oper} {a : Act} {Q : Exit → Act → World → Prop}
    (hg : o.guard = none) (m x v : Operand) (t : TypeId) (hop : o.op = Op.mapUpdate t m x v) (mv key val : Value) (hm : a.eval m = mv) (hx : a.eval x = key) (hv : a.eval v = val) (w' : World)
    (hrun : (Instr.mapUpdate t mv key val).run P w = .ok () w') (hK : wpList P ops Q rest (a.put o.dst undef) w') : wpList P ops Q (o :: rest) a w := by
  refine wpList_plain hg fun K' hK' => ?_
  unfold Oper.wp
  simp [execOp, hop, hm, hx, hv, hrun, Result.andThen]
  exact hK' _ _ hK
end Go.Proofs.YtmcmmbkodllpkaaGreatDoor.Mpv
namespace Go.Proofs.YtmcmmbkodllpkaaGreatDoor.Rel

open Go.RowKit Go.PlainAid Go.Proofs.YtmcmmbkodllpkaaGreatDoor.Oct Go.Proofs.YtmcmmbkodllpkaaGreatDoor.Flt Go.Proofs.YtmcmmbkodllpkaaGreatDoor.Rdr Go.Proofs.YtmcmmbkodllpkaaGreatDoor.Args Go.Proofs.YtmcmmbkodllpkaaGreatDoor.Win

open Go.Proofs.YtmcmmbkodllpkaaGreatDoor.Pai (P2 pairC lessB riseB PairsAt less_any less10_any rise_take pairs_of)

open Go.Proofs.YtmcmmbkodllpkaaGreatDoor.Act (I64)

open Go.Proofs.YtmcmmbkodllpkaaGreatDoor.Prt (fb fb_step fb_end take_snoc)

set_option linter.unusedVariables false

set_option linter.unusedSimpArgs false

def risZ (ids : List Int) : List Int := Lib.compact (sortZ ids)
theorem risZ_mem (ids : List Int) (v : Int) : v ∈ risZ ids ↔ v ∈ ids := ((compact_rises _ (sortZ_rises _)).2 v).trans (sortZ_mem ids v)
theorem risZ_rises (ids : List Int) : (risZ ids).Pairwise (· ≤ ·) := (compact_rises _ (sortZ_rises _)).1.imp (fun h => Int.le_of_lt h)
theorem risZ_len (ids : List Int) : (risZ ids).length ≤ ids.length := by
  have h := Lib.compact_length_le (sortZ ids)
  rw [sortZ_len] at h
  exact h
theorem compact_nil : Lib.compact ([] : List Int) = [] := rfl
theorem memB_ris (ids : List Int) (v : Int) : memB (risZ ids) v = memB ids v := by
  unfold memB
  by_cases h : v ∈ ids
  · rw [decide_eq_true h, decide_eq_true ((risZ_mem ids v).2 h)]
  · rw [decide_eq_false h, decide_eq_false (fun k => h ((risZ_mem ids v).1 k))]
theorem searchR_any (B : Nat) (V : Value) (zs : List Int) (v : Int) (W : World) (h : OwnsZ B zs V W) (hr : zs.Pairwise (· ≤ ·)) (hl : zs.length ≤ 1099511627776) :
    Calls Tryz.prog 103 #[V, .int .i64 v] W fun e w' => ∃ i : Int, e = .returned (.tuple #[.int .i64 i, .bool (memB zs v)]) ∧ ∃ n, w' = W.drewN n := by
  have hm : zs.contains v = memB zs v := by
    unfold memB
    rw [List.contains_eq_mem]
  rcases h.1.2 with ⟨rfl, hz⟩ | ⟨g, cap, cur, rfl, hb, hg, r1, r2, r3, r4⟩
  · refine (Tryz.slices_BinarySearch_int_empty none 0 v W).mono ?_
    rintro e w' ⟨rfl, rfl⟩
    have : zs = [] := List.eq_nil_of_length_eq_zero hz
    rw [this] at hm ⊢
    refine ⟨0, ?_, 0, rfl⟩
    rw [← hm]; rfl
  · have hown := h.1
    have hc : ∀ j, j < zs.length → W.cell? ⟨g, 0 + j, none⟩ = some (.int .i64 (zs.getD j 0)) := fun j hj => by
      rw [Nat.zero_add, hown.cellAt j (by omega)]
      simp [List.getD, List.getElem?_eq_getElem hj]
    refine (Tryz.slices_BinarySearch_int g 0 zs.length cap zs v W (Nat.le_refl _) (by omega) hc (by rw [List.take_length]; exact hr)).mono ?_
    rintro e w' ⟨rfl, q, rfl⟩
    rw [List.take_length, hm]
    exact ⟨_, rfl, q, rfl⟩
theorem compact_none (w : World) : Calls Tryz.prog 106 #[.slice none 0 0] w fun e w' => e = .returned (.slice none 0 0) ∧ w = w' := by
  go_enter Tryz.func106, Tryz.ntmps106
  go_wp2
  go_ret
  exact ⟨rfl, rfl⟩
theorem compactZ_any (B : Nat) (V : Value) (zs : List Int) (W : World) (h : OwnsZ B zs V W) (hr : zs.Pairwise (· ≤ ·)) (hl : zs.length ≤ 1099511627776) :
    Calls Tryz.prog 106 #[V] W fun e w' => ∃ V', e = .returned V' ∧ OwnsZ B (Lib.compact zs) V' w' ∧ W.grownBy w' V.ownBlock := by
  rcases h.1.2 with ⟨rfl, hz⟩ | ⟨g, cap, cur, rfl, hb, hg, r1, r2, r3, r4⟩
  · have hz2 : zs = [] := List.eq_nil_of_length_eq_zero hz
    subst hz2
    refine (compact_none W).mono ?_
    rintro e w' ⟨rfl, rfl⟩
    exact ⟨_, rfl, h, ⟨rfl, rfl, rfl, Nat.le_refl _, fun _ _ _ => rfl⟩⟩
  · have hne : zs ≠ [] := fun e => by have := h.2.2 e; cases this
    refine (compact_own g cap B zs W h.1 (by omega)).mono ?_
    rintro e w' ⟨rfl, ho, hg2⟩
    refine ⟨_, rfl, ⟨ho, ⟨fun e => (by cases e), fun e => ?_⟩⟩, hg2⟩
    exfalso
    obtain ⟨x, hx⟩ := List.exists_mem_of_ne_nil zs hne
    have hm := ((compact_rises zs hr).2 x).2 hx
    rw [e] at hm
    cases hm
set_option maxRecDepth 4000 in
theorem rising_any (I : Option Addr) (li ci : Nat) (ids : List Int) (w : World) (hI : IntsBelow w.heap.size w (.slice I li ci) ids) (hids : ids.length ≤ 1099511627776) :
    Calls Tryz.prog 78 #[.slice I li ci] w fun e w' => ∃ V, e = .returned V ∧ OwnsZ w.heap.size (risZ ids) V w' ∧ Below w.heap.size w w' := by
  have hb2 : Below w.heap.size w (w.alloc (.cells #[.slice I li ci] 41)) := (Below.refl _ _).alloc (Nat.le_refl _) _
  have hs := sorted_any w.heap.size (.slice I li ci) ids (w.alloc (.cells #[.slice I li ci] 41)) hids (by rw [cell_of_row _ _ _ _ _ _ (heap_alloc_new w _)]; rfl) ((hI.below hb2).mono (by simp))
  have HS := Lib.hid hs
  have HB2 := Lib.hid hb2
  have HL : Hid (ids.length ≤ 1099511627776) := hids
  clear hs hb2 hI hids
  go_enter Tryz.func78, Tryz.ntmps78
  go_wp2_with fail
  refine (values_any I li ci _).mono ?_
  rintro e w1 ⟨rfl, rfl⟩
  go_wp2_with fail
  refine HS.out.mono ?_
  rintro e w3 ⟨V, rfl, ho3, hb3⟩
  have HO3 : Hid (OwnsZ w.heap.size (sortZ ids) V w3) := ⟨Go.Proofs.YtmcmmbkodllpkaaGreatDoor.Act.row_base ho3.1 HB2.out.size, ho3.2⟩
  have HB3 := Lib.hid (HB2.out.trans (hb3.mono HB2.out.size))
  have HC := Lib.hid (compactZ_any w.heap.size V (sortZ ids) w3 HO3.out (sortZ_rises ids) (by rw [sortZ_len]; exact HL.out))
  obtain ⟨VA, VN, VC, hV⟩ := HO3.out.slice
  subst hV
  clear ho3 hb3 HS
  go_wp2_with fail
  refine HC.out.mono ?_
  rintro e w4 ⟨V', rfl, ho4, hg4⟩
  have HO4 := Lib.hid ho4
  have HB4 := Lib.hid (HB3.out.grown hg4 HB3.out.size fun j hj => (HO3.out.1.lt j hj).1)
  clear ho4 hg4
  go_wp2
  go_ret
  exact ⟨_, rfl, HO4.out, HB4.out⟩
theorem rin_any (B : Nat) (V : Value) (zs : List Int) (v : Int) (w : World) (h : OwnsZ B zs V w) (hr : zs.Pairwise (· ≤ ·)) (hl : zs.length ≤ 1099511627776) :
    Calls Tryz.prog 79 #[V, .int .i64 v] w fun e w' => e = .returned (.bool (memB zs v)) ∧ ∃ n, w' = w.drewN n := by
  have HS := Lib.hid (searchR_any B V zs v w h hr hl)
  obtain ⟨VA, VN, VC, hV⟩ := h.slice
  subst hV
  obtain ⟨b, hb⟩ : ∃ b, memB zs v = b := ⟨_, rfl⟩
  rw [hb] at HS ⊢
  clear h hr hl hb
  go_enter Tryz.func79, Tryz.ntmps79
  go_wp2_with fail
  refine HS.out.mono ?_
  rintro e w2 ⟨i, rfl, n, rfl⟩
  go_wp2
  go_ret
  exact ⟨rfl, n, rfl⟩
end Go.Proofs.YtmcmmbkodllpkaaGreatDoor.Rel

namespace Go.Proofs.YtmcmmbkodllpkaaGreatDoor.Rel

open Go.RowKit Go.PlainAid Go.Proofs.YtmcmmbkodllpkaaGreatDoor.Oct Go.Proofs.YtmcmmbkodllpkaaGreatDoor.Flt Go.Proofs.YtmcmmbkodllpkaaGreatDoor.Rdr Go.Proofs.YtmcmmbkodllpkaaGreatDoor.Args Go.Proofs.YtmcmmbkodllpkaaGreatDoor.Win Go.Proofs.YtmcmmbkodllpkaaGreatDoor.Mpv

set_option linter.unusedVariables false

set_option linter.unusedSimpArgs false

/-- A map's word with one key more. -/
def upd {α : Type} (F : Int → Option α) (k : Int) (x : α) : Int → Option α := fun i => if i = k then some x else F i
def ints (F : Int → Option Int) : Int → Option Value := fun i => (F i).map (Value.int .i64)
theorem ints_upd (F : Int → Option Int) (k x : Int) : ints (upd F k x) = fun i => if i = k then some (.int .i64 x) else ints F i := by
  funext i
  unfold ints upd
  split <;> rfl
section

variable {W0 w w' : World} {N s mt mr mm mc mg cm cg : Nat} {FR : Int → Option Value} {FM FC FG : Int → Option Int} {O : List Int} {ob : Option Nat}

theorem grown_some {j : Nat} (hg : w.grownBy w' (some j)) (k : Nat) (hk : k < w.heap.size) (hne : k ≠ j) : w'.heap[k]? = w.heap[k]? := hg.block k hk (fun e => hne (Option.some.inj e))
theorem own_grown {j : Nat} {V : Value} {n : Nat} {xs : List Value} (h : w.ownsRow N 3 1 V n xs) (hg : w.grownBy w' (some j)) (hj : j < N) : w'.ownsRow N 3 1 V n xs :=
  h.kept hg (by
    cases hv : V.ownBlock with
    | none => exact .inl rfl
    | some k =>
      right
      intro e
      have := (h.lt k hv).1
      have := Option.some.inj e
      omega)
end

/-- Blocks at N and above, but the open row's, are as they were. -/
structure Rst (N : Nat) (ob : Option Nat) (w w' : World) : Prop where
  size : w.heap.size ≤ w'.heap.size
  block : ∀ k, N ≤ k → k < w.heap.size → ob ≠ some k → w'.heap[k]? = w.heap[k]?
theorem Rst.refl (N : Nat) (ob : Option Nat) (w : World) : Rst N ob w w := ⟨Nat.le_refl _, fun _ _ _ _ => rfl⟩
theorem Rst.trans {N : Nat} {ob : Option Nat} {a b c : World} (h : Rst N ob a b) (k : Rst N ob b c) : Rst N ob a c := ⟨Nat.le_trans h.size k.size, fun i h1 h2 h3 => (k.block i h1 (Nat.lt_of_lt_of_le h2 h.size) h3).trans (h.block i h1 h2 h3)⟩
theorem Rst.of_grown {N j : Nat} {ob : Option Nat} {w w' : World} (h : w.grownBy w' (some j)) (hj : j < N) : Rst N ob w w' := ⟨h.size, fun k h1 h2 _ => h.block k h2 (fun e => by have := Option.some.inj e; omega)⟩
theorem Rst.of_row {N : Nat} {ob : Option Nat} {w w' : World} (h : w.grownBy w' ob) : Rst N ob w w' := ⟨h.size, fun k _ h2 h3 => h.block k h2 (fun e => h3 e.symm)⟩
theorem Rst.of_below {N : Nat} {ob : Option Nat} {w w' : World} (h : Below w.heap.size w w') : Rst N ob w w' := ⟨h.size, fun k _ h2 _ => h.block k h2⟩
theorem Rst.of_cell {N s o : Nat} {ob : Option Nat} (w : World) (v : Value) (h : s < N) : Rst N ob w (w.setCell ⟨s, o, none⟩ v) := ⟨by simp, fun k h1 _ _ => heap_setCell_other w ⟨s, o, none⟩ k v (by show k ≠ s; omega)⟩
theorem infoInt2 : (Tryz.prog.info? 3).map (fun i => (i.zero, i.size, i.bytes)) = some (some (.int .i64 0), 1, 8) := by kernel_rfl
theorem int_i64 {n : Nat} (h : n ≤ 1099511627776) : Mpv.I64 (n : Int) := ⟨by omega, by omega⟩
end Go.Proofs.YtmcmmbkodllpkaaGreatDoor.Rel

namespace Go.Proofs.YtmcmmbkodllpkaaGreatDoor.Rel

open Go.RowKit Go.PlainAid Go.Proofs.YtmcmmbkodllpkaaGreatDoor.Oct Go.Proofs.YtmcmmbkodllpkaaGreatDoor.Flt Go.Proofs.YtmcmmbkodllpkaaGreatDoor.Rdr Go.Proofs.YtmcmmbkodllpkaaGreatDoor.Args Go.Proofs.YtmcmmbkodllpkaaGreatDoor.Win Go.Proofs.YtmcmmbkodllpkaaGreatDoor.Mpv

set_option linter.unusedVariables false

set_option linter.unusedSimpArgs false

section

variable {W0 w w' : World} {N s mt mr mm mc mg cm cg : Nat} {FR : Int → Option Value} {FM FC FG : Int → Option Int} {O : List Int} {ob : Option Nat}

theorem zero_int (w : World) : (zeroValue 3).run Tryz.prog w = .ok (.int .i64 0) w := by go_simp
/-- All of some ids have one group. -/
def grp (FG : Int → Option Int) (S : List Int) (v : Int) : Int → Option Int := fun i => if i ∈ S then some v else FG i
theorem grp_upd (FG : Int → Option Int) (S : List Int) (v x : Int) : upd (grp FG S v) x v = grp FG (x :: S) v := by
  funext i
  unfold upd grp
  by_cases h : i = x
  · simp [h]
  · by_cases h2 : i ∈ S <;> simp [h, h2]
theorem grp_nil (FG : Int → Option Int) (v : Int) : grp FG [] v = FG := by funext i; simp [grp]
def openLen (s : Nat) (wr : World) : Nat := match wr.cell? ⟨s, 4, none⟩ with | some (.slice _ n _) => n | _ => 0
end

end Go.Proofs.YtmcmmbkodllpkaaGreatDoor.Rel

namespace Go.Proofs.YtmcmmbkodllpkaaGreatDoor.Rel

open Go.RowKit Go.PlainAid Go.Proofs.YtmcmmbkodllpkaaGreatDoor.Oct Go.Proofs.YtmcmmbkodllpkaaGreatDoor.Flt Go.Proofs.YtmcmmbkodllpkaaGreatDoor.Rdr Go.Proofs.YtmcmmbkodllpkaaGreatDoor.Args Go.Proofs.YtmcmmbkodllpkaaGreatDoor.Win Go.Proofs.YtmcmmbkodllpkaaGreatDoor.Mpv

set_option linter.unusedVariables false

set_option linter.unusedSimpArgs false

/-- A row of numbers, as a slice says. -/
def RowAt (w : World) (A : Option Addr) (R : List Int) : Prop := ∀ j z, R[j]? = some z → ∃ y, A = some y ∧ w.cell? (y.add j) = some (.int .i64 z)
theorem RowAt.kept {w w' : World} {A : Option Addr} {R : List Int} (h : RowAt w A R) (b : Below w.heap.size w w') : RowAt w' A R := by
  intro j z hz
  obtain ⟨y, e, c⟩ := h j z hz
  exact ⟨y, e, (b.cell (Go.block_lt_of_cell c)).trans c⟩
theorem zero_ints (w : World) : (zeroValue 41).run Tryz.prog w = .ok (.slice none 0 0) w := by go_simp
theorem ints_get (F : Int → Option Int) (v : Int) : (ints F v).getD (.int .i64 0) = .int .i64 ((F v).getD 0) := by
  unfold ints
  cases F v <;> rfl
section

variable {W0 w w' : World} {N s mt mr mm mc mg cm cg : Nat} {FR : Int → Option Value} {FM FC FG : Int → Option Int} {O : List Int} {ob : Option Nat}

end

end Go.Proofs.YtmcmmbkodllpkaaGreatDoor.Rel

namespace Go.Proofs.YtmcmmbkodllpkaaGreatDoor.Rel

open Go.RowKit Go.PlainAid Go.Proofs.YtmcmmbkodllpkaaGreatDoor.Oct Go.Proofs.YtmcmmbkodllpkaaGreatDoor.Flt Go.Proofs.YtmcmmbkodllpkaaGreatDoor.Rdr Go.Proofs.YtmcmmbkodllpkaaGreatDoor.Args Go.Proofs.YtmcmmbkodllpkaaGreatDoor.Win Go.Proofs.YtmcmmbkodllpkaaGreatDoor.Mpv

set_option linter.unusedVariables false

set_option linter.unusedSimpArgs false

/-- What an id reaches, one id further. -/
def lv1 (FG : Int → Option Int) (id : Int) (F : Int → Option Int) (z : Int) : Int → Option Int := if (FG z).isSome then F else upd F id (min ((F id).getD 0) ((F z).getD 0))
def lv (FG : Int → Option Int) (id : Int) (F : Int → Option Int) (R : List Int) : Int → Option Int := R.foldl (lv1 FG id) F
theorem lv_some (FG : Int → Option Int) (id : Int) : ∀ (R : List Int) (F : Int → Option Int), (F id).isSome = true → (lv FG id F R id).isSome = true
  | [], F, h => h
  | z :: R, F, h => by
    refine lv_some FG id R _ ?_
    unfold lv1
    split
    · exact h
    · simp [upd]
section

variable {W0 w w' : World} {N s mt mr mm mc mg cm cg : Nat} {FR : Int → Option Value} {FM FC FG : Int → Option Int} {O : List Int} {ob : Option Nat}

end

end Go.Proofs.YtmcmmbkodllpkaaGreatDoor.Rel

namespace Go.Proofs.YtmcmmbkodllpkaaGreatDoor.Rel

open Go.RowKit Go.PlainAid Go.Proofs.YtmcmmbkodllpkaaGreatDoor.Oct Go.Proofs.YtmcmmbkodllpkaaGreatDoor.Flt Go.Proofs.YtmcmmbkodllpkaaGreatDoor.Rdr Go.Proofs.YtmcmmbkodllpkaaGreatDoor.Args Go.Proofs.YtmcmmbkodllpkaaGreatDoor.Win Go.Proofs.YtmcmmbkodllpkaaGreatDoor.Mpv

set_option linter.unusedVariables false

set_option linter.unusedSimpArgs false

section

variable {W0 w w' : World} {N s mt mr mm mc mg cm cg : Nat} {FR : Int → Option Value} {FM FC FG : Int → Option Int} {O : List Int} {ob : Option Nat}

variable {V : Value} {l : List Int} {ob0 : Option Nat} {wS : World}

theorem Rst.on {N : Nat} {ob ob0 : Option Nat} {a b c : World} (h : Rst N ob0 a b) (k : Rst N ob b c) (ho : ob = ob0 ∨ ∃ j, ob = some j ∧ a.heap.size ≤ j) : Rst N ob0 a c := by
  refine ⟨Nat.le_trans h.size k.size, fun i h1 h2 h3 => (k.block i h1 (Nat.lt_of_lt_of_le h2 h.size) ?_).trans (h.block i h1 h2 h3)⟩
  rcases ho with rfl | ⟨j, rfl, hj⟩
  · exact h3
  · intro e
    have := Option.some.inj e
    omega
theorem own_rst {n : Nat} {xs : List Value} (h : w.ownsRow N 3 1 V n xs) (hap : ∀ j, V.ownBlock = some j → ob ≠ some j) (r : Rst N ob w w') : w'.ownsRow N 3 1 V n xs := by
  refine ⟨h.1, ?_⟩
  rcases h.2 with h' | ⟨g, cap, cur, e, h1, h2, h3⟩
  · exact .inl h'
  · exact .inr ⟨g, cap, cur, e, h1, (r.block g h1 (lt_of_block h2) (hap g (by rw [e]; rfl))).trans h2, h3⟩
end

set_option maxRecDepth 8000 in
theorem tail_ints (g i n c : Nat) (h1 : i + 1 = n) (h2 : n ≤ c) (hc : True) : ∃ A' c', ∀ W : World, (Instr.slice 41 (.slice (some ⟨g, 0, none⟩) n c) (some (.int .i64 ((i : Int) + 1))) none none).run Tryz.prog W = .ok (.slice A' 0 c') W := by
  by_cases he : c = n
  · subst he
    refine ⟨some ⟨g, 0, none⟩, 0, fun W => ?_⟩
    rw [show (i : Int) + 1 = ((c : Nat) : Int) by omega, run_slice_l (P := Tryz.prog) W 41 (some ⟨g, 0, none⟩) c c rfl .i64 (c : Int) (by omega) (by omega)]
    go_simp
  · refine ⟨some ⟨g, n, none⟩, c - n, fun W => ?_⟩
    rw [show (i : Int) + 1 = ((n : Nat) : Int) by omega, run_slice_l (P := Tryz.prog) W 41 (some ⟨g, 0, none⟩) n c rfl .i64 (n : Int) (by omega) (by omega)]
    go_simp
end Go.Proofs.YtmcmmbkodllpkaaGreatDoor.Rel

namespace Go.Proofs.YtmcmmbkodllpkaaGreatDoor.Rel

open Go.RowKit Go.PlainAid Go.Proofs.YtmcmmbkodllpkaaGreatDoor.Oct Go.Proofs.YtmcmmbkodllpkaaGreatDoor.Flt Go.Proofs.YtmcmmbkodllpkaaGreatDoor.Rdr Go.Proofs.YtmcmmbkodllpkaaGreatDoor.Args Go.Proofs.YtmcmmbkodllpkaaGreatDoor.Win Go.Proofs.YtmcmmbkodllpkaaGreatDoor.Mpv

set_option linter.unusedVariables false

set_option linter.unusedSimpArgs false

def noI : Int → Option Int := fun _ => none
theorem small_i64 (n : Int) (h : 0 ≤ n ∧ n ≤ 100) : Mpv.I64 n := ⟨by omega, by omega⟩
section

variable {W0 w : World} {N s mt mr mm mc mg : Nat} {FR : Int → Option Value} {ob : Option Nat}

end

end Go.Proofs.YtmcmmbkodllpkaaGreatDoor.Rel

namespace Go.Proofs.YtmcmmbkodllpkaaGreatDoor.Rel

open Go.RowKit Go.PlainAid Go.Proofs.YtmcmmbkodllpkaaGreatDoor.Oct Go.Proofs.YtmcmmbkodllpkaaGreatDoor.Flt Go.Proofs.YtmcmmbkodllpkaaGreatDoor.Rdr Go.Proofs.YtmcmmbkodllpkaaGreatDoor.Args Go.Proofs.YtmcmmbkodllpkaaGreatDoor.Win Go.Proofs.YtmcmmbkodllpkaaGreatDoor.Mpv

set_option linter.unusedVariables false

set_option linter.unusedSimpArgs false

section

variable {W0 w : World} {N s mt mr mm mc mg cm cg : Nat} {FR : Int → Option Value} {FM FC FG : Int → Option Int} {O : List Int} {ob : Option Nat}

end

end Go.Proofs.YtmcmmbkodllpkaaGreatDoor.Rel
