/- Transitions: the ids, each once, from the least on; whether one is among them. Condition: at most 2 to the power 40 ids. Transitions: a search through pairs: an id is met. No condition. Transitions: a search through pairs: an id is met. Condition: fewer than 2 to the power 40 ids were met. Transitions: a search through pairs: the next one that wasn't met. Condition: rows of at most 2 to the power 20 ids. Transitions: a search through pairs: an id is left. Condition: rows of at most 2 to the power 20 ids. Transitions: a search through pairs, and the row of ids on the way. No condition. Transitions: a search from the first id of the chapter's example. No condition. Transitions: an id's group, at the chapter's example. No condition. -/
import Derived.Test.YtnngldkpkhabeaaMg13
import Derived.Test.YtnngldkpkhabeaaMg23
import Derived.Test.YtnngldkpkhabeaaMg24
import Derived.Lib.RowBridge
import Derived.Test.YtnngldkpkhabeaaMg19
import Derived.Maps.AppendAt
import Derived.LoopN
namespace Go.Proofs.Ytnngldkpkhabeaa.Rel

open Go.RowKit Go.PlainAid Go.Proofs.Ytnngldkpkhabeaa.Oct Go.Proofs.Ytnngldkpkhabeaa.Flt Go.Proofs.Ytnngldkpkhabeaa.Rdr Go.Proofs.Ytnngldkpkhabeaa.Args Go.Proofs.Ytnngldkpkhabeaa.Win

open Go.Proofs.Ytnngldkpkhabeaa.Pai (P2 pairC lessB riseB PairsAt less_any less10_any rise_take pairs_of)

open Go.Proofs.Ytnngldkpkhabeaa.Act (I64)

open Go.Proofs.Ytnngldkpkhabeaa.Prt (fb fb_step fb_end take_snoc)

set_option linter.unusedVariables false

set_option linter.unusedSimpArgs false

def risZ (ids : List Int) : List Int := Lib.compact (sortZ ids)
theorem risZ_mem (ids : List Int) (v : Int) : v ∈ risZ ids ↔ v ∈ ids := ((compact_rises _ (sortZ_rises _)).2 v).trans (sortZ_mem ids v)
theorem risZ_rises (ids : List Int) : (risZ ids).Pairwise (· ≤ ·) := (compact_rises _ (sortZ_rises _)).1.imp (fun h => Int.le_of_lt h)
theorem risZ_len (ids : List Int) : (risZ ids).length ≤ ids.length := by
  have h := Lib.compact_length_le (sortZ ids)
  rw [sortZ_len] at h
  exact h
theorem compact_nil : Lib.compact ([] : List Int) = [] := rfl
theorem memB_ris (ids : List Int) (v : Int) : memB (risZ ids) v = memB ids v := by
  unfold memB
  by_cases h : v ∈ ids
  · rw [decide_eq_true h, decide_eq_true ((risZ_mem ids v).2 h)]
  · rw [decide_eq_false h, decide_eq_false (fun k => h ((risZ_mem ids v).1 k))]
theorem searchR_any (B : Nat) (V : Value) (zs : List Int) (v : Int) (W : World) (h : OwnsZ B zs V W) (hr : zs.Pairwise (· ≤ ·)) (hl : zs.length ≤ 1099511627776) :
    Calls Try.prog 63 #[V, .int .i64 v] W fun e w' => ∃ i : Int, e = .returned (.tuple #[.int .i64 i, .bool (memB zs v)]) ∧ ∃ n, w' = W.drewN n := by
  have hm : zs.contains v = memB zs v := by
    unfold memB
    rw [List.contains_eq_mem]
  rcases h.1.2 with ⟨rfl, hz⟩ | ⟨g, cap, cur, rfl, hb, hg, r1, r2, r3, r4⟩
  · refine (Try.slices_BinarySearch_int_empty none 0 v W).mono ?_
    rintro e w' ⟨rfl, rfl⟩
    have : zs = [] := List.eq_nil_of_length_eq_zero hz
    rw [this] at hm ⊢
    refine ⟨0, ?_, 0, rfl⟩
    rw [← hm]; rfl
  · have hown := h.1
    have hc : ∀ j, j < zs.length → W.cell? ⟨g, 0 + j, none⟩ = some (.int .i64 (zs.getD j 0)) := fun j hj => by
      rw [Nat.zero_add, hown.cellAt j (by omega)]
      simp [List.getD, List.getElem?_eq_getElem hj]
    refine (Try.slices_BinarySearch_int g 0 zs.length cap zs v W (Nat.le_refl _) (by omega) hc (by rw [List.take_length]; exact hr)).mono ?_
    rintro e w' ⟨rfl, q, rfl⟩
    rw [List.take_length, hm]
    exact ⟨_, rfl, q, rfl⟩
theorem compact_none (w : World) : Calls Try.prog 60 #[.slice none 0 0] w fun e w' => e = .returned (.slice none 0 0) ∧ w = w' := by
  go_enter Try.func60, Try.ntmps60
  go_wp2
  go_ret
  exact ⟨rfl, rfl⟩
theorem compactZ_any (B : Nat) (V : Value) (zs : List Int) (W : World) (h : OwnsZ B zs V W) (hr : zs.Pairwise (· ≤ ·)) (hl : zs.length ≤ 1099511627776) :
    Calls Try.prog 60 #[V] W fun e w' => ∃ V', e = .returned V' ∧ OwnsZ B (Lib.compact zs) V' w' ∧ W.grownBy w' V.ownBlock := by
  rcases h.1.2 with ⟨rfl, hz⟩ | ⟨g, cap, cur, rfl, hb, hg, r1, r2, r3, r4⟩
  · have hz2 : zs = [] := List.eq_nil_of_length_eq_zero hz
    subst hz2
    refine (compact_none W).mono ?_
    rintro e w' ⟨rfl, rfl⟩
    exact ⟨_, rfl, h, ⟨rfl, rfl, rfl, Nat.le_refl _, fun _ _ _ => rfl⟩⟩
  · have hne : zs ≠ [] := fun e => by have := h.2.2 e; cases this
    refine (compact_own g cap B zs W h.1 (by omega)).mono ?_
    rintro e w' ⟨rfl, ho, hg2⟩
    refine ⟨_, rfl, ⟨ho, ⟨fun e => (by cases e), fun e => ?_⟩⟩, hg2⟩
    exfalso
    obtain ⟨x, hx⟩ := List.exists_mem_of_ne_nil zs hne
    have hm := ((compact_rises zs hr).2 x).2 hx
    rw [e] at hm
    cases hm
set_option maxRecDepth 4000 in
theorem rising_any (I : Option Addr) (li ci : Nat) (ids : List Int) (w : World) (hI : IntsBelow w.heap.size w (.slice I li ci) ids) (hids : ids.length ≤ 1099511627776) :
    Calls Try.prog 41 #[.slice I li ci] w fun e w' => ∃ V, e = .returned V ∧ OwnsZ w.heap.size (risZ ids) V w' ∧ Below w.heap.size w w' := by
  have hb2 : Below w.heap.size w (w.alloc (.cells #[.slice I li ci] 29)) := (Below.refl _ _).alloc (Nat.le_refl _) _
  have hs := sorted_any w.heap.size (.slice I li ci) ids (w.alloc (.cells #[.slice I li ci] 29)) hids (by rw [cell_of_row _ _ _ _ _ _ (heap_alloc_new w _)]; rfl) ((hI.below hb2).mono (by simp))
  have HS := Lib.hid hs
  have HB2 := Lib.hid hb2
  have HL : Hid (ids.length ≤ 1099511627776) := hids
  clear hs hb2 hI hids
  go_enter Try.func41, Try.ntmps41
  go_wp2_with fail
  refine (values_any I li ci _).mono ?_
  rintro e w1 ⟨rfl, rfl⟩
  go_wp2_with fail
  refine HS.out.mono ?_
  rintro e w3 ⟨V, rfl, ho3, hb3⟩
  have HO3 : Hid (OwnsZ w.heap.size (sortZ ids) V w3) := ⟨Go.Proofs.Ytnngldkpkhabeaa.Act.row_base ho3.1 HB2.out.size, ho3.2⟩
  have HB3 := Lib.hid (HB2.out.trans (hb3.mono HB2.out.size))
  have HC := Lib.hid (compactZ_any w.heap.size V (sortZ ids) w3 HO3.out (sortZ_rises ids) (by rw [sortZ_len]; exact HL.out))
  obtain ⟨VA, VN, VC, hV⟩ := HO3.out.slice
  subst hV
  clear ho3 hb3 HS
  go_wp2_with fail
  refine HC.out.mono ?_
  rintro e w4 ⟨V', rfl, ho4, hg4⟩
  have HO4 := Lib.hid ho4
  have HB4 := Lib.hid (HB3.out.grown hg4 HB3.out.size fun j hj => (HO3.out.1.lt j hj).1)
  clear ho4 hg4
  go_wp2
  go_ret
  exact ⟨_, rfl, HO4.out, HB4.out⟩
theorem rin_any (B : Nat) (V : Value) (zs : List Int) (v : Int) (w : World) (h : OwnsZ B zs V w) (hr : zs.Pairwise (· ≤ ·)) (hl : zs.length ≤ 1099511627776) :
    Calls Try.prog 43 #[V, .int .i64 v] w fun e w' => e = .returned (.bool (memB zs v)) ∧ ∃ n, w' = w.drewN n := by
  have HS := Lib.hid (searchR_any B V zs v w h hr hl)
  obtain ⟨VA, VN, VC, hV⟩ := h.slice
  subst hV
  obtain ⟨b, hb⟩ : ∃ b, memB zs v = b := ⟨_, rfl⟩
  rw [hb] at HS ⊢
  clear h hr hl hb
  go_enter Try.func43, Try.ntmps43
  go_wp2_with fail
  refine HS.out.mono ?_
  rintro e w2 ⟨i, rfl, n, rfl⟩
  go_wp2
  go_ret
  exact ⟨rfl, n, rfl⟩
end Go.Proofs.Ytnngldkpkhabeaa.Rel

namespace Go.Proofs.Ytnngldkpkhabeaa.Rel

open Go.RowKit Go.PlainAid Go.Proofs.Ytnngldkpkhabeaa.Oct Go.Proofs.Ytnngldkpkhabeaa.Flt Go.Proofs.Ytnngldkpkhabeaa.Rdr Go.Proofs.Ytnngldkpkhabeaa.Args Go.Proofs.Ytnngldkpkhabeaa.Win Go.Proofs.Ytnngldkpkhabeaa.Mpv

set_option linter.unusedVariables false

set_option linter.unusedSimpArgs false

/-- A map's word with one key more. -/
def upd {α : Type} (F : Int → Option α) (k : Int) (x : α) : Int → Option α := fun i => if i = k then some x else F i
def ints (F : Int → Option Int) : Int → Option Value := fun i => (F i).map (Value.int .i64)
theorem ints_upd (F : Int → Option Int) (k x : Int) : ints (upd F k x) = fun i => if i = k then some (.int .i64 x) else ints F i := by
  funext i
  unfold ints upd
  split <;> rfl
/-- A search: its box s, its maps; all else below N is as it was in W0. -/
structure SS (W0 : World) (N s mt mr mm mc mg cm cg : Nat) (FR : Int → Option Value) (FM FC FG : Int → Option Int) (O : List Int) (ob : Option Nat) (w : World) : Prop where
  box : ∃ V, V.ownBlock = ob ∧ w.heap[s]? = some (.cells #[.map (some mt), .map (some mr), .map (some mm), .map (some mc), V, .map (some mg)] 82 (0, 0)) ∧ w.ownsRow N 3 1 V O.length (O.map (Value.int .i64))
  rest : ∃ c, c ≤ 1099511627776 ∧ MapV w mr c FR
  met : MapV w mm cm (ints FM)
  reach : ∃ c, c ≤ cm ∧ MapV w mc c (ints FC)
  group : ∃ c, c ≤ cg ∧ MapV w mg c (ints FG)
  still : ∀ k, k < N → k ≠ s → k ≠ mr → k ≠ mm → k ≠ mc → k ≠ mg → w.heap[k]? = W0.heap[k]?
  ne : s ≠ mt ∧ s ≠ mr ∧ s ≠ mm ∧ s ≠ mc ∧ s ≠ mg ∧ mt ≠ mr ∧ mt ≠ mm ∧ mt ≠ mc ∧ mt ≠ mg ∧ mr ≠ mm ∧ mr ≠ mc ∧ mr ≠ mg ∧ mm ≠ mc ∧ mm ≠ mg ∧ mc ≠ mg
  lt : s < N ∧ mt < N ∧ mr < N ∧ mm < N ∧ mc < N ∧ mg < N
  os : w.os = W0.os ∧ w.tape = W0.tape ∧ w.output = W0.output ∧ N ≤ w.heap.size
section

variable {W0 w w' : World} {N s mt mr mm mc mg cm cg : Nat} {FR : Int → Option Value} {FM FC FG : Int → Option Int} {O : List Int} {ob : Option Nat}

theorem SS.keep (f : SS W0 N s mt mr mm mc mg cm cg FR FM FC FG O ob w) (b : Below w.heap.size w w') : SS W0 N s mt mr mm mc mg cm cg FR FM FC FG O ob w' := by
  obtain ⟨V, hob, h1, h2⟩ := f.box
  obtain ⟨c1, g1, h3⟩ := f.rest
  obtain ⟨c2, g2, h4⟩ := f.reach
  obtain ⟨c3, g3, h5⟩ := f.group
  obtain ⟨o1, o2, o3, o4⟩ := f.os
  exact ⟨⟨V, hob, (b.block _ (lt_of_block h1)).trans h1, owns_kept h2 b⟩, ⟨c1, g1, h3.keep b⟩, f.met.keep b, ⟨c2, g2, h4.keep b⟩, ⟨c3, g3, h5.keep b⟩, fun k hk n1 n2 n3 n4 n5 => (b.block k (by omega)).trans (f.still k hk n1 n2 n3 n4 n5), f.ne, f.lt, ⟨b.os.trans o1, b.tape.trans o2, b.output.trans o3, Nat.le_trans o4 b.size⟩⟩
theorem grown_some {j : Nat} (hg : w.grownBy w' (some j)) (k : Nat) (hk : k < w.heap.size) (hne : k ≠ j) : w'.heap[k]? = w.heap[k]? := hg.block k hk (fun e => hne (Option.some.inj e))
theorem own_grown {j : Nat} {V : Value} {n : Nat} {xs : List Value} (h : w.ownsRow N 3 1 V n xs) (hg : w.grownBy w' (some j)) (hj : j < N) : w'.ownsRow N 3 1 V n xs :=
  h.kept hg (by
    cases hv : V.ownBlock with
    | none => exact .inl rfl
    | some k =>
      right
      intro e
      have := (h.lt k hv).1
      have := Option.some.inj e
      omega)
theorem SS.setM (f : SS W0 N s mt mr mm mc mg cm cg FR FM FC FG O ob w) {F : Int → Option Int} {c : Nat} (h : MapV w' mm c (ints F)) (hc : cm ≤ c) (hg : w.grownBy w' (some mm)) : SS W0 N s mt mr mm mc mg c cg FR F FC FG O ob w' := by
  obtain ⟨V, hob, h1, h2⟩ := f.box
  obtain ⟨c1, g1, h3⟩ := f.rest
  obtain ⟨c2, g2, h4⟩ := f.reach
  obtain ⟨c3, g3, h5⟩ := f.group
  obtain ⟨o1, o2, o3, o4⟩ := f.os
  have hne := f.ne
  have hlt := f.lt
  have hk : ∀ k, k < w.heap.size → k ≠ mm → w'.heap[k]? = w.heap[k]? := grown_some hg
  exact ⟨⟨V, hob, (hk _ (by omega) (by omega)).trans h1, own_grown h2 hg (by omega)⟩, ⟨c1, g1, h3.kept (hk _ (by omega) (by omega))⟩, h, ⟨c2, by omega, h4.kept (hk _ (by omega) (by omega))⟩, ⟨c3, g3, h5.kept (hk _ (by omega) (by omega))⟩, fun k hk' n1 n2 n3 n4 n5 => (hk k (by omega) n3).trans (f.still k hk' n1 n2 n3 n4 n5), hne, hlt, ⟨hg.os.trans o1, hg.tape.trans o2, hg.output.trans o3, Nat.le_trans o4 hg.size⟩⟩
theorem SS.setC (f : SS W0 N s mt mr mm mc mg cm cg FR FM FC FG O ob w) {F : Int → Option Int} {c : Nat} (h : MapV w' mc c (ints F)) (hc : c ≤ cm) (hg : w.grownBy w' (some mc)) : SS W0 N s mt mr mm mc mg cm cg FR FM F FG O ob w' := by
  obtain ⟨V, hob, h1, h2⟩ := f.box
  obtain ⟨c1, g1, h3⟩ := f.rest
  obtain ⟨c3, g3, h5⟩ := f.group
  obtain ⟨o1, o2, o3, o4⟩ := f.os
  have hne := f.ne
  have hlt := f.lt
  have hk : ∀ k, k < w.heap.size → k ≠ mc → w'.heap[k]? = w.heap[k]? := grown_some hg
  exact ⟨⟨V, hob, (hk _ (by omega) (by omega)).trans h1, own_grown h2 hg (by omega)⟩, ⟨c1, g1, h3.kept (hk _ (by omega) (by omega))⟩, f.met.kept (hk _ (by omega) (by omega)), ⟨c, hc, h⟩, ⟨c3, g3, h5.kept (hk _ (by omega) (by omega))⟩, fun k hk' n1 n2 n3 n4 n5 => (hk k (by omega) n4).trans (f.still k hk' n1 n2 n3 n4 n5), hne, hlt, ⟨hg.os.trans o1, hg.tape.trans o2, hg.output.trans o3, Nat.le_trans o4 hg.size⟩⟩
theorem SS.setG (f : SS W0 N s mt mr mm mc mg cm cg FR FM FC FG O ob w) {F : Int → Option Int} {c cg' : Nat} (h : MapV w' mg c (ints F)) (hc : c ≤ cg') (hg : w.grownBy w' (some mg)) : SS W0 N s mt mr mm mc mg cm cg' FR FM FC F O ob w' := by
  obtain ⟨V, hob, h1, h2⟩ := f.box
  obtain ⟨c1, g1, h3⟩ := f.rest
  obtain ⟨c2, g2, h4⟩ := f.reach
  obtain ⟨o1, o2, o3, o4⟩ := f.os
  have hne := f.ne
  have hlt := f.lt
  have hk : ∀ k, k < w.heap.size → k ≠ mg → w'.heap[k]? = w.heap[k]? := grown_some hg
  exact ⟨⟨V, hob, (hk _ (by omega) (by omega)).trans h1, own_grown h2 hg (by omega)⟩, ⟨c1, g1, h3.kept (hk _ (by omega) (by omega))⟩, f.met.kept (hk _ (by omega) (by omega)), ⟨c2, g2, h4.kept (hk _ (by omega) (by omega))⟩, ⟨c, hc, h⟩, fun k hk' n1 n2 n3 n4 n5 => (hk k (by omega) n5).trans (f.still k hk' n1 n2 n3 n4 n5), hne, hlt, ⟨hg.os.trans o1, hg.tape.trans o2, hg.output.trans o3, Nat.le_trans o4 hg.size⟩⟩
theorem SS.setR (f : SS W0 N s mt mr mm mc mg cm cg FR FM FC FG O ob w) {F : Int → Option Value} {c : Nat} (h : MapV w' mr c F) (hc : c ≤ 1099511627776) (hg : w.grownBy w' (some mr)) : SS W0 N s mt mr mm mc mg cm cg F FM FC FG O ob w' := by
  obtain ⟨V, hob, h1, h2⟩ := f.box
  obtain ⟨c2, g2, h4⟩ := f.reach
  obtain ⟨c3, g3, h5⟩ := f.group
  obtain ⟨o1, o2, o3, o4⟩ := f.os
  have hne := f.ne
  have hlt := f.lt
  have hk : ∀ k, k < w.heap.size → k ≠ mr → w'.heap[k]? = w.heap[k]? := grown_some hg
  exact ⟨⟨V, hob, (hk _ (by omega) (by omega)).trans h1, own_grown h2 hg (by omega)⟩, ⟨c, hc, h⟩, f.met.kept (hk _ (by omega) (by omega)), ⟨c2, g2, h4.kept (hk _ (by omega) (by omega))⟩, ⟨c3, g3, h5.kept (hk _ (by omega) (by omega))⟩, fun k hk' n1 n2 n3 n4 n5 => (hk k (by omega) n2).trans (f.still k hk' n1 n2 n3 n4 n5), hne, hlt, ⟨hg.os.trans o1, hg.tape.trans o2, hg.output.trans o3, Nat.le_trans o4 hg.size⟩⟩
/-- The open row is another one, behind all else. -/
theorem SS.setO (f : SS W0 N s mt mr mm mc mg cm cg FR FM FC FG O ob w) {V V' : Value} {O' : List Int} (hb : w.heap[s]? = some (.cells #[.map (some mt), .map (some mr), .map (some mm), .map (some mc), V, .map (some mg)] 82 (0, 0))) (hr : ∀ j, V.ownBlock = some j → N ≤ j) (ho : w'.ownsRow N 3 1 V' O'.length (O'.map (Value.int .i64))) (hg : w.grownBy w' V.ownBlock) : SS W0 N s mt mr mm mc mg cm cg FR FM FC FG O' V'.ownBlock (w'.setCell ⟨s, 4, none⟩ V') := by
  obtain ⟨c1, g1, h3⟩ := f.rest
  obtain ⟨c2, g2, h4⟩ := f.reach
  obtain ⟨c3, g3, h5⟩ := f.group
  obtain ⟨o1, o2, o3, o4⟩ := f.os
  have hne := f.ne
  have hlt := f.lt
  have hk : ∀ k, k < N → w'.heap[k]? = w.heap[k]? := fun k hk => hg.block k (by omega) (fun e => by have := hr k e.symm; omega)
  have hs : ∀ k, k ≠ s → (w'.setCell ⟨s, 4, none⟩ V').heap[k]? = w'.heap[k]? := fun k hk => heap_setCell_other w' ⟨s, 4, none⟩ k V' hk
  have hbx : w'.heap[s]? = some (.cells #[.map (some mt), .map (some mr), .map (some mm), .map (some mc), V, .map (some mg)] 82 (0, 0)) := (hk s (by omega)).trans hb
  have hj : ∀ k, k < N → k ≠ s → (w'.setCell ⟨s, 4, none⟩ V').heap[k]? = w.heap[k]? := fun k h1 h2 => (hs k h2).trans (hk k h1)
  refine ⟨⟨V', rfl, ?_, ownsRow_setCell_below ho (by show s < N; omega) V'⟩, ⟨c1, g1, h3.kept (hj _ (by omega) (by omega))⟩, f.met.kept (hj _ (by omega) (by omega)), ⟨c2, g2, h4.kept (hj _ (by omega) (by omega))⟩, ⟨c3, g3, h5.kept (hj _ (by omega) (by omega))⟩, fun k hk' n1 n2 n3 n4 n5 => (hj k hk' n1).trans (f.still k hk' n1 n2 n3 n4 n5), hne, hlt, ⟨hg.os.trans o1, hg.tape.trans o2, hg.output.trans o3, ?_⟩⟩
  · rw [setCell_eq_setRow w' s 4 _ _ (0, 0) _ hbx]
    exact setRow_heap _ _ _ _ _ _ hbx
  · have := hg.size
    simp
    omega
end

/-- Blocks at N and above, but the open row's, are as they were. -/
structure Rst (N : Nat) (ob : Option Nat) (w w' : World) : Prop where
  size : w.heap.size ≤ w'.heap.size
  block : ∀ k, N ≤ k → k < w.heap.size → ob ≠ some k → w'.heap[k]? = w.heap[k]?
theorem Rst.refl (N : Nat) (ob : Option Nat) (w : World) : Rst N ob w w := ⟨Nat.le_refl _, fun _ _ _ _ => rfl⟩
theorem Rst.trans {N : Nat} {ob : Option Nat} {a b c : World} (h : Rst N ob a b) (k : Rst N ob b c) : Rst N ob a c := ⟨Nat.le_trans h.size k.size, fun i h1 h2 h3 => (k.block i h1 (Nat.lt_of_lt_of_le h2 h.size) h3).trans (h.block i h1 h2 h3)⟩
theorem Rst.of_grown {N j : Nat} {ob : Option Nat} {w w' : World} (h : w.grownBy w' (some j)) (hj : j < N) : Rst N ob w w' := ⟨h.size, fun k h1 h2 _ => h.block k h2 (fun e => by have := Option.some.inj e; omega)⟩
theorem Rst.of_row {N : Nat} {ob : Option Nat} {w w' : World} (h : w.grownBy w' ob) : Rst N ob w w' := ⟨h.size, fun k _ h2 h3 => h.block k h2 (fun e => h3 e.symm)⟩
theorem Rst.of_below {N : Nat} {ob : Option Nat} {w w' : World} (h : Below w.heap.size w w') : Rst N ob w w' := ⟨h.size, fun k _ h2 _ => h.block k h2⟩
theorem Rst.of_cell {N s o : Nat} {ob : Option Nat} (w : World) (v : Value) (h : s < N) : Rst N ob w (w.setCell ⟨s, o, none⟩ v) := ⟨by simp, fun k h1 _ _ => heap_setCell_other w ⟨s, o, none⟩ k v (by show k ≠ s; omega)⟩
theorem infoInt2 : (Try.prog.info? 3).map (fun i => (i.zero, i.size, i.bytes)) = some (some (.int .i64 0), 1, 8) := by kernel_rfl
theorem int_i64 {n : Nat} (h : n ≤ 1099511627776) : Mpv.I64 (n : Int) := ⟨by omega, by omega⟩
end Go.Proofs.Ytnngldkpkhabeaa.Rel

namespace Go.Proofs.Ytnngldkpkhabeaa.Rel

open Go.RowKit Go.PlainAid Go.Proofs.Ytnngldkpkhabeaa.Oct Go.Proofs.Ytnngldkpkhabeaa.Flt Go.Proofs.Ytnngldkpkhabeaa.Rdr Go.Proofs.Ytnngldkpkhabeaa.Args Go.Proofs.Ytnngldkpkhabeaa.Win Go.Proofs.Ytnngldkpkhabeaa.Mpv

set_option linter.unusedVariables false

set_option linter.unusedSimpArgs false

section

variable {W0 w w' : World} {N s mt mr mm mc mg cm cg : Nat} {FR : Int → Option Value} {FM FC FG : Int → Option Int} {O : List Int} {ob : Option Nat}

theorem s_cells {V0 V1 V2 V3 V V5 : Value} (hb : w.heap[s]? = some (.cells #[V0, V1, V2, V3, V, V5] 82 (0, 0))) :
    w.cell? ⟨s, 0, none⟩ = some V0 ∧ w.cell? ⟨s, 1, none⟩ = some V1 ∧ w.cell? ⟨s, 2, none⟩ = some V2 ∧ w.cell? ⟨s, 3, none⟩ = some V3 ∧ w.cell? ⟨s, 4, none⟩ = some V ∧ w.cell? ⟨s, 5, none⟩ = some V5 := by
  refine ⟨?_, ?_, ?_, ?_, ?_, ?_⟩
  all_goals (rw [cell_of_row w _ _ _ _ _ hb]; rfl)
theorem zero_int (w : World) : (zeroValue 3).run Try.prog w = .ok (.int .i64 0) w := by go_simp
def MtPost (W0 : World) (N s mt mr mm mc mg cm cg : Nat) (FR : Int → Option Value) (FM FC FG : Int → Option Int) (O : List Int) (ob : Option Nat) (w w' : World) : Prop :=
  ∃ ob', (ob' = ob ∨ ∃ j, ob' = some j ∧ w.heap.size ≤ j) ∧ SS W0 N s mt mr mm mc mg cm cg FR FM FC FG O ob' w' ∧ Rst N ob w w'
set_option maxRecDepth 8000 in
set_option maxHeartbeats 3200000 in
theorem meet_any (f : SS W0 N s mt mr mm mc mg cm cg FR FM FC FG O ob w) (id : Int) (hid : Mpv.I64 id) (hn : FM id = none) (hc : cm ≤ 1000000) (hO : O.length ≤ 1000000) :
    Calls Try.prog 84 #[.pointer (some ⟨s, 0, none⟩), .int .i64 id] w fun e w' => e = .returned (.tuple #[]) ∧ MtPost W0 N s mt mr mm mc mg (cm + 1) cg FR (upd FM id ((cm : Int) + 1)) (upd FC id ((cm : Int) + 1)) FG (O ++ [id]) ob w w' := by
  obtain ⟨i0, hi, hz0, hz1, hz2⟩ := info_parts infoInt2
  obtain ⟨V, rfl, hb, ho⟩ := f.box
  obtain ⟨y0, y1, y2, y3, y4, y5⟩ := s_cells hb
  have hlen := f.met.len Try.underlying59 3
  have hs1 : IntKind.i64.wrap ((cm : Int) + 1) = (cm : Int) + 1 := IntWalk.i64_in _ (by omega)
  have hmi : ints FM id = none := by unfold ints; rw [hn]; rfl
  obtain ⟨w1, hr1, hm1, hg1⟩ := f.met.put Try.underlying59 id hid (.int .i64 ((cm : Int) + 1)) (by omega)
  rw [hmi] at hm1
  have hm1' : MapV w1 mm (cm + 1) (ints (upd FM id ((cm : Int) + 1))) := by rw [ints_upd]; exact hm1
  have HS1 := Lib.hid (f.setM hm1' (Nat.le_succ cm) hg1)
  obtain ⟨c2, hc2, h2⟩ := f.reach
  have hne := f.ne
  have hlt := f.lt
  have hk1 : w1.heap[mc]? = w.heap[mc]? := grown_some hg1 _ h2.blk (by omega)
  obtain ⟨w2, hr2, hm2, hg2⟩ := (h2.kept hk1).put Try.underlying59 id hid (.int .i64 ((cm : Int) + 1)) (by omega)
  have hm2' : MapV w2 mc (if (ints FC id).isSome then c2 else c2 + 1) (ints (upd FC id ((cm : Int) + 1))) := by rw [ints_upd]; exact hm2
  have HS2 := Lib.hid (HS1.out.setC hm2' (by split <;> omega) hg2)
  have HR1 := Lib.hid hr1
  have HR2 := Lib.hid hr2
  have HRS := Lib.hid ((Rst.of_grown (N := N) (ob := V.ownBlock) hg1 (by omega)).trans (Rst.of_grown hg2 (by omega)))
  have hb1 : w1.heap[s]? = _ := (grown_some hg1 s (lt_of_block hb) (by omega)).trans hb
  have HB1 := Lib.hid hb1
  have hb2 : w2.heap[s]? = _ := (grown_some hg2 s (lt_of_block hb1) (by omega)).trans hb1
  have HB2 := Lib.hid hb2
  have ho1 := own_grown ho hg1 (by omega)
  have ho2 := own_grown ho1 hg2 (by omega)
  have HO2 := Lib.hid ho2
  have HNS := Lib.hid HS2.out.os.2.2.2
  have HOL : Hid (O.length ≤ 1000000) := hO
  clear f hb ho hn hc hO hmi hm1 hm1' hg1 hc2 h2 hne hlt hk1 hm2 hm2' hg2 hr1 hr2 hb1 hb2 ho1 ho2 hid
  go_enter Try.func84, Try.ntmps84
  go_upto_region 2 with (first | (at_mapUpdate; refine wpList_upd _ rfl _ _ _ 59 rfl _ _ _ rfl rfl rfl w1 HR1.out ?_))
  clear y0 y1 y2 y3 y4 y5 hlen
  obtain ⟨y0, y1, y2, y3, y4, y5⟩ := s_cells HB1.out
  go_upto_region 3 with (first | (at_mapUpdate; refine wpList_upd _ rfl _ _ _ 59 rfl _ _ _ rfl rfl rfl w2 HR2.out ?_))
  clear y0 y1 y2 y3 y4 y5
  obtain ⟨y0, y1, y2, y3, y4, y5⟩ := s_cells HB2.out
  have hba : Below w2.heap.size w2 (w2.alloc (.cells #[.int .i64 id] 3)) := (Below.refl _ _).alloc (Nat.le_refl _) _
  have HS3 := Lib.hid (HS2.out.keep hba)
  have HO3 := Lib.hid (owns_kept HO2.out hba)
  have HB3 := Lib.hid ((hba.block _ (lt_of_block HB2.out)).trans HB2.out)
  clear hba
  go_wp2_with (at_builtin; refine wpList_append_own_at _ rfl _ _ 29 rfl N 3 i0 (.int .i64 0) 1 8 Try.underlying29 hi hz0 hz1 hz2 rfl (by decide) _ _ _ rfl HO3.out ⟨w2.heap.size, 0, none⟩ 1 1 [.int .i64 id] rfl rfl (cell_one_new _ _ _) ?c2 ?c3 ?c4 ?c5 ?_)
  case c2 => intro u hu; simp at hu; subst hu; rfl
  case c3 => have := HOL.out; unfold maxLen; omega
  case c4 => have := HOL.out; omega
  case c5 => have := HNS.out; simp; omega
  intro V5 W5 ho5 hg5 _ hat5
  have HO5 : Hid (W5.ownsRow N 3 1 V5 (O ++ [id]).length ((O ++ [id]).map (Value.int .i64))) := by
    show World.ownsRow _ _ _ _ _ _ _
    simpa using ho5
  have HS5 := Lib.hid (HS3.out.setO HB3.out (fun j hj => (HO3.out.lt j hj).1) HO5.out hg5)
  have hlt := HS2.out.lt
  have HRR : Hid (Rst N V.ownBlock w (W5.setCell ⟨s, 4, none⟩ V5)) := ((HRS.out.trans (Rst.of_below ((Below.refl _ _).alloc (Nat.le_refl _) _))).trans (Rst.of_row hg5)).trans (Rst.of_cell _ _ (by omega))
  have HAT : Hid (V5.ownBlock = V.ownBlock ∨ ∃ j, V5.ownBlock = some j ∧ w.heap.size ≤ j) := by
    rcases hat5 with h | h
    · exact .inl h
    · refine .inr ⟨_, h, ?_⟩
      have := HRS.out.size
      first | omega | (simp; omega)
  have hb5 : W5.heap[s]? = _ := (hg5.block s (by have := HNS.out; simp; omega) (fun e => by have := (HO3.out.lt s e.symm).1; omega)).trans HB3.out
  obtain ⟨z0, z1, z2, z3, z4, z5⟩ := s_cells hb5
  have z4f : W5.frozen? ⟨s, 4, none⟩ = false := by simp [World.frozen?, hb5]
  obtain ⟨A5, n5, c5, hV5⟩ : ∃ A n c, V5 = .slice A n c := by
    rcases ho5.2 with ⟨e, _⟩ | ⟨g, cap, _, e, _⟩
    · exact ⟨_, _, _, e⟩
    · exact ⟨_, _, _, e⟩
  subst hV5
  obtain ⟨A0, n0, c0, hV0⟩ : ∃ A n c, V = .slice A n c := by
    rcases HO2.out.2 with ⟨e, _⟩ | ⟨g, cap, _, e, _⟩
    · exact ⟨_, _, _, e⟩
    · exact ⟨_, _, _, e⟩
  subst hV0
  clear hat5 HRS ho5 hg5 hb5 hlt HS3 HO3 HB3 HO2 HB2 HB1 HS1 HS2 HR1 HR2 y0 y1 y2 y3 y4 y5
  go_wp2
  simp [bodyPost, results, Try.results84, go_sem]
  exact ⟨_, HAT.out, HS5.out, HRR.out⟩
/-- All of some ids have one group. -/
def grp (FG : Int → Option Int) (S : List Int) (v : Int) : Int → Option Int := fun i => if i ∈ S then some v else FG i
theorem grp_upd (FG : Int → Option Int) (S : List Int) (v x : Int) : upd (grp FG S v) x v = grp FG (x :: S) v := by
  funext i
  unfold upd grp
  by_cases h : i = x
  · simp [h]
  · by_cases h2 : i ∈ S <;> simp [h, h2]
theorem grp_nil (FG : Int → Option Int) (v : Int) : grp FG [] v = FG := by funext i; simp [grp]
def openLen (s : Nat) (wr : World) : Nat := match wr.cell? ⟨s, 4, none⟩ with | some (.slice _ n _) => n | _ => 0
/-- What of an open row is left while a group is shut. -/
structure ShRel (W0 : World) (N s mt mr mm mc mg cm cg : Nat) (FR : Int → Option Value) (FM FC FG : Int → Option Int) (P R : List Int) (first : Int) (ob : Option Nat) (w wr : World) : Prop where
  ex : ∃ R' S, R = R' ++ S ∧ SS W0 N s mt mr mm mc mg cm (cg + S.length) FR FM FC (grp FG S first) (P ++ [first] ++ R') ob wr
  rs : Rst N ob w wr
set_option maxRecDepth 8000 in
set_option maxHeartbeats 3200000 in
theorem shut_any (P R : List Int) (first : Int) (f : SS W0 N s mt mr mm mc mg cm cg FR FM FC FG (P ++ [first] ++ R) ob w) (hfi : first ∉ R) (hI : ∀ x ∈ first :: R, Mpv.I64 x) (hc : cg ≤ 1000000) (hl : (P ++ [first] ++ R).length ≤ 1000000) :
    Calls Try.prog 101 #[.pointer (some ⟨s, 0, none⟩), .int .i64 first] w fun e w' => e = .returned (.tuple #[]) ∧ SS W0 N s mt mr mm mc mg cm (cg + R.length + 1) FR FM FC (grp FG (first :: R) first) P ob w' ∧ Rst N ob w w' := by
  have HF := Lib.hid f
  have HFI := Lib.hid hfi
  have HI := Lib.hid hI
  have HC : Hid (cg ≤ 1000000) := hc
  have HL : Hid ((P ++ [first] ++ R).length ≤ 1000000) := hl
  clear f hfi hI hc hl
  go_enter Try.func101, Try.ntmps101
  go_wp2_with fail
  go_loopw [4] (fun v wr => ShRel W0 N s mt mr mm mc mg cm cg FR FM FC FG P R first ob w wr) (fun v wr => openLen s wr)
  case atStart => exact ⟨⟨R, [], by simp, by rw [grp_nil]; simpa using HF.out⟩, Rst.refl _ _ _⟩
  case round =>
    obtain ⟨R', S, hR, hss⟩ := hrel.ex
    have HS := Lib.hid hss
    have HRS := Lib.hid hrel.rs
    obtain ⟨V, hob, hb, ho⟩ := hss.box
    obtain ⟨g, cap, hV⟩ : ∃ g cap, V = .slice (some ⟨g, 0, none⟩) (P ++ [first] ++ R').length cap := by
      rcases ho.2 with ⟨e, h0⟩ | ⟨g, cap, _, e, _⟩
      · simp at h0
      · exact ⟨g, cap, e⟩
    subst hV
    obtain ⟨Q, x, hQ, hcase⟩ : ∃ Q x, P ++ [first] ++ R' = Q ++ [x] ∧ ((R' = [] ∧ x = first ∧ Q = P) ∨ (∃ R2, R' = R2 ++ [x] ∧ Q = P ++ [first] ++ R2)) := by
      rcases List.eq_nil_or_concat R' with h | ⟨R2, x, h⟩
      · exact ⟨P, first, by rw [h]; simp, .inl ⟨h, rfl, rfl⟩⟩
      · exact ⟨P ++ [first] ++ R2, x, by rw [h]; simp, .inr ⟨R2, by rw [h]; simp, rfl⟩⟩
    rw [hQ] at hss hb ho HS
    have HCASE := Lib.hid hcase
    have HRR := Lib.hid hR
    have hQl : (Q ++ [x]).length = Q.length + 1 := by simp
    have hn : Q.length + S.length + 1 ≤ 1000000 := by
      have h1 := HL.out
      rw [hR] at h1
      have h2 : (P ++ [first] ++ R').length = Q.length + 1 := by rw [hQ, hQl]
      simp at h1 h2
      omega
    have HNB : Hid (Q.length + S.length + 1 ≤ 1000000) := hn
    have hxI : Mpv.I64 x := HI.out x (by
      rcases hcase with ⟨_, rfl, _⟩ | ⟨R2, h, _⟩
      · simp
      · rw [hR, h]; simp)
    rw [hQl] at ho hb
    have hcl : wr.cell? ⟨g, Q.length, none⟩ = some (.int .i64 x) := by
      rw [ho.cellAt Q.length (by omega)]
      simp
    have hcap : Q.length + 1 ≤ cap := by
      rcases ho.2 with ⟨e, _⟩ | ⟨g2, cap2, _, e, _, _, h, _⟩
      · cases e
      · injection e with _ _ e3
        rw [e3]; exact h
    have ho2 := owns_first Q.length (Nat.le_succ _) ho
    have hmq : ((Q ++ [x]).map (Value.int .i64)).take Q.length = Q.map (Value.int .i64) := by
      rw [List.map_append, List.take_left' (by rw [List.length_map])]
    rw [hmq] at ho2
    have HS1 := Lib.hid (hss.setO (O' := Q) hb (fun j hj => (ho.lt j hj).1) ho2 ⟨rfl, rfl, rfl, Nat.le_refl _, fun _ _ _ => rfl⟩)
    obtain ⟨W1, hW1⟩ : ∃ W, wr.setCell ⟨s, 4, none⟩ (.slice (some ⟨g, 0, none⟩) Q.length cap) = W := ⟨_, rfl⟩
    have hb1 : W1.heap[s]? = some (.cells #[.map (some mt), .map (some mr), .map (some mm), .map (some mc), .slice (some ⟨g, 0, none⟩) Q.length cap, .map (some mg)] 82 (0, 0)) := by
      rw [← hW1, setCell_eq_setRow wr s 4 _ _ (0, 0) _ hb]
      exact setRow_heap _ _ _ _ _ _ hb
    rw [hW1] at HS1
    have HW1 := Lib.hid hW1
    obtain ⟨c3, g3, h5⟩ := HS1.out.group
    obtain ⟨w2, hr2, hm2, hg2⟩ := h5.put Try.underlying59 x hxI (.int .i64 first) (by have := HC.out; omega)
    have hm2' : MapV w2 mg (if (ints (grp FG S first) x).isSome then c3 else c3 + 1) (ints (grp FG (x :: S) first)) := by
      rw [← grp_upd, ints_upd]; exact hm2
    have HS2 := Lib.hid (HS1.out.setG (cg' := cg + S.length + 1) hm2' (by split <;> omega) hg2)
    have HR2 := Lib.hid hr2
    have hlt := HS1.out.lt
    rw [show (Value.slice (some ⟨g, 0, none⟩) Q.length cap).ownBlock = ob from hob] at HS2
    have HR3 : Hid (Rst N ob w w2) := (HRS.out.trans (by rw [← hW1]; exact Rst.of_cell _ _ (by omega))).trans (Rst.of_grown hg2 (by omega))
    have hne := HS1.out.ne
    have hb2 : w2.heap[s]? = _ := (grown_some hg2 s (lt_of_block hb1) (by omega)).trans hb1
    have HM : Hid (openLen s wr = Q.length + 1 ∧ openLen s w2 = Q.length) := by
      have e1 := (s_cells hb).2.2.2.2.1
      have e2 := (s_cells hb2).2.2.2.2.1
      show _ ∧ _
      unfold openLen
      rw [e1, e2]
      exact ⟨rfl, rfl⟩
    obtain ⟨y0, y1, y2, y3, y4, y5⟩ := s_cells hb
    have f4 : wr.frozen? ⟨s, 4, none⟩ = false := by simp [World.frozen?, hb]
    have HB1 := Lib.hid hb1
    obtain ⟨ql, hql⟩ : ∃ m, Q.length = m := ⟨_, rfl⟩
    have HQL := Lib.hid hql
    rw [hql] at hcl y4 HW1 hn hcap
    rw [hql] at HB1
    have hi0 : (0 : Int) ≤ ql := by omega
    have hi1 : (ql : Int) < ((ql + 1 : Nat) : Int) := by omega
    have hi1' : (ql : Int) < (ql : Int) + 1 := by omega
    have hi2 : IntKind.i64.wrap (((ql + 1 : Nat) : Int) - 1) = (ql : Int) := by rw [show ((ql + 1 : Nat) : Int) - 1 = (ql : Int) by omega]; exact IntWalk.i64_in _ (by omega)
    have hi2' : IntKind.i64.wrap ((ql : Int) + 1 - 1) = (ql : Int) := by rw [show (ql : Int) + 1 - 1 = (ql : Int) by omega]; exact IntWalk.i64_in _ (by omega)
    have hi2'' : IntKind.i64.wrap (ql : Int) = (ql : Int) := IntWalk.i64_in _ (by omega)
    have hi3 : (ql : Int) ≤ cap := by omega
    have hi3' : ql ≤ cap := by omega
    clear HRS hob hrel hR hss hb ho hQ hcase hQl hxI ho2 hmq hW1 hb1 hb2 g3 h5 hr2 hm2 hm2' hg2 hlt hne HS hql hn
    go_upto_region 3 with fail
    rw [HW1.out]
    clear y0 y1 y2 y3 y4 y5 f4 hcl HW1
    obtain ⟨y0, y1, y2, y3, y4, y5⟩ := s_cells HB1.out
    rcases HCASE.out with ⟨hr', hxf, hq⟩ | ⟨R2, hr', hq⟩
    · subst hxf
      have te : (x == x) = true := by simp
      go_wp2_with (first | (at_mapUpdate; refine wpList_upd _ rfl _ _ _ 59 rfl _ _ _ rfl rfl rfl w2 HR2.out ?_))
      simp [bodyPost, results, Try.results101, go_sem]
      have hRS : R = S := by rw [HRR.out, hr']; rfl
      rw [hRS, ← hq]
      exact ⟨HS2.out, HR3.out⟩
    · have hxf : x ≠ first := fun e => HFI.out (by rw [HRR.out, hr', e]; simp)
      have te : (x == first) = false := by simp [hxf]
      clear hxf
      go_wp2_with (first | (at_mapUpdate; refine wpList_upd _ rfl _ _ _ 59 rfl _ _ _ rfl rfl rfl w2 HR2.out ?_))
      go_roundw
      case rel => exact ⟨⟨R2, x :: S, by rw [HRR.out, hr']; simp, by have h := HS2.out; rw [hq] at h; simpa [Nat.add_assoc] using h⟩, HR3.out⟩
      case measure => have h := HM.out; omega
end

end Go.Proofs.Ytnngldkpkhabeaa.Rel

namespace Go.Proofs.Ytnngldkpkhabeaa.Rel

open Go.RowKit Go.PlainAid Go.Proofs.Ytnngldkpkhabeaa.Oct Go.Proofs.Ytnngldkpkhabeaa.Flt Go.Proofs.Ytnngldkpkhabeaa.Rdr Go.Proofs.Ytnngldkpkhabeaa.Args Go.Proofs.Ytnngldkpkhabeaa.Win Go.Proofs.Ytnngldkpkhabeaa.Mpv

set_option linter.unusedVariables false

set_option linter.unusedSimpArgs false

/-- A row of numbers, as a slice says. -/
def RowAt (w : World) (A : Option Addr) (R : List Int) : Prop := ∀ j z, R[j]? = some z → ∃ y, A = some y ∧ w.cell? (y.add j) = some (.int .i64 z)
theorem RowAt.kept {w w' : World} {A : Option Addr} {R : List Int} (h : RowAt w A R) (b : Below w.heap.size w w') : RowAt w' A R := by
  intro j z hz
  obtain ⟨y, e, c⟩ := h j z hz
  exact ⟨y, e, (b.cell (Go.block_lt_of_cell c)).trans c⟩
theorem zero_ints (w : World) : (zeroValue 29).run Try.prog w = .ok (.slice none 0 0) w := by go_simp
theorem ints_get (F : Int → Option Int) (v : Int) : (ints F v).getD (.int .i64 0) = .int .i64 ((F v).getD 0) := by
  unfold ints
  cases F v <;> rfl
section

variable {W0 w w' : World} {N s mt mr mm mc mg cm cg : Nat} {FR : Int → Option Value} {FM FC FG : Int → Option Int} {O : List Int} {ob : Option Nat}

set_option maxRecDepth 8000 in
set_option maxHeartbeats 3200000 in
theorem next_none (f : SS W0 N s mt mr mm mc mg cm cg FR FM FC FG O ob w) (id : Int) (hid : Mpv.I64 id) (A : Option Addr) (n c : Nat) (R : List Int) (hv : (FR id).getD (.slice none 0 0) = .slice A n c) (hR : RowAt w A R) (hRl : R.length = n) (hI : ∀ z ∈ R, Mpv.I64 z) (hn : n ≤ 1048576) (hm : ∀ z ∈ R, (FM z).getD 0 ≠ 0) :
    Calls Try.prog 85 #[.pointer (some ⟨s, 0, none⟩), .int .i64 id] w fun e w' => e = .returned (.tuple #[.int .i64 0, .bool false]) ∧ w = w' := by
  obtain ⟨V, _, hb, ho⟩ := f.box
  obtain ⟨y0, y1, y2, y3, y4, y5⟩ := s_cells hb
  obtain ⟨cr, hcr, hrest⟩ := f.rest
  have hlk := hrest.look Try.underlying49 (zero_ints w) id hid
  rw [hv] at hlk
  have HML : Hid (∀ z, Mpv.I64 z → _) := fun z hz => f.met.look Try.underlying59 (zero_int w) z hz
  have HR := Lib.hid hR
  have HRL := Lib.hid hRl
  have HI := Lib.hid hI
  have HM := Lib.hid hm
  clear f hb ho hrest hv hR hRl hI hm hid
  go_enter Try.func85, Try.ntmps85
  go_wp2_with (first | (at_lookup; refine wpList_look _ rfl _ _ 49 false rfl (.slice A n c) _ _ rfl rfl hlk ?_))
  go_loopw [15] (fun i wr => ∃ k : Nat, k ≤ n ∧ i = .int .i64 (k : Int) ∧ w = wr) (fun i _ => n - (intOf i).toNat)
  case atStart => exact ⟨0, Nat.zero_le _, rfl, rfl⟩
  case round =>
    obtain ⟨k, hk, rfl, rfl⟩ := hrel
    by_cases hlt : k < n
    · obtain ⟨z, hz⟩ : ∃ z, R[k]? = some z := ⟨_, List.getElem?_eq_getElem (by rw [HRL.out]; exact hlt)⟩
      have hzm := List.mem_of_getElem? hz
      obtain ⟨y, rfl, cz⟩ := HR.out k z hz
      have hml := HML.out z (HI.out z hzm)
      rw [ints_get] at hml
      have hmz := HM.out z hzm
      obtain ⟨mz, hmz2⟩ : ∃ m, (FM z).getD 0 = m := ⟨_, rfl⟩
      rw [hmz2] at hml hmz
      have te : (mz == 0) = false := by simp [hmz]
      have hki : (0 : Int) ≤ k := by omega
      have hkb : (k : Int) < n := by omega
      have hk1 : IntKind.i64.wrap ((k : Int) + 1) = (k : Int) + 1 := IntWalk.i64_in _ (by omega)
      clear hz hzm hmz hmz2
      go_wp2_with (first | (at_lookup; refine wpList_look _ rfl _ _ 59 false rfl (.int .i64 mz) _ _ rfl rfl hml ?_))
      go_roundw
      case rel => exact ⟨k + 1, by omega, by go_num, by first | rfl | trivial⟩
      case measure => simp [intOf]; omega
    · obtain rfl : k = n := by omega
      go_wp2
      go_ret2
      exact ⟨rfl, rfl⟩
set_option maxRecDepth 8000 in
set_option maxHeartbeats 3200000 in
theorem next_some (f : SS W0 N s mt mr mm mc mg cm cg FR FM FC FG O ob w) (id : Int) (hid : Mpv.I64 id) (A : Option Addr) (n c : Nat) (R : List Int) (hv : (FR id).getD (.slice none 0 0) = .slice A n c) (hR : RowAt w A R) (hRl : R.length = n) (hI : ∀ z ∈ R, Mpv.I64 z) (hn : n ≤ 1048576)
    (i : Nat) (x : Int) (hx : R[i]? = some x) (hm : ∀ j z, j < i → R[j]? = some z → (FM z).getD 0 ≠ 0) (hx0 : (FM x).getD 0 = 0) (v' : Value) (hsl : ∀ W : World, (Instr.slice 29 (.slice A n c) (some (.int .i64 ((i : Int) + 1))) none none).run Try.prog W = .ok v' W) :
    Calls Try.prog 85 #[.pointer (some ⟨s, 0, none⟩), .int .i64 id] w fun e w' => e = .returned (.tuple #[.int .i64 x, .bool true]) ∧ SS W0 N s mt mr mm mc mg cm cg (upd FR id v') FM FC FG O ob w' ∧ Rst N ob w w' := by
  obtain ⟨V, _, hb, ho⟩ := f.box
  obtain ⟨y0, y1, y2, y3, y4, y5⟩ := s_cells hb
  obtain ⟨cr, hcr, hrest⟩ := f.rest
  have hlk := hrest.look Try.underlying49 (zero_ints w) id hid
  rw [hv] at hlk
  have HML : Hid (∀ z, Mpv.I64 z → _) := fun z hz => f.met.look Try.underlying59 (zero_int w) z hz
  have HR := Lib.hid hR
  have HRL := Lib.hid hRl
  have HI := Lib.hid hI
  have HM := Lib.hid hm
  have HX := Lib.hid hx
  have HX0 := Lib.hid hx0
  have HSL := Lib.hid hsl
  have HS := Lib.hid f
  have HID := Lib.hid hid
  have HV := Lib.hid hv
  have hin : i < n := by have := (List.getElem?_eq_some_iff.1 hx).1; omega
  have HIN : Hid (i < n) := hin
  clear f hb ho hrest hv hR hRl hI hm hid hx hx0 hsl hcr
  go_enter Try.func85, Try.ntmps85
  go_wp2_with (first | (at_lookup; refine wpList_look _ rfl _ _ 49 false rfl (.slice A n c) _ _ rfl rfl hlk ?_))
  go_loopw [15] (fun v wr => ∃ k : Nat, k ≤ i ∧ v = .int .i64 (k : Int) ∧ w = wr) (fun v _ => n - (intOf v).toNat)
  case atStart => exact ⟨0, Nat.zero_le _, rfl, rfl⟩
  case round =>
    obtain ⟨k, hk, rfl, rfl⟩ := hrel
    obtain ⟨z, hz⟩ : ∃ z, R[k]? = some z := ⟨_, List.getElem?_eq_getElem (by rw [HRL.out]; omega)⟩
    have hzm := List.mem_of_getElem? hz
    obtain ⟨y, rfl, cz⟩ := HR.out k z hz
    have hml := HML.out z (HI.out z hzm)
    rw [ints_get] at hml
    obtain ⟨mz, hmz2⟩ : ∃ m, (FM z).getD 0 = m := ⟨_, rfl⟩
    rw [hmz2] at hml
    have hki : (0 : Int) ≤ k := by omega
    have hkb : (k : Int) < n := by omega
    have hk1 : IntKind.i64.wrap ((k : Int) + 1) = (k : Int) + 1 := IntWalk.i64_in _ (by omega)
    by_cases hlt : k < i
    · have hmz := HM.out k z hlt hz
      rw [hmz2] at hmz
      have te : (mz == 0) = false := by simp [hmz]
      clear hz hzm hmz hmz2
      go_wp2_with (first | (at_lookup; refine wpList_look _ rfl _ _ 59 false rfl (.int .i64 mz) _ _ rfl rfl hml ?_))
      go_roundw
      case rel => exact ⟨k + 1, by omega, by go_num, by first | rfl | trivial⟩
      case measure => simp [intOf]; omega
    · obtain rfl : k = i := by omega
      rw [HX.out] at hz
      obtain rfl := Option.some.inj hz
      obtain rfl : mz = 0 := by rw [← hmz2]; exact HX0.out
      have te : ((0 : Int) == 0) = true := rfl
      have hD : Below w.heap.size w w.drew := ⟨rfl, rfl, rfl, Nat.le_refl _, fun _ _ => rfl⟩
      have HSD := Lib.hid (HS.out.keep hD)
      obtain ⟨cr2, hcr2, hrest2⟩ := HSD.out.rest
      have hlkD := hrest2.look Try.underlying49 (zero_ints w.drew) id HID.out
      rw [HV.out] at hlkD
      obtain ⟨w2, hr2, hm2, hg2⟩ := hrest2.put Try.underlying49 id HID.out v' hcr2
      have hsl := HSL.out
      have hso : (FR id).isSome = true := by
        have h := HV.out
        cases hf : FR id with
        | none =>
          rw [hf] at h
          simp at h
        | some u => rfl
      rw [if_pos hso] at hm2
      have HS2 := Lib.hid (HSD.out.setR hm2 hcr2 hg2)
      have d1 : w.drew.cell? ⟨s, 1, none⟩ = some (.map (some mr)) := y1
      have HRS := Lib.hid ((Rst.of_below (N := N) (ob := ob) hD).trans (Rst.of_grown hg2 (by have := HS.out.lt; omega)))
      obtain ⟨V2, _, hb2, _⟩ := HS2.out.box
      have d2 := (s_cells hb2).2.1
      clear hzm hD hrest2 hm2 hg2 hso hmz2 hb2
      go_wp2_with (first | (at_lookup; refine wpList_look _ rfl _ _ 59 false rfl (.int .i64 0) _ _ rfl rfl hml ?_))
      go_region_held3 (fun wx => wx.cell? ⟨s, 1, none⟩ = some (.map (some mr))) (first | assumption | (go_keep; done)) (fail)
      all_goals
        go_wp2
        go_ret2
        exact ⟨rfl, HS2.out, HRS.out⟩
end

end Go.Proofs.Ytnngldkpkhabeaa.Rel

namespace Go.Proofs.Ytnngldkpkhabeaa.Rel

open Go.RowKit Go.PlainAid Go.Proofs.Ytnngldkpkhabeaa.Oct Go.Proofs.Ytnngldkpkhabeaa.Flt Go.Proofs.Ytnngldkpkhabeaa.Rdr Go.Proofs.Ytnngldkpkhabeaa.Args Go.Proofs.Ytnngldkpkhabeaa.Win Go.Proofs.Ytnngldkpkhabeaa.Mpv

set_option linter.unusedVariables false

set_option linter.unusedSimpArgs false

/-- What an id reaches, one id further. -/
def lv1 (FG : Int → Option Int) (id : Int) (F : Int → Option Int) (z : Int) : Int → Option Int := if (FG z).isSome then F else upd F id (min ((F id).getD 0) ((F z).getD 0))
def lv (FG : Int → Option Int) (id : Int) (F : Int → Option Int) (R : List Int) : Int → Option Int := R.foldl (lv1 FG id) F
theorem lv_some (FG : Int → Option Int) (id : Int) : ∀ (R : List Int) (F : Int → Option Int), (F id).isSome = true → (lv FG id F R id).isSome = true
  | [], F, h => h
  | z :: R, F, h => by
    refine lv_some FG id R _ ?_
    unfold lv1
    split
    · exact h
    · simp [upd]
section

variable {W0 w w' : World} {N s mt mr mm mc mg cm cg : Nat} {FR : Int → Option Value} {FM FC FG : Int → Option Int} {O : List Int} {ob : Option Nat}

theorem SS.row (f : SS W0 N s mt mr mm mc mg cm cg FR FM FC FG O ob w) {A : Option Addr} {R : List Int} (h : RowAt W0 A R) (hA : ∀ y, A = some y → y.block < N ∧ y.block ≠ s ∧ y.block ≠ mr ∧ y.block ≠ mm ∧ y.block ≠ mc ∧ y.block ≠ mg) : RowAt w A R := by
  intro j z hz
  obtain ⟨y, e, c⟩ := h j z hz
  obtain ⟨a1, a2, a3, a4, a5, a6⟩ := hA y e
  have hbl : (y.add j).block = y.block := add_block y j
  exact ⟨y, e, (World.cell?_of_block (f.still _ (by rw [hbl]; exact a1) (by rw [hbl]; exact a2) (by rw [hbl]; exact a3) (by rw [hbl]; exact a4) (by rw [hbl]; exact a5) (by rw [hbl]; exact a6))).trans c⟩
theorem SS.to (f : SS W0 N s mt mr mm mc mg cm cg FR FM FC FG O ob w) {c : Nat} {FT : Int → Option Value} (h : MapV W0 mt c FT) : MapV w mt c FT :=
  h.kept (f.still mt f.lt.2.1 (by have := f.ne; omega) (by have := f.ne; omega) (by have := f.ne; omega) (by have := f.ne; omega) (by have := f.ne; omega))
def LvRel (W0 : World) (N s mt mr mm mc mg cm cg : Nat) (FR : Int → Option Value) (FM FC FG : Int → Option Int) (O R : List Int) (id : Int) (ob : Option Nat) (w : World) (i : Value) (wr : World) : Prop :=
  ∃ k : Nat, k ≤ R.length ∧ i = .int .i64 (k : Int) ∧ SS W0 N s mt mr mm mc mg cm cg FR FM (lv FG id FC (R.take k)) FG O ob wr ∧ Rst N ob w wr
set_option maxRecDepth 8000 in
set_option maxHeartbeats 6400000 in
theorem leave_any (f : SS W0 N s mt mr mm mc mg cm cg FR FM FC FG O ob w) (id : Int) (hid : Mpv.I64 id) (ct : Nat) (FT : Int → Option Value) (hT : MapV W0 mt ct FT) (A : Option Addr) (n c : Nat) (R : List Int) (hv : (FT id).getD (.slice none 0 0) = .slice A n c) (hR : RowAt W0 A R) (hA : ∀ y, A = some y → y.block < N ∧ y.block ≠ s ∧ y.block ≠ mr ∧ y.block ≠ mm ∧ y.block ≠ mc ∧ y.block ≠ mg)
    (hRl : R.length = n) (hI : ∀ z ∈ R, Mpv.I64 z) (hn : n ≤ 1048576) (hcs : (FC id).isSome = true) (hcm : cm ≤ 1000000)
    (Q : World → Prop)
    (hno : (lv FG id FC R id).getD 0 ≠ (FM id).getD 0 → ∀ w', SS W0 N s mt mr mm mc mg cm cg FR FM (lv FG id FC R) FG O ob w' → Rst N ob w w' → Q w')
    (hyes : (lv FG id FC R id).getD 0 = (FM id).getD 0 → ∀ w', SS W0 N s mt mr mm mc mg cm cg FR FM (lv FG id FC R) FG O ob w' → Rst N ob w w' → Calls Try.prog 101 #[.pointer (some ⟨s, 0, none⟩), .int .i64 id] w' fun e w2 => e = .returned (.tuple #[]) ∧ Q w2) :
    Calls Try.prog 86 #[.pointer (some ⟨s, 0, none⟩), .int .i64 id] w fun e w' => e = .returned (.tuple #[]) ∧ Q w' := by
  obtain ⟨V, _, hb, ho⟩ := f.box
  obtain ⟨y0, y1, y2, y3, y4, y5⟩ := s_cells hb
  have hlk := (f.to hT).look Try.underlying49 (zero_ints w) id hid
  rw [hv] at hlk
  have HS := Lib.hid f
  have HR : Hid (∀ W F, SS W0 N s mt mr mm mc mg cm cg FR FM F FG O ob W → RowAt W A R) := fun W F h => h.row hR hA
  have HRL := Lib.hid hRl
  have HI := Lib.hid hI
  have HID := Lib.hid hid
  have HCS := Lib.hid hcs
  have HNO := Lib.hid hno
  have HYES := Lib.hid hyes
  have HCM : Hid (cm ≤ 1000000) := hcm
  clear f hb ho hv hR hA hRl hI hid hcs hno hyes hT hcm
  go_enter Try.func86, Try.ntmps86
  go_wp2_with (first | (at_lookup; refine wpList_look _ rfl _ _ 49 false rfl (.slice A n c) _ _ rfl rfl hlk ?_))
  clear y0 y1 y2 y3 y4 y5 hlk
  go_loopw [15] (fun i wr => LvRel W0 N s mt mr mm mc mg cm cg FR FM FC FG O R id ob w i wr) (fun i _ => n - (intOf i).toNat)
  case atStart => exact ⟨0, Nat.zero_le _, rfl, HS.out, Rst.refl _ _ _⟩
  case round =>
    obtain ⟨k, hk, rfl, hss, hrs⟩ := hrel
    have HRS := Lib.hid hrs
    clear hrs
    have HSK := Lib.hid hss
    have hka : k ≤ n := by rw [← HRL.out]; exact hk
    obtain ⟨V, _, hb, ho⟩ := hss.box
    obtain ⟨y0, y1, y2, y3, y4, y5⟩ := s_cells hb
    clear hk ho hb
    by_cases hlt : k < n
    · obtain ⟨z, hz⟩ : ∃ z, R[k]? = some z := ⟨_, List.getElem?_eq_getElem (by rw [HRL.out]; exact hlt)⟩
      have hzI := HI.out z (List.mem_of_getElem? hz)
      obtain ⟨y, rfl, cz⟩ := (HR.out wr _ hss) k z hz
      have hst : lv FG id FC (R.take (k + 1)) = lv1 FG id (lv FG id FC (R.take k)) z := by
        unfold lv
        rw [List.take_add_one, hz, List.foldl_append]
        rfl
      have HST := Lib.hid hst
      have hki : (0 : Int) ≤ k := by omega
      have hkb : (k : Int) < n := by omega
      have hk1 : IntKind.i64.wrap ((k : Int) + 1) = (k : Int) + 1 := IntWalk.i64_in _ (by omega)
      obtain ⟨c3, hc3, h5⟩ := hss.group
      have hlg := h5.look_ok Try.underlying59 (zero_int wr) z hzI
      rw [ints_get] at hlg
      have hgs : (ints FG z).isSome = (FG z).isSome := by unfold ints; cases FG z <;> rfl
      rw [hgs] at hlg
      obtain ⟨gz, hgz⟩ : ∃ b, (FG z).isSome = b := ⟨_, rfl⟩
      rw [hgz] at hlg
      obtain ⟨g0, hg0⟩ : ∃ v, (FG z).getD 0 = v := ⟨_, rfl⟩
      rw [hg0] at hlg
      have HLG := Lib.hid hlg
      have HIZ := Lib.hid hzI
      clear hst hz hzI h5 hgs hg0 hlg
      cases gz with
      | true =>
        have hl1 : lv1 FG id (lv FG id FC (R.take k)) z = lv FG id FC (R.take k) := by unfold lv1; rw [hgz, if_pos rfl]
        have HL1 := Lib.hid hl1
        clear hl1 hgz hss
        go_wp2_with (first | (at_lookup; refine wpList_look _ rfl _ _ 59 true rfl (.tuple #[.int .i64 g0, .bool true]) _ _ rfl rfl HLG.out ?_))
        go_roundw
        case rel => exact ⟨k + 1, by rw [HRL.out]; omega, by go_num, by rw [HST.out, HL1.out]; exact HSK.out, HRS.out⟩
        case measure => simp [intOf]; omega
      | false =>
        have hl1 : lv1 FG id (lv FG id FC (R.take k)) z = upd (lv FG id FC (R.take k)) id (min ((lv FG id FC (R.take k) id).getD 0) ((lv FG id FC (R.take k) z).getD 0)) := by unfold lv1; rw [hgz]; rfl
        have HL1 := Lib.hid hl1
        have hisS : (ints (lv FG id FC (R.take k)) id).isSome = true := by
          have h := lv_some FG id (R.take k) FC HCS.out
          unfold ints
          cases hx : lv FG id FC (R.take k) id with
          | none => rw [hx] at h; cases h
          | some v => rfl
        have hD : Below wr.heap.size wr wr.drew := ⟨rfl, rfl, rfl, Nat.le_refl _, fun _ _ => rfl⟩
        have HSD := Lib.hid (hss.keep hD)
        obtain ⟨c2, hc2, h4⟩ := HSD.out.reach
        have e1 := h4.look Try.underlying59 (zero_int wr.drew) id HID.out
        have e2 := h4.look Try.underlying59 (zero_int wr.drew) z HIZ.out
        rw [ints_get] at e1 e2
        obtain ⟨w2, hr2, hm2, hg2⟩ := h4.put Try.underlying59 id HID.out (.int .i64 (min ((lv FG id FC (R.take k) id).getD 0) ((lv FG id FC (R.take k) z).getD 0))) (by have := HCM.out; omega)
        rw [if_pos hisS] at hm2
        have hm2' : MapV w2 mc c2 (ints (upd (lv FG id FC (R.take k)) id (min ((lv FG id FC (R.take k) id).getD 0) ((lv FG id FC (R.take k) z).getD 0)))) := by rw [ints_upd]; exact hm2
        have HS2 := Lib.hid (HSD.out.setC hm2' hc2 hg2)
        have HRS2 := Lib.hid ((HRS.out.trans (Rst.of_below hD)).trans (Rst.of_grown hg2 (by have := HSD.out.lt; omega)))
        obtain ⟨V2, _, hb2, _⟩ := HS2.out.box
        have d3 := (s_cells hb2).2.2.2.1
        have x3 : wr.drew.cell? ⟨s, 3, none⟩ = some (.map (some mc)) := y3
        obtain ⟨va, hva⟩ : ∃ v, (lv FG id FC (R.take k) id).getD 0 = v := ⟨_, rfl⟩
        obtain ⟨vb, hvb⟩ : ∃ v, (lv FG id FC (R.take k) z).getD 0 = v := ⟨_, rfl⟩
        rw [hva] at e1 hr2
        rw [hvb] at e2 hr2
        clear hl1 hgz hss hisS hD h4 hm2 hm2' hg2 hb2 hva hvb
        go_upto_region 5 with (first | (at_lookup; refine wpList_look _ rfl _ _ 59 true rfl (.tuple #[.int .i64 g0, .bool false]) _ _ rfl rfl HLG.out ?_))
        go_region_held3 (fun wx => wx.cell? ⟨s, 3, none⟩ = some (.map (some mc))) (first | assumption | (go_keep; done)) (fail)
        all_goals
          go_wp2
          go_roundw
          case rel => exact ⟨k + 1, by rw [HRL.out]; omega, by go_num, by rw [HST.out, HL1.out]; exact HS2.out, HRS2.out⟩
          case measure => simp [intOf]; omega
    · obtain rfl : k = n := by omega
      have htk : R.take k = R := List.take_of_length_le (by rw [HRL.out]; exact Nat.le_refl _)
      rw [htk] at hss HSK
      have hD : Below wr.heap.size wr wr.drew := ⟨rfl, rfl, rfl, Nat.le_refl _, fun _ _ => rfl⟩
      have HRD := Lib.hid (HRS.out.trans (Rst.of_below hD))
      have HSD := Lib.hid (hss.keep hD)
      obtain ⟨c2, hc2, h4⟩ := HSD.out.reach
      have e1 := h4.look Try.underlying59 (zero_int wr.drew) id HID.out
      have e2 := HSD.out.met.look Try.underlying59 (zero_int wr.drew) id HID.out
      rw [ints_get] at e1 e2
      obtain ⟨va, hva⟩ : ∃ v, (lv FG id FC R id).getD 0 = v := ⟨_, rfl⟩
      obtain ⟨vm, hvm⟩ : ∃ v, (FM id).getD 0 = v := ⟨_, rfl⟩
      rw [hva] at e1
      rw [hvm] at e2
      rw [hva, hvm] at HNO HYES
      have x2 : wr.drew.cell? ⟨s, 2, none⟩ = some (.map (some mm)) := y2
      have x3 : wr.drew.cell? ⟨s, 3, none⟩ = some (.map (some mc)) := y3
      clear hD h4 hva hvm htk hss
      go_upto_region 7 with fail
      by_cases hq : va = vm
      · have te : (va == vm) = true := by simp [hq]
        have HSH := Lib.hid (HYES.out hq _ HSD.out HRD.out)
        clear hq
        go_region_held3 (fun wx => wx.cell? ⟨s, 2, none⟩ = some (.map (some mm)) ∧ wx.cell? ⟨s, 3, none⟩ = some (.map (some mc))) (first | (refine ⟨?_, ?_⟩ <;> assumption) | (go_keep; done)) (fail)
        all_goals
          go_wp2_with fail
          refine HSH.out.mono ?_
          rintro e w2 ⟨rfl, hq2⟩
          have HQ2 := Lib.hid hq2
          clear hq2
          go_wp2
          simp [bodyPost, results, Try.results86, go_sem]
          exact HQ2.out
      · have te : (va == vm) = false := by simp [hq]
        have HQ2 := Lib.hid (HNO.out hq _ HSD.out HRD.out)
        clear hq
        go_region_held3 (fun wx => wx.cell? ⟨s, 2, none⟩ = some (.map (some mm)) ∧ wx.cell? ⟨s, 3, none⟩ = some (.map (some mc))) (first | (refine ⟨?_, ?_⟩ <;> assumption) | (go_keep; done)) (fail)
        all_goals
          go_wp2
          simp [bodyPost, results, Try.results86, go_sem]
          exact HQ2.out
end

end Go.Proofs.Ytnngldkpkhabeaa.Rel

namespace Go.Proofs.Ytnngldkpkhabeaa.Rel

open Go.RowKit Go.PlainAid Go.Proofs.Ytnngldkpkhabeaa.Oct Go.Proofs.Ytnngldkpkhabeaa.Flt Go.Proofs.Ytnngldkpkhabeaa.Rdr Go.Proofs.Ytnngldkpkhabeaa.Args Go.Proofs.Ytnngldkpkhabeaa.Win Go.Proofs.Ytnngldkpkhabeaa.Mpv

set_option linter.unusedVariables false

set_option linter.unusedSimpArgs false

section

variable {W0 w w' : World} {N s mt mr mm mc mg cm cg : Nat} {FR : Int → Option Value} {FM FC FG : Int → Option Int} {O : List Int} {ob : Option Nat}

theorem SS.grownRow (f : SS W0 N s mt mr mm mc mg cm cg FR FM FC FG O ob w) {r : Option Nat} (hg : w.grownBy w' r) (hr : ∀ j, r = some j → N ≤ j ∧ ob ≠ some j) : SS W0 N s mt mr mm mc mg cm cg FR FM FC FG O ob w' := by
  obtain ⟨V, hob, h1, h2⟩ := f.box
  obtain ⟨c1, g1, h3⟩ := f.rest
  obtain ⟨c2, g2, h4⟩ := f.reach
  obtain ⟨c3, g3, h5⟩ := f.group
  obtain ⟨o1, o2, o3, o4⟩ := f.os
  have hlt := f.lt
  have hk : ∀ k, k < N → w'.heap[k]? = w.heap[k]? := fun k hk => hg.block k (by omega) (fun e => by have := (hr k e.symm).1; omega)
  refine ⟨⟨V, hob, (hk _ (by omega)).trans h1, h2.kept hg ?_⟩, ⟨c1, g1, h3.kept (hk _ (by omega))⟩, f.met.kept (hk _ (by omega)), ⟨c2, g2, h4.kept (hk _ (by omega))⟩, ⟨c3, g3, h5.kept (hk _ (by omega))⟩, fun k hk' n1 n2 n3 n4 n5 => (hk k hk').trans (f.still k hk' n1 n2 n3 n4 n5), f.ne, f.lt, ⟨hg.os.trans o1, hg.tape.trans o2, hg.output.trans o3, Nat.le_trans o4 hg.size⟩⟩
  cases hv : V.ownBlock with
  | none => exact .inl rfl
  | some k =>
    right
    intro e
    rw [hv] at hob
    exact (hr k e.symm).2 hob.symm
/-- A search, and the row of ids on the way. -/
structure GS (W0 : World) (N s mt mr mm mc mg cm cg : Nat) (FR : Int → Option Value) (FM FC FG : Int → Option Int) (O : List Int) (ob : Option Nat) (V : Value) (l : List Int) (ob0 : Option Nat) (wS w : World) : Prop where
  ss : SS W0 N s mt mr mm mc mg cm cg FR FM FC FG O ob w
  own : w.ownsRow N 3 1 V l.length (l.map (Value.int .i64))
  ap : ∀ j, V.ownBlock = some j → ob ≠ some j
  rs : Rst N ob0 wS w
  obx : ob = ob0 ∨ ∃ j, ob = some j ∧ wS.heap.size ≤ j
  vb : ∀ j, V.ownBlock = some j → wS.heap.size ≤ j
variable {V : Value} {l : List Int} {ob0 : Option Nat} {wS : World}

theorem Rst.on {N : Nat} {ob ob0 : Option Nat} {a b c : World} (h : Rst N ob0 a b) (k : Rst N ob b c) (ho : ob = ob0 ∨ ∃ j, ob = some j ∧ a.heap.size ≤ j) : Rst N ob0 a c := by
  refine ⟨Nat.le_trans h.size k.size, fun i h1 h2 h3 => (k.block i h1 (Nat.lt_of_lt_of_le h2 h.size) ?_).trans (h.block i h1 h2 h3)⟩
  rcases ho with rfl | ⟨j, rfl, hj⟩
  · exact h3
  · intro e
    have := Option.some.inj e
    omega
theorem own_rst {n : Nat} {xs : List Value} (h : w.ownsRow N 3 1 V n xs) (hap : ∀ j, V.ownBlock = some j → ob ≠ some j) (r : Rst N ob w w') : w'.ownsRow N 3 1 V n xs := by
  refine ⟨h.1, ?_⟩
  rcases h.2 with h' | ⟨g, cap, cur, e, h1, h2, h3⟩
  · exact .inl h'
  · exact .inr ⟨g, cap, cur, e, h1, (r.block g h1 (lt_of_block h2) (hap g (by rw [e]; rfl))).trans h2, h3⟩
theorem GS.rst {cm' cg' : Nat} {FR' : Int → Option Value} {FM' FC' FG' : Int → Option Int} {O' : List Int} (f : GS W0 N s mt mr mm mc mg cm cg FR FM FC FG O ob V l ob0 wS w) (h : SS W0 N s mt mr mm mc mg cm' cg' FR' FM' FC' FG' O' ob w') (r : Rst N ob w w') : GS W0 N s mt mr mm mc mg cm' cg' FR' FM' FC' FG' O' ob V l ob0 wS w' :=
  ⟨h, own_rst f.own f.ap r, f.ap, f.rs.on r f.obx, f.obx, f.vb⟩
theorem GS.meet {cm' cg' : Nat} {FR' : Int → Option Value} {FM' FC' FG' : Int → Option Int} {O' : List Int} (f : GS W0 N s mt mr mm mc mg cm cg FR FM FC FG O ob V l ob0 wS w) (h : MtPost W0 N s mt mr mm mc mg cm' cg' FR' FM' FC' FG' O' ob w w') : ∃ ob', GS W0 N s mt mr mm mc mg cm' cg' FR' FM' FC' FG' O' ob' V l ob0 wS w' := by
  obtain ⟨ob', h1, h2, h3⟩ := h
  refine ⟨ob', h2, own_rst f.own f.ap h3, fun j hj => ?_, f.rs.on h3 f.obx, ?_, f.vb⟩
  · rcases h1 with rfl | ⟨k, rfl, hk⟩
    · exact f.ap j hj
    · intro e
      have := Option.some.inj e
      have := (f.own.lt j hj).2
      omega
  · rcases h1 with rfl | ⟨k, rfl, hk⟩
    · exact f.obx
    · exact .inr ⟨k, rfl, Nat.le_trans f.rs.size hk⟩
theorem GS.keep (f : GS W0 N s mt mr mm mc mg cm cg FR FM FC FG O ob V l ob0 wS w) (b : Below w.heap.size w w') : GS W0 N s mt mr mm mc mg cm cg FR FM FC FG O ob V l ob0 wS w' := ⟨f.ss.keep b, owns_kept f.own b, f.ap, f.rs.on (Rst.of_below (ob := ob) b) f.obx, f.obx, f.vb⟩
theorem SS.ob_lt (f : SS W0 N s mt mr mm mc mg cm cg FR FM FC FG O ob w) : ∀ j, ob = some j → j < w.heap.size := by
  intro j hj
  obtain ⟨V, hob, _, h2⟩ := f.box
  rw [hj] at hob
  exact (h2.lt j hob).2
theorem GS.push {V' : Value} {x : Int} (f : GS W0 N s mt mr mm mc mg cm cg FR FM FC FG O ob V l ob0 wS w) (ho : w'.ownsRow N 3 1 V' (l.length + 1) (l.map (Value.int .i64) ++ [.int .i64 x])) (hg : w.grownBy w' V.ownBlock) (hat : V'.ownBlock = V.ownBlock ∨ V'.ownBlock = some w.heap.size) : GS W0 N s mt mr mm mc mg cm cg FR FM FC FG O ob V' (l ++ [x]) ob0 wS w' := by
  refine ⟨f.ss.grownRow hg fun j hj => ⟨(f.own.lt j hj).1, f.ap j hj⟩, by simpa using ho, fun j hj => ?_, ⟨Nat.le_trans f.rs.size hg.size, fun k h1 h2 h3 => (hg.block k (Nat.lt_of_lt_of_le h2 f.rs.size) (fun e => by have := f.vb k e.symm; omega)).trans (f.rs.block k h1 h2 h3)⟩, f.obx, fun j hj => ?_⟩
  · rcases hat with h | h
    · exact f.ap j (h ▸ hj)
    · rw [h] at hj
      obtain rfl := Option.some.inj hj
      intro e
      have := f.ss.ob_lt _ e
      omega
  · rcases hat with h | h
    · exact f.vb j (h ▸ hj)
    · rw [h] at hj
      obtain rfl := Option.some.inj hj
      exact f.rs.size
theorem GS.pop {g cap : Nat} {x : Int} {n : Nat} (f : GS W0 N s mt mr mm mc mg cm cg FR FM FC FG O ob (.slice (some ⟨g, 0, none⟩) (n + 1) cap) (l ++ [x]) ob0 wS w) (hn : l.length = n) : GS W0 N s mt mr mm mc mg cm cg FR FM FC FG O ob (.slice (some ⟨g, 0, none⟩) n cap) l ob0 wS w := by
  subst hn
  have h := f.own
  rw [List.length_append, List.length_singleton] at h
  have h2 := owns_first l.length (Nat.le_succ _) h
  rw [List.map_append, List.take_left' (by rw [List.length_map])] at h2
  exact ⟨f.ss, h2, f.ap, f.rs, f.obx, f.vb⟩
theorem GS.last {g cap : Nat} {x : Int} {n : Nat} (f : GS W0 N s mt mr mm mc mg cm cg FR FM FC FG O ob (.slice (some ⟨g, 0, none⟩) (n + 1) cap) (l ++ [x]) ob0 wS w) (hn : l.length = n) : w.cell? ⟨g, n, none⟩ = some (.int .i64 x) := by
  subst hn
  have h := f.own
  rw [List.length_append, List.length_singleton] at h
  rw [h.cellAt l.length (by omega)]
  simp
end

set_option maxRecDepth 8000 in
theorem tail_ints (g i n c : Nat) (h1 : i + 1 = n) (h2 : n ≤ c) (hc : True) : ∃ A' c', ∀ W : World, (Instr.slice 29 (.slice (some ⟨g, 0, none⟩) n c) (some (.int .i64 ((i : Int) + 1))) none none).run Try.prog W = .ok (.slice A' 0 c') W := by
  by_cases he : c = n
  · subst he
    refine ⟨some ⟨g, 0, none⟩, 0, fun W => ?_⟩
    rw [show (i : Int) + 1 = ((c : Nat) : Int) by omega, run_slice_l (P := Try.prog) W 29 (some ⟨g, 0, none⟩) c c rfl .i64 (c : Int) (by omega) (by omega)]
    go_simp
  · refine ⟨some ⟨g, n, none⟩, c - n, fun W => ?_⟩
    rw [show (i : Int) + 1 = ((n : Nat) : Int) by omega, run_slice_l (P := Try.prog) W 29 (some ⟨g, 0, none⟩) n c rfl .i64 (n : Int) (by omega) (by omega)]
    go_simp
end Go.Proofs.Ytnngldkpkhabeaa.Rel

namespace Go.Proofs.Ytnngldkpkhabeaa.Rel

open Go.RowKit Go.PlainAid Go.Proofs.Ytnngldkpkhabeaa.Oct Go.Proofs.Ytnngldkpkhabeaa.Flt Go.Proofs.Ytnngldkpkhabeaa.Rdr Go.Proofs.Ytnngldkpkhabeaa.Args Go.Proofs.Ytnngldkpkhabeaa.Win Go.Proofs.Ytnngldkpkhabeaa.Mpv

set_option linter.unusedVariables false

set_option linter.unusedSimpArgs false

def noI : Int → Option Int := fun _ => none
theorem small_i64 (n : Int) (h : 0 ≤ n ∧ n ≤ 100) : Mpv.I64 n := ⟨by omega, by omega⟩
section

variable {W0 w : World} {N s mt mr mm mc mg : Nat} {FR : Int → Option Value} {ob : Option Nat}

theorem GS.start {cm cg : Nat} {FM FC FG : Int → Option Int} {O : List Int} {w1 : World} (h : MtPost W0 N s mt mr mm mc mg cm cg FR FM FC FG O ob w w1) : ∃ ob', GS W0 N s mt mr mm mc mg cm cg FR FM FC FG O ob' (.slice (some ⟨w1.heap.size, 0, none⟩) 1 1) [1] ob w (w1.alloc (.cells #[.int .i64 1] 3)) := by
  obtain ⟨ob', h1, h2, h3⟩ := h
  have hb : Below w1.heap.size w1 (w1.alloc (.cells #[.int .i64 1] 3)) := (Below.refl _ _).alloc (Nat.le_refl _) _
  refine ⟨ob', h2.keep hb, World.ownsRow_lit w1 #[.int .i64 1] 1 h2.os.2.2.2 (by decide) rfl, fun j hj e => ?_, h3.on (Rst.of_below (ob := ob') hb) h1, h1, fun j hj => ?_⟩
  · have h5 := h2.ob_lt j e
    obtain rfl : w1.heap.size = j := by simpa [Value.ownBlock] using hj
    omega
  · obtain rfl : w1.heap.size = j := by simpa [Value.ownBlock] using hj
    exact h3.size
/-- What the search from 1 leaves behind. -/
def GoPost (W0 : World) (N s mt mr mm mc mg : Nat) (ob : Option Nat) (w w' : World) : Prop :=
  ∃ (ob' : Option Nat) (cg' : Nat) (FR' : Int → Option Value) (FC' : Int → Option Int), SS W0 N s mt mr mm mc mg 3 cg' FR' (upd (upd (upd noI 1 1) 2 2) 3 3) FC' (upd (upd (upd noI 3 3) 2 1) 1 1) [] ob' w' ∧ Rst N ob w w' ∧ (ob' = ob ∨ ∃ j, ob' = some j ∧ w.heap.size ≤ j)
set_option maxRecDepth 8000 in
set_option maxHeartbeats 6400000 in
theorem goFrom_ex (f : SS W0 N s mt mr mm mc mg 0 0 FR noI noI noI [] ob w) (g1 c1 g2 c2 ct : Nat) (h1 : FR 1 = some (.slice (some ⟨g1, 0, none⟩) 1 c1)) (h2 : FR 2 = some (.slice (some ⟨g2, 0, none⟩) 2 c2)) (h3 : FR 3 = none) (hT : MapV W0 mt ct FR)
    (r1 : RowAt W0 (some ⟨g1, 0, none⟩) [2]) (r2 : RowAt W0 (some ⟨g2, 0, none⟩) [1, 3]) (k1 : g1 < N ∧ g1 ≠ s ∧ g1 ≠ mr ∧ g1 ≠ mm ∧ g1 ≠ mc ∧ g1 ≠ mg) (k2 : g2 < N ∧ g2 ≠ s ∧ g2 ≠ mr ∧ g2 ≠ mm ∧ g2 ≠ mc ∧ g2 ≠ mg) (b1 : 1 ≤ c1 ∧ True) (b2 : 2 ≤ c2 ∧ True) :
    Calls Try.prog 66 #[.pointer (some ⟨s, 0, none⟩), .int .i64 1] w fun e w' => e = .returned (.tuple #[]) ∧ GoPost W0 N s mt mr mm mc mg ob w w' := by
  obtain ⟨i0, hi, hz0, hz1, hz2⟩ := info_parts infoInt2
  obtain ⟨A1, d1, ht1⟩ := tail_ints g1 0 1 c1 rfl b1.1 b1.2
  obtain ⟨A2, d2, ht2⟩ := tail_ints g2 1 2 c2 rfl b2.1 b2.2
  have HM1 := Lib.hid (meet_any f 1 (small_i64 1 (by decide)) rfl (by decide) (by decide))
  have HT := Lib.hid hT
  have HR1 := Lib.hid r1
  have HR2 := Lib.hid r2
  have HK := Lib.hid (And.intro k1 k2)
  have HF1 := Lib.hid h1
  have HF2 := Lib.hid h2
  have HF3 := Lib.hid h3
  have HT1 := Lib.hid ht1
  have HT2 := Lib.hid ht2
  clear f h1 h2 h3 hT r1 r2 k1 k2 b1 b2 ht1 ht2
  go_enter Try.func66, Try.ntmps66
  go_wp2_with fail
  refine HM1.out.mono ?_
  rintro e w1 ⟨rfl, hm1⟩
  obtain ⟨ob1, hg1⟩ := GS.start hm1
  have HG1 := Lib.hid hg1
  clear hm1 hg1 HM1
  go_wp2_with fail
  obtain ⟨W1, hW1⟩ : ∃ W, w1.alloc (.cells #[.int .i64 1] 3) = W := ⟨_, rfl⟩
  obtain ⟨q1, hq1⟩ : ∃ q, w1.heap.size = q := ⟨_, rfl⟩
  rw [hW1, hq1] at HG1
  rw [hW1, hq1]
  clear hW1 hq1
  refine wp_loop_rounds 6 ?_
  rw [rounds_succ]
  have hc := GS.last (l := []) HG1.out rfl
  have HN1 := Lib.hid (next_some HG1.out.ss 1 (small_i64 1 (by decide)) (some ⟨g1, 0, none⟩) 1 c1 [2] (by rw [HF1.out]; rfl) (HG1.out.ss.row HR1.out (fun y e => by obtain rfl := Option.some.inj e; exact HK.out.1)) rfl (fun z hz => by obtain rfl := List.mem_singleton.1 hz; exact small_i64 2 (by decide)) (by decide) 0 2 rfl (fun j z hj => by omega) (by simp [upd, noI]) (.slice A1 0 d1) HT1.out)
  go_wp2_with fail
  refine HN1.out.mono ?_
  rintro e w2 ⟨rfl, hs2, hr2⟩
  have HG2 := Lib.hid (HG1.out.rst hs2 hr2)
  clear hc hs2 hr2 HN1
  have HM2 := Lib.hid (meet_any HG2.out.ss 2 (small_i64 2 (by decide)) (by simp [upd, noI]) (by decide) (by decide))
  go_wp2_with fail
  refine HM2.out.mono ?_
  rintro e w3 ⟨rfl, hm⟩
  obtain ⟨ob2, hg⟩ := HG2.out.meet hm
  have hba : Below w3.heap.size w3 (w3.alloc (.cells #[.int .i64 2] 3)) := (Below.refl _ _).alloc (Nat.le_refl _) _
  have HG3 := Lib.hid (hg.keep hba)
  clear hm hg hba HM2 HG2
  go_wp2_with (at_builtin; refine wpList_append_own_at _ rfl _ _ 29 rfl N 3 i0 (.int .i64 0) 1 8 Try.underlying29 hi hz0 hz1 hz2 rfl (by decide) _ _ _ rfl HG3.out.own ⟨w3.heap.size, 0, none⟩ 1 1 [.int .i64 2] rfl rfl (cell_one_new _ _ _) ?c2 ?c3 ?c4 ?c5 ?_)
  case c2 => intro u hu; simp at hu; subst hu; rfl
  case c3 => decide
  case c4 => decide
  case c5 => have := HG3.out.ss.os.2.2.2; omega
  intro V2 W2 ho hgr _ hat
  have hgp := HG3.out.push ho hgr (by rw [World.size_alloc]; exact hat)
  obtain ⟨q2, p2, hV⟩ : ∃ g cap, V2 = .slice (some ⟨g, 0, none⟩) 2 cap := by
    rcases ho.2 with ⟨_, h0⟩ | ⟨g, cap, _, e, _⟩
    · exact absurd h0 (by decide)
    · exact ⟨g, cap, e⟩
  subst hV
  have HG4 := Lib.hid hgp
  clear ho hgr hat hgp HG3
  go_wp2_with fail
  rw [rounds_succ]
  have hc := GS.last (l := [1]) HG4.out rfl
  have HN2 := Lib.hid (next_some HG4.out.ss 2 (small_i64 2 (by decide)) (some ⟨g2, 0, none⟩) 2 c2 [1, 3] (by simp [upd, HF2.out]) (HG4.out.ss.row HR2.out (fun y e => by obtain rfl := Option.some.inj e; exact HK.out.2)) rfl (fun z hz => by simp at hz; rcases hz with rfl | rfl <;> exact small_i64 _ (by decide)) (by decide) 1 3 rfl (by intro j z hj hz; obtain rfl : j = 0 := (by omega); obtain rfl : 1 = z := (by simpa using hz); simp [upd, noI]) (by simp [upd, noI]) (.slice A2 0 d2) HT2.out)
  go_wp2_with fail
  refine HN2.out.mono ?_
  rintro e w4 ⟨rfl, hs4, hr4⟩
  have HG5 := Lib.hid (HG4.out.rst hs4 hr4)
  clear hc hs4 hr4 HN2 HG4
  have HM3 := Lib.hid (meet_any HG5.out.ss 3 (small_i64 3 (by decide)) (by simp [upd, noI]) (by decide) (by decide))
  go_wp2_with fail
  refine HM3.out.mono ?_
  rintro e w5 ⟨rfl, hm⟩
  obtain ⟨ob3, hg⟩ := HG5.out.meet hm
  have hba : Below w5.heap.size w5 (w5.alloc (.cells #[.int .i64 3] 3)) := (Below.refl _ _).alloc (Nat.le_refl _) _
  have HG6 := Lib.hid (hg.keep hba)
  clear hm hg hba HM3 HG5
  go_wp2_with (at_builtin; refine wpList_append_own_at _ rfl _ _ 29 rfl N 3 i0 (.int .i64 0) 1 8 Try.underlying29 hi hz0 hz1 hz2 rfl (by decide) _ _ _ rfl HG6.out.own ⟨w5.heap.size, 0, none⟩ 1 1 [.int .i64 3] rfl rfl (cell_one_new _ _ _) ?c2 ?c3 ?c4 ?c5 ?_)
  case c2 => intro u hu; simp at hu; subst hu; rfl
  case c3 => decide
  case c4 => decide
  case c5 => have := HG6.out.ss.os.2.2.2; omega
  intro V3 W3 ho hgr _ hat
  have hgp := HG6.out.push ho hgr (by rw [World.size_alloc]; exact hat)
  obtain ⟨q3, p3, hV⟩ : ∃ g cap, V3 = .slice (some ⟨g, 0, none⟩) 3 cap := by
    rcases ho.2 with ⟨_, h0⟩ | ⟨g, cap, _, e, _⟩
    · exact absurd h0 (by decide)
    · exact ⟨g, cap, e⟩
  subst hV
  have HG7 := Lib.hid hgp
  clear ho hgr hat hgp HG6
  go_wp2_with fail
  rw [rounds_succ]
  have hc := GS.last (l := [1, 2]) HG7.out rfl
  have HN3 := Lib.hid (next_none HG7.out.ss 3 (small_i64 3 (by decide)) none 0 0 [] (by simp [upd, HF3.out]) (fun j z hz => by simp at hz) rfl (fun z hz => by cases hz) (by decide) (fun z hz => by cases hz))
  have HL3 := Lib.hid (leave_any HG7.out.ss 3 (small_i64 3 (by decide)) ct FR HT.out none 0 0 [] (by simp [HF3.out]) (fun j z hz => by simp at hz) (fun y e => by cases e) rfl (fun z hz => by cases hz) (by decide) (by simp [upd]) (by decide)
    (fun w' => SS W0 N s mt mr mm mc mg 3 1 (upd (upd FR 1 (.slice A1 0 d1)) 2 (.slice A2 0 d2)) (upd (upd (upd noI 1 1) 2 2) 3 3) (upd (upd (upd noI 1 1) 2 2) 3 3) (upd noI 3 3) [1, 2] ob3 w' ∧ Rst N ob3 W3 w')
    (fun hne => by exfalso; apply hne; simp [lv, upd, noI]) (fun _ w' hs hr => by
      refine (shut_any [1, 2] [] 3 hs (by simp) (fun z hz => by simp at hz; subst hz; exact small_i64 3 (by decide)) (by decide) (by decide)).mono ?_
      rintro e w2 ⟨rfl, h4, h5⟩
      refine ⟨rfl, ?_, hr.trans h5⟩
      have eg : grp noI [3] 3 = upd noI 3 3 := by funext i; simp [grp, upd, noI]
      rw [eg] at h4
      exact h4))
  go_wp2_with (first
    | (go_at_call 85; refine HN3.out.mono ?_; rintro e wa ⟨rfl, rfl⟩))
  refine HL3.out.mono ?_
  rintro e w6 ⟨rfl, hs6, hr6⟩
  have HG8 := Lib.hid (HG7.out.rst hs6 hr6)
  have hcp : 3 ≤ p3 := by
    rcases HG8.out.own.2 with ⟨e, _⟩ | ⟨g, cap, _, e, _, _, h, _⟩
    · cases e
    · injection e with _ _ e3
      rw [e3]; exact h
  have HCP : Hid (3 ≤ p3) := hcp
  have hcp2 : (2 : Int) ≤ p3 := by omega
  have hcp3 : 2 ≤ p3 := by omega
  have HG9 := Lib.hid (GS.pop (l := [1, 2]) HG8.out rfl)
  clear hc hs6 hr6 HN3 HL3 HG7 HG8 hcp
  go_wp2_with fail
  rw [rounds_succ]
  clear hcp2 hcp3
  have hc := GS.last (l := [1]) HG9.out rfl
  have HN4 := Lib.hid (next_none HG9.out.ss 2 (small_i64 2 (by decide)) A2 0 d2 [] (by simp [upd]) (fun j z hz => by simp at hz) rfl (fun z hz => by cases hz) (by decide) (fun z hz => by cases hz))
  have HL4 := Lib.hid (leave_any HG9.out.ss 2 (small_i64 2 (by decide)) ct FR HT.out (some ⟨g2, 0, none⟩) 2 c2 [1, 3] (by simp [HF2.out]) HR2.out (fun y e => by obtain rfl := Option.some.inj e; exact HK.out.2) rfl (fun z hz => by simp at hz; rcases hz with rfl | rfl <;> exact small_i64 _ (by decide)) (by decide) (by simp [upd]) (by decide)
    (fun w' => SS W0 N s mt mr mm mc mg 3 1 (upd (upd FR 1 (.slice A1 0 d1)) 2 (.slice A2 0 d2)) (upd (upd (upd noI 1 1) 2 2) 3 3) (lv (upd noI 3 3) 2 (upd (upd (upd noI 1 1) 2 2) 3 3) [1, 3]) (upd noI 3 3) [1, 2] ob3 w' ∧ Rst N ob3 w6 w')
    (fun _ w' hs hr => ⟨hs, hr⟩) (fun he => by exfalso; revert he; decide))
  go_wp2_with (first
    | (go_at_call 85; refine HN4.out.mono ?_; rintro e wa ⟨rfl, rfl⟩))
  refine HL4.out.mono ?_
  rintro e w7 ⟨rfl, hs7, hr7⟩
  have HG10 := Lib.hid (HG9.out.rst hs7 hr7)
  have hcp2 : (1 : Int) ≤ p3 := by have := HCP.out; omega
  have hcp3 : 1 ≤ p3 := by have := HCP.out; omega
  have HG11 := Lib.hid (GS.pop (l := [1]) HG10.out rfl)
  clear hc hs7 hr7 HN4 HL4 HG9 HG10
  go_wp2_with fail
  rw [rounds_succ]
  clear hcp2 hcp3
  have hc := GS.last (l := []) HG11.out rfl
  have HN5 := Lib.hid (next_none HG11.out.ss 1 (small_i64 1 (by decide)) A1 0 d1 [] (by simp [upd]) (fun j z hz => by simp at hz) rfl (fun z hz => by cases hz) (by decide) (fun z hz => by cases hz))
  have HL5 := Lib.hid (leave_any HG11.out.ss 1 (small_i64 1 (by decide)) ct FR HT.out (some ⟨g1, 0, none⟩) 1 c1 [2] (by simp [HF1.out]) HR1.out (fun y e => by obtain rfl := Option.some.inj e; exact HK.out.1) rfl (fun z hz => by obtain rfl := List.mem_singleton.1 hz; exact small_i64 2 (by decide)) (by decide) (by decide) (by decide)
    (fun w' => (∃ FC', SS W0 N s mt mr mm mc mg 3 3 (upd (upd FR 1 (.slice A1 0 d1)) 2 (.slice A2 0 d2)) (upd (upd (upd noI 1 1) 2 2) 3 3) FC' (upd (upd (upd noI 3 3) 2 1) 1 1) [] ob3 w') ∧ Rst N ob3 w7 w')
    (fun hne => by exfalso; revert hne; decide) (fun _ w' hs hr => by
      refine (shut_any [] [2] 1 hs (by decide) (fun z hz => by simp at hz; rcases hz with rfl | rfl <;> exact small_i64 _ (by decide)) (by decide) (by decide)).mono ?_
      rintro e w2 ⟨rfl, h4, h5⟩
      have eg : grp (upd noI 3 3) [1, 2] 1 = upd (upd (upd noI 3 3) 2 1) 1 1 := by
        funext i
        unfold grp upd
        by_cases e1 : i = 1
        · simp [e1]
        · by_cases e2 : i = 2 <;> simp [e1, e2]
      rw [eg] at h4
      exact ⟨rfl, ⟨_, h4⟩, hr.trans h5⟩))
  go_wp2_with (first
    | (go_at_call 85; refine HN5.out.mono ?_; rintro e wa ⟨rfl, rfl⟩))
  refine HL5.out.mono ?_
  rintro e w8 ⟨rfl, ⟨FC', hs8⟩, hr8⟩
  have HG12 := Lib.hid (HG11.out.rst hs8 hr8)
  have hcp2 : (0 : Int) ≤ p3 := by omega
  clear hc hs8 hr8 HN5 HL5 HG11
  go_wp2_with fail
  rw [rounds_succ]
  go_wp2
  simp [bodyPost, results, Try.results66, go_sem]
  exact ⟨ob3, 3, _, FC', HG12.out.ss, HG12.out.rs, HG12.out.obx⟩
end

end Go.Proofs.Ytnngldkpkhabeaa.Rel

namespace Go.Proofs.Ytnngldkpkhabeaa.Rel

open Go.RowKit Go.PlainAid Go.Proofs.Ytnngldkpkhabeaa.Oct Go.Proofs.Ytnngldkpkhabeaa.Flt Go.Proofs.Ytnngldkpkhabeaa.Rdr Go.Proofs.Ytnngldkpkhabeaa.Args Go.Proofs.Ytnngldkpkhabeaa.Win Go.Proofs.Ytnngldkpkhabeaa.Mpv

set_option linter.unusedVariables false

set_option linter.unusedSimpArgs false

section

variable {W0 w : World} {N s mt mr mm mc mg cm cg : Nat} {FR : Int → Option Value} {FM FC FG : Int → Option Int} {O : List Int} {ob : Option Nat}

set_option maxRecDepth 8000 in
theorem group_met (f : SS W0 N s mt mr mm mc mg cm cg FR FM FC FG O ob w) (id : Int) (hid : Mpv.I64 id) (hm : (FM id).getD 0 ≠ 0) :
    Calls Try.prog 48 #[.pointer (some ⟨s, 0, none⟩), .int .i64 id] w fun e w' => e = .returned (.int .i64 ((FG id).getD 0)) ∧ w = w' := by
  obtain ⟨V, _, hb, _⟩ := f.box
  obtain ⟨y0, y1, y2, y3, y4, y5⟩ := s_cells hb
  obtain ⟨c3, _, h5⟩ := f.group
  have e1 := f.met.look Try.underlying59 (zero_int w) id hid
  have e2 := h5.look Try.underlying59 (zero_int w) id hid
  rw [ints_get] at e1 e2
  obtain ⟨vm, hvm⟩ : ∃ v, (FM id).getD 0 = v := ⟨_, rfl⟩
  obtain ⟨vg, hvg⟩ : ∃ v, (FG id).getD 0 = v := ⟨_, rfl⟩
  rw [hvm] at e1 hm
  rw [hvg] at e2 ⊢
  have te : (vm == 0) = false := by simp [hm]
  clear f hb h5 hvm hvg hm hid
  go_enter Try.func48, Try.ntmps48
  go_wp2_with (first
    | (at_lookup; refine wpList_look _ rfl _ _ 59 false rfl (.int .i64 vm) _ _ rfl rfl e1 ?_)
    | (at_lookup; refine wpList_look _ rfl _ _ 59 false rfl (.int .i64 vg) _ _ rfl rfl e2 ?_))
  go_ret
  exact ⟨rfl, rfl⟩
set_option maxRecDepth 8000 in
theorem group_ex (f : SS W0 N s mt mr mm mc mg 0 0 FR noI noI noI [] ob w) (g1 c1 g2 c2 ct : Nat) (h1 : FR 1 = some (.slice (some ⟨g1, 0, none⟩) 1 c1)) (h2 : FR 2 = some (.slice (some ⟨g2, 0, none⟩) 2 c2)) (h3 : FR 3 = none) (hT : MapV W0 mt ct FR)
    (r1 : RowAt W0 (some ⟨g1, 0, none⟩) [2]) (r2 : RowAt W0 (some ⟨g2, 0, none⟩) [1, 3]) (k1 : g1 < N ∧ g1 ≠ s ∧ g1 ≠ mr ∧ g1 ≠ mm ∧ g1 ≠ mc ∧ g1 ≠ mg) (k2 : g2 < N ∧ g2 ≠ s ∧ g2 ≠ mr ∧ g2 ≠ mm ∧ g2 ≠ mc ∧ g2 ≠ mg) (b1 : 1 ≤ c1 ∧ True) (b2 : 2 ≤ c2 ∧ True) :
    Calls Try.prog 48 #[.pointer (some ⟨s, 0, none⟩), .int .i64 1] w fun e w' => e = .returned (.int .i64 1) ∧ GoPost W0 N s mt mr mm mc mg ob w w' := by
  have HGO := Lib.hid (goFrom_ex f g1 c1 g2 c2 ct h1 h2 h3 hT r1 r2 k1 k2 b1 b2)
  obtain ⟨V, _, hb, _⟩ := f.box
  obtain ⟨y0, y1, y2, y3, y4, y5⟩ := s_cells hb
  have e1 := f.met.look Try.underlying59 (zero_int w) 1 (small_i64 1 (by decide))
  rw [ints_get, show (noI 1).getD 0 = 0 from rfl] at e1
  have te : ((0 : Int) == 0) = true := rfl
  clear f hb h1 h2 h3 hT r1 r2 k1 k2 b1 b2
  go_enter Try.func48, Try.ntmps48
  go_wp2_with (first
    | (at_lookup; refine wpList_look _ rfl _ _ 59 false rfl (.int .i64 0) _ _ rfl rfl e1 ?_))
  refine HGO.out.mono ?_
  rintro e w2 ⟨rfl, hp⟩
  have HP := Lib.hid hp
  obtain ⟨ob', cg', FR', FC', hs, _, _⟩ := hp
  obtain ⟨V2, _, hb2, _⟩ := hs.box
  clear y0 y1 y2 y3 y4 y5 e1 te
  obtain ⟨y0, y1, y2, y3, y4, y5⟩ := s_cells hb2
  obtain ⟨c3, _, h5⟩ := hs.group
  have e2 := h5.look Try.underlying59 (zero_int w2) 1 (small_i64 1 (by decide))
  rw [ints_get, show (upd (upd (upd noI 3 3) 2 1) 1 1 1).getD 0 = 1 from rfl] at e2
  clear hs hb2 h5 HGO
  go_wp2_with (first
    | (at_lookup; refine wpList_look _ rfl _ _ 59 false rfl (.int .i64 1) _ _ rfl rfl e2 ?_))
  go_ret
  exact ⟨rfl, HP.out⟩
end

end Go.Proofs.Ytnngldkpkhabeaa.Rel
