/- What the law on package fault's First needs beside the contracts: that a row of errors that grows, and the fault that is wanted, leave the faults' own blocks as they are; that two faults of the same numbers are equal. It says nothing of the law itself. No condition. -/
import Derived.Test.YtbamildjaolheaaDoorFltF
import Derived.Laws.StructEq
namespace Go.Proofs.YtbamildjaolheaaDoor.Flt
open Go.RowKit Go.PlainAid

/-- The wraps' blocks are as they were. -/
def KeptW (w w' : World) : Prop := ∀ (g : Nat) (cs : Array Value), w.heap[g]? = some (.cells cs 50 (0, 0)) → w'.heap[g]? = w.heap[g]?
theorem KeptW.trans {a b c : World} (h : KeptW a b) (k : KeptW b c) : KeptW a c := fun g cs hg => (k g cs ((h g cs hg).trans hg)).trans (h g cs hg)
theorem KeptW.below {w w' : World} (b : Below w.heap.size w w') : KeptW w w' := fun g _ hg => b.block g (lt_of_block hg)
theorem KeptW.grown {w w' : World} {B n : Nat} {v : Value} {xs : List Value} (hown : w.ownsRow B 29 1 v n xs) (h : w.grownBy w' v.ownBlock) : KeptW w w' := by
  intro g cs hg
  refine h.block g (lt_of_block hg) ?_
  intro e
  rcases hown.2 with ⟨rfl, _⟩ | ⟨g', cap, cur, rfl, _, hc, _⟩
  · simp [Value.ownBlock] at e
  · simp only [Value.ownBlock, Option.some.injEq] at e
    subst e
    rw [hg] at hc
    simp at hc
theorem KeptW.setRow {w : World} {B : Nat} {cs old : Array Value} (h : w.heap[B]? = some (.cells old 27 (0, 0))) : KeptW w (w.setRow B cs) := by
  intro g cs' hg
  refine setRow_other _ _ _ _ ?_
  rintro rfl
  rw [hg] at h
  simp at h
theorem IsFault.only {w w' : World} (b : KeptW w w') : ∀ {ws : List (Bool × Int)} {x : Value} {k : Int}, IsFault w x ws k → IsFault w' x ws k
  | [], _, _, h => h
  | (_, _) :: _, _, _, ⟨g, y, e, hg, hy⟩ => ⟨g, y, e, (b g _ hg).trans hg, hy.only b⟩
theorem want_grown {w w' : World} {B b n : Nat} {v : Value} {xs : List Value} {cs : Array Value} (hown : w.ownsRow B 29 1 v n xs) (h : w.grownBy w' v.ownBlock) (hb : w.heap[b]? = some (.cells cs 27 (0, 0))) : w'.heap[b]? = some (.cells cs 27 (0, 0)) := by
  refine (h.block b (lt_of_block hb) ?_).trans hb
  intro e
  rcases hown.2 with ⟨rfl, _⟩ | ⟨g', cap, cur, rfl, _, hc, _⟩
  · simp [Value.ownBlock] at e
  · simp only [Value.ownBlock, Option.some.injEq] at e
    subst e
    rw [hb] at hc
    simp at hc
theorem owns_setRow {w : World} {B b n : Nat} {v : Value} {xs : List Value} {cs old : Array Value} (hown : w.ownsRow B 29 1 v n xs) (hb : w.heap[b]? = some (.cells old 27 (0, 0))) : (w.setRow b cs).ownsRow B 29 1 v n xs := by
  refine ⟨hown.1, ?_⟩
  rcases hown.2 with h | ⟨g, cap, cur, h1, h2, h3, h4⟩
  · exact .inl h
  · refine .inr ⟨g, cap, cur, h1, h2, ?_, h4⟩
    rw [setRow_other, h3]
    rintro rfl
    rw [h3] at hb
    simp at hb
theorem first_snoc_nil : ∀ {xs : List Value} {x : Value}, (∀ y ∈ xs, IsErr y) → IsErr x → firstV xs = .nilIface → firstV (xs ++ [x]) = x
  | [], x, _, hx, _ => by
    rcases hx with rfl | ⟨u, y, rfl⟩ <;> rfl
  | z :: xs, x, h, hx, hf => by
    have ht : ∀ y ∈ xs, IsErr y := fun y hy => h y (List.mem_cons_of_mem _ hy)
    rcases h z (List.mem_cons_self ..) with rfl | ⟨u, y, rfl⟩
    · exact (first_snoc_nil (xs := xs) ht hx hf : _)
    · cases hf
theorem first_snoc_some : ∀ {xs : List Value} {x : Value} {u : TypeId} {y : Value}, (∀ y ∈ xs, IsErr y) → firstV xs = .iface u y → firstV (xs ++ [x]) = .iface u y
  | [], _, _, _, _, hf => by cases hf
  | z :: xs, x, u, y, h, hf => by
    have ht : ∀ y ∈ xs, IsErr y := fun y hy => h y (List.mem_cons_of_mem _ hy)
    rcases h z (List.mem_cons_self ..) with rfl | ⟨u', y', rfl⟩
    · exact (first_snoc_some (xs := xs) (x := x) ht hf : _)
    · exact hf
theorem infoE : (Tryd.prog.info? 29).map (fun i => (i.zero, i.size, i.bytes)) = some (some .nilIface, 1, 16) := by kernel_rfl
theorem fault_err {w : World} {x : Value} {ws : List (Bool × Int)} {k : Int} (h : IsFault w x ws k) : ∃ u y, x = .iface u y := by
  cases ws with
  | nil => exact ⟨_, _, h⟩
  | cons a ws => obtain ⟨g, y, e, _⟩ := h; exact ⟨_, _, e⟩
theorem owns_errs {w : World} {B n : Nat} {l : Value} {xs : List Value} (h : w.ownsRow B 29 1 l n xs) (hx : ∀ x ∈ xs, IsErr x) : xs.length = n ∧ ∃ A cap, l = .slice A n cap ∧ IsErrs w A xs := by
  have hl : xs.length = n := by simpa using h.1
  refine ⟨hl, ?_⟩
  rcases h.2 with ⟨rfl, h0⟩ | ⟨g, cap, cur, rfl, _, h3, _, _, _, h5⟩
  · exact ⟨none, 0, by rw [h0], fun i hi => by omega⟩
  · refine ⟨_, cap, rfl, fun i hi => ⟨g, rfl, ?_, hx _ (List.getElem_mem _)⟩⟩
    rw [cell_of_row w _ _ _ _ _ h3]
    have e : (cur.toList.take (n * 1))[i]? = xs[i]? := by rw [h5]
    rw [List.getElem?_take_of_lt (by omega)] at e
    rw [← Array.getElem?_toList, e]
    simp [hi]
theorem eq_flt (a b c : Int) (w : World) : (Op.equalIn 10000 27 (.agg #[.int .i64 a, .int .i64 b, .int .i64 c]) (.agg #[.int .i64 a, .int .i64 b, .int .i64 c])).run Tryd.prog w = .ok true w := by
  have hS : Tryd.prog.underlying 27 = some (.struct (Tryd.prog.fieldsOf 27)) := by kernel_rfl
  rw [show (10000 : Nat) = 9999 + 1 from rfl, run_equalIn_agg w 9999 27 _ _ hS (by kernel_rfl)]
  simp only [Program.fieldsOf, Tryd.underlying27]
  go_simp
end Go.Proofs.YtbamildjaolheaaDoor.Flt
