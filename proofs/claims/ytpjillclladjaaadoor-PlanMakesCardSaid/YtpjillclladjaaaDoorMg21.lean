/- Worlds of which just a block and a row have changed; rows of the call's own. It says nothing of the program. No condition. Acts of the program's: their order, and a row of the call's own of which two are swapped. Condition: none. -/
import Derived.Test.YtpjillclladjaaaDoorProg
import Derived.WalkKit
import Derived.PlainAid
import Derived.Lib.Hide
import Derived.Deep.CutRange
import Derived.BigQuiet
import Derived.BigRegion
import Derived.Deep.RegionHeld3
import Derived.OwnWalk
import Derived.IntWalk
import Derived.Laws.AppendOwn
import Derived.Laws.OwnMore
import Derived.Lib.SliceRun
import Derived.Deep.CutBlock
import Derived.Test.YtpjillclladjaaaDoorMg20
import Derived.Deep.WholeRow
import Derived.Laws.CopyOwn
namespace Go.Proofs.YtpjillclladjaaaDoor.Cel

open Go.RowKit Go.PlainAid

set_option linter.unusedVariables false

theorem own_slice {w : World} {B e s n : Nat} {v : Value} {xs : List Value} (h : w.ownsRow B e s v n xs) : ∃ A c, v = .slice A n c := by
  rcases h.2 with ⟨rfl, rfl⟩ | ⟨g, cap, cur, rfl, _⟩
  · exact ⟨none, 0, rfl⟩
  · exact ⟨_, _, rfl⟩
theorem own_keep {w w' : World} {B e s n : Nat} {v : Value} {xs : List Value} (h : w.ownsRow B e s v n xs) (b : Below w.heap.size w w') : w'.ownsRow B e s v n xs := by
  refine ⟨h.1, ?_⟩
  rcases h.2 with h | ⟨g, cap, cur, h1, h2, h3, h4⟩
  · exact .inl h
  · exact .inr ⟨g, cap, cur, h1, h2, (b.block g (lt_of_block h3)).trans h3, h4⟩
/-- Just block g and the row A have changed. -/
structure Two (g : Nat) (A : Option Addr) (w w' : World) : Prop where
  os : w'.os = w.os
  tape : w'.tape = w.tape
  output : w'.output = w.output
  size : w.heap.size ≤ w'.heap.size
  block : ∀ k, k < w.heap.size → k ≠ g → (∀ a, A = some a → a.block ≠ k) → w'.heap[k]? = w.heap[k]?
theorem Two.refl (g : Nat) (A : Option Addr) (w : World) : Two g A w w := ⟨rfl, rfl, rfl, Nat.le_refl _, fun _ _ _ _ => rfl⟩
theorem Two.trans {g : Nat} {A : Option Addr} {a b c : World} (h : Two g A a b) (k : Two g A b c) : Two g A a c :=
  ⟨k.os.trans h.os, k.tape.trans h.tape, k.output.trans h.output, Nat.le_trans h.size k.size, fun i hi h1 h2 => (k.block i (Nat.lt_of_lt_of_le hi h.size) h1 h2).trans (h.block i hi h1 h2)⟩
theorem two_below {g : Nat} {A : Option Addr} {w w' : World} (b : Below w.heap.size w w') : Two g A w w' := ⟨b.os, b.tape, b.output, b.size, fun k hk _ _ => b.block k hk⟩
theorem two_cell {g : Nat} {A : Option Addr} (w : World) (a : Addr) (v : Value) (h : a.block = g ∨ ∃ b, A = some b ∧ b.block = a.block) : Two g A w (w.setCell a v) :=
  ⟨rfl, rfl, rfl, by simp, fun k _ h1 h2 => heap_setCell_other w a k v (by
    rcases h with h | ⟨b, hb, h⟩
    · rw [h]; exact h1
    · intro e; exact h2 b hb (by rw [h]; exact e.symm))⟩
theorem Two.below {g : Nat} {A : Option Addr} {w0 w w' : World} {B : Nat} (h : Below B w0 w) (k : Two g A w w') (hB : B ≤ w.heap.size) (hg : B ≤ g) (hA : ∀ a, A = some a → B ≤ a.block) : Below B w0 w' :=
  ⟨k.os.trans h.os, k.tape.trans h.tape, k.output.trans h.output, Nat.le_trans h.size k.size, fun i hi => (k.block i (by omega) (by omega) (fun a ha => by have := hA a ha; omega)).trans (h.block i hi)⟩
theorem own_at {w : World} {B e s n c : Nat} {A : Option Addr} {xs : List Value} (h : w.ownsRow B e s (.slice A n c) n xs) : ∀ a, A = some a → a = ⟨a.block, 0, none⟩ ∧ B ≤ a.block ∧ a.block < w.heap.size := by
  intro a ha
  subst ha
  obtain ⟨h1, h2⟩ := h.lt a.block rfl
  rcases h.2 with ⟨h0, _⟩ | ⟨g, c', cur, h0, _⟩
  · injection h0 with h3; cases h3
  · injection h0 with h3
    obtain rfl := Option.some.inj h3
    exact ⟨rfl, h1, h2⟩
theorem own_base {w : World} {B B' e s n : Nat} {v : Value} {xs : List Value} (h : w.ownsRow B e s v n xs) (hB : B' ≤ B) : w.ownsRow B' e s v n xs := by
  refine ⟨h.1, ?_⟩
  rcases h.2 with h | ⟨g, cap, cur, h1, h2, h3⟩
  · exact .inl h
  · exact .inr ⟨g, cap, cur, h1, by omega, h3⟩
theorem own_apart {w w' : World} {g : Nat} {R : Option Addr} {B e s n c : Nat} {A : Option Addr} {xs : List Value} (h : w.ownsRow B e s (.slice A n c) n xs) (t : Two g R w w') (h1 : ∀ a, A = some a → a.block ≠ g) (h2 : ∀ a b, A = some a → R = some b → b.block ≠ a.block) : w'.ownsRow B e s (.slice A n c) n xs := by
  refine ⟨h.1, ?_⟩
  rcases h.2 with h | ⟨r, cap, cur, h3, h4, h5, h6⟩
  · exact .inl h
  · injection h3 with h7 h8 h9
    subst h7
    refine .inr ⟨r, cap, cur, by rw [h9], h4, (t.block r (lt_of_block h5) (h1 _ rfl) (fun b hb => h2 _ b rfl hb)).trans h5, h6⟩
end Go.Proofs.YtpjillclladjaaaDoor.Cel
namespace Go.Proofs.YtpjillclladjaaaDoor.Srt

open Go.RowKit Go.PlainAid

open Go.Proofs.YtpjillclladjaaaDoor.Cel (Two two_below)

set_option linter.unusedVariables false

set_option linter.unusedSimpArgs false

theorem setRow_same (w : World) (g : Nat) (cur : Array Value) (t : TypeId) (hg : w.heap[g]? = some (.cells cur t (0, 0))) : w.setRow g cur = w := by
  have hlt : g < w.heap.size := (Array.getElem?_eq_some_iff.1 hg).1
  have hv : w.heap[g] = .cells cur t (0, 0) := (Array.getElem?_eq_some_iff.1 hg).2
  unfold World.setRow
  cases w with
  | mk heap tape drawn os output =>
    congr 1
    apply Array.ext
    · simp
    · intro k h1 h2
      simp only [Array.getElem_modify]
      split
      · rename_i hk; subst hk; simp at hv; simp [hv]
      · rfl
theorem setCells_row (g : Nat) (t : TypeId) : ∀ (vs : List Value) (o : Nat) (cur : Array Value) (w : World), w.heap[g]? = some (.cells cur t (0, 0)) → o + vs.length ≤ cur.size → w.setCells g o vs = w.setRow g (splice cur.toList o vs).toArray
  | [], o, cur, w, hg, h => by
    have e : (splice cur.toList o []).toArray = cur := by simp [splice]
    rw [e, setRow_same w g cur t hg]; rfl
  | v :: r, o, cur, w, hg, h => by
    have hl : o < cur.size := by simp at h; omega
    have ih := setCells_row g t r (o + 1) (cur.setIfInBounds o v) (w.setRow g (cur.setIfInBounds o v)) (setRow_heap w g cur _ t _ hg) (by simp at h ⊢; omega)
    rw [World.setCells, setCell_eq_setRow w g o cur t (0, 0) v hg, ih, setRow_setRow]
    congr 2
    unfold splice
    apply List.ext_getElem?
    intro k
    simp only [Array.toList_setIfInBounds, List.getElem?_append, List.length_take, List.length_set, Array.length_toList, List.length_cons, List.getElem?_drop, List.getElem?_take, List.getElem?_cons, List.getElem?_set]
    have m1 : min (o + 1) cur.size = o + 1 := by omega
    have m2 : min o cur.size = o := by omega
    rw [m1, m2]
    by_cases h1 : k < o
    · rw [if_pos (by omega), if_pos (by omega), if_neg (by omega), if_pos h1, if_pos h1]
    · by_cases h2 : k = o
      · subst h2
        rw [if_pos (by omega), if_pos (by omega), if_pos rfl, if_pos hl, if_neg h1, if_pos (by omega), if_pos (by omega)]
      · rw [if_neg (by omega), if_neg h1]
        by_cases h3 : k - (o + 1) < r.length
        · rw [if_pos h3, if_pos (by omega), if_neg (by omega)]
          first | rfl | (congr 1; omega) | (congr 1)
        · rw [if_neg h3, if_neg (by omega), if_neg (by omega)]
          first | rfl | (congr 1; omega) | (congr 1)
theorem run_storeVar_at {P : Program} (w : World) (g o : Nat) (t ty : TypeId) (cur cells : Array Value) (hg : w.heap[g]? = some (.cells cur t (0, 0))) (hi : (P.info? ty).map (·.size) = some cells.size)
    (ho : o + cells.size ≤ cur.size) (h1 : cells.all (·.oneCell') = true) :
    (storeVar ty ⟨g, o, none⟩ (.agg cells)).run P w = .ok () (w.setRow g (splice cur.toList o cells.toList).toArray) := by
  have hc : ∀ j, j < cells.toList.length → (w.cell? ⟨g, o + 0 + j, none⟩).isSome = true := fun j hj => by
    rw [cell_of_row _ _ _ _ _ _ hg, Array.getElem?_eq_getElem (by simp at hj; omega)]; rfl
  have hf : ∀ j, j < cells.toList.length → w.frozen? ⟨g, o + 0 + j, none⟩ = false := fun j _ => by simp [World.frozen?, hg]
  have := run_storeCells_cells (P := P) g o cells.toList 0 w hc hf (fun v hv => (Array.all_eq_true_iff_forall_mem.1 h1) v (by simpa using hv))
  rw [Nat.add_zero, setCells_row g t _ o cur w hg (by simpa using ho)] at this
  cases hq : P.info? ty with
  | none => simp [hq] at hi
  | some i =>
    have hs : cells.size = i.size := by simp [hq] at hi; omega
    simp [storeVar, sizeOf, typeInfo, hq, Value.cells, hs, this]
/-- clear(s) of elements of three cells. -/
theorem run_clear3 {P : Program} (w : World) (t e : TypeId) (z : Value) (vs : List Value) (ht : P.underlying t = some (.slice e)) (hv : ∀ w, (zeroValue e).run P w = .ok z w) (hz : z.cells = vs.toArray) (h3 : vs.length = 3) (h1 : ∀ v ∈ vs, v.oneCell' = true) (g o n c : Nat) (hn : 0 < n)
    (cur : Array Value) (T : TypeId) (hg : w.heap[g]? = some (.cells cur T (0, 0))) (hfit : o + n * 3 ≤ cur.size) :
    ∃ zs : List Value, zs.length = n * 3 ∧ ∀ ty, (Builtin.clear_ #[t] ty #[.slice (some ⟨g, o, none⟩) n c]).run P w = .ok (.tuple #[]) (w.setRow g (splice cur.toList o zs).toArray) := by
  have hzl : (Builtin.zeroCells z.cells n).toList.length = n * 3 := by
    rw [hz]; simp [Builtin.zeroCells, h3]
  have hz1 : ∀ v ∈ (Builtin.zeroCells z.cells n).toList, v.oneCell' = true := fun v hv => by
    rw [hz] at hv
    unfold Builtin.zeroCells at hv
    rw [List.size_toArray, h3, Array.toList_map, List.mem_map] at hv
    obtain ⟨k, hk, rfl⟩ := hv
    have hk3 : k % 3 < vs.toArray.size := by rw [List.size_toArray]; omega
    rw [getElem!_pos vs.toArray (k % 3) hk3]
    exact h1 _ (by simp)
  refine ⟨(Builtin.zeroCells z.cells n).toList, hzl, fun ty => ?_⟩
  have hc : ∀ j, j < (Builtin.zeroCells z.cells n).toList.length → (w.cell? ⟨g, o + 0 + j, none⟩).isSome = true := fun j hj => by
    rw [cell_of_row _ _ _ _ _ _ hg, Array.getElem?_eq_getElem (by omega)]; rfl
  have hf : ∀ j, j < (Builtin.zeroCells z.cells n).toList.length → w.frozen? ⟨g, o + 0 + j, none⟩ = false := fun j _ => by simp [World.frozen?, hg]
  have hst := run_storeCells_cells (P := P) g o (Builtin.zeroCells z.cells n).toList 0 w hc hf hz1
  rw [Nat.add_zero, setCells_row g T _ o cur w hg (by omega)] at hst
  obtain ⟨m, rfl⟩ : ∃ m, n = m + 1 := ⟨n - 1, by omega⟩
  simp [Builtin.clear_, run_underlying ht, hv, hst]

theorem below_drewS {B : Nat} {a w : World} (h : Below B a w) : Below B a w.drew := ⟨h.os, h.tape, h.output, h.size, h.block⟩
theorem al_two (w : World) (o1 o2 : Obj) : Below w.heap.size w ((w.alloc o1).alloc o2) := ((Below.refl _ _).alloc (Nat.le_refl _) o1).alloc (by simp) o2
theorem second_new (w : World) (o1 o2 : Obj) : ((w.alloc o1).alloc o2).heap[w.heap.size + 1]? = some o2 := by
  have := heap_alloc_new (w.alloc o1) o2
  simpa using this
def cmpI (x y : Int) : Int := if x < y then -1 else if y < x then 1 else 0
theorem nan_any (x : Int) (w : World) : Calls Tryd.prog 103 #[.int .i64 x] w fun e w' => e = .returned (.bool false) ∧ w = w' := by
  go_enter Tryd.func103, Tryd.ntmps103
  go_wp2
  go_ret
  exact ⟨rfl, rfl⟩
def actC (t : A3) : Array Value := #[.int .i64 t.s, .int .i64 t.p, .int .i64 t.a]
def cmpA (x y : A3) : Int := if cmpI x.s y.s = 0 then cmpI x.p y.p else cmpI x.s y.s
theorem cmp_less (x y : A3) : cmpA x y < 0 ↔ lt x y := by
  unfold cmpA cmpI lt
  split <;> (repeat' split at *) <;> omega
theorem cmp_same (x y : A3) : cmpA x y = 0 ↔ same x y := by
  unfold cmpA cmpI same
  split <;> (repeat' split at *) <;> omega
def actL (t : A3) : List Value := [.int .i64 t.s, .int .i64 t.p, .int .i64 t.a]
def flatA (l : List A3) : List Value := l.flatMap actL
theorem flatA_app (l m : List A3) : flatA (l ++ m) = flatA l ++ flatA m := by simp [flatA]
theorem flatA_len (l : List A3) : (flatA l).length = l.length * 3 := by
  induction l with
  | nil => rfl
  | cons x l ih => simp [flatA, actL] at ih ⊢; omega
theorem flatA_get (l : List A3) (i : Nat) (x : A3) (h : l[i]? = some x) (tl : List Value) (j : Nat) (hj : j < 3) : (flatA l ++ tl)[i * 3 + j]? = (actL x)[j]? := by
  have hi := (List.getElem?_eq_some_iff.1 h).1
  have e : l = l.take i ++ x :: l.drop (i + 1) := by
    have h2 := (List.getElem?_eq_some_iff.1 h).2
    rw [← h2, ← List.drop_eq_getElem_cons hi, List.take_append_drop]
  have e2 : flatA l = flatA (l.take i) ++ (actL x ++ flatA (l.drop (i + 1))) := by
    conv => lhs; rw [e]
    rw [flatA_app]; rfl
  have hl : (flatA (l.take i)).length = i * 3 := by rw [flatA_len, List.length_take]; omega
  rw [e2, List.append_assoc, List.getElem?_append_right (by omega), hl, Nat.add_sub_cancel_left, List.append_assoc, List.getElem?_append_left (by show j < 3; exact hj)]
theorem flatA_take (l : List A3) : ∀ i, (flatA l).take (i * 3) = flatA (l.take i) := by
  intro i
  rcases Nat.lt_or_ge i l.length with h | h
  · have e : flatA l = flatA (l.take i) ++ flatA (l.drop i) := by rw [← flatA_app, List.take_append_drop]
    rw [e, List.take_left' (by rw [flatA_len, List.length_take]; omega)]
  · rw [List.take_of_length_le (by rw [flatA_len]; omega), List.take_of_length_le h]
theorem flatA_drop (l : List A3) : ∀ i, (flatA l).drop (i * 3) = flatA (l.drop i) := by
  intro i
  rcases Nat.lt_or_ge i l.length with h | h
  · have e : flatA l = flatA (l.take i) ++ flatA (l.drop i) := by rw [← flatA_app, List.take_append_drop]
    rw [e, List.drop_left' (by rw [flatA_len, List.length_take]; omega)]
  · rw [List.drop_of_length_le (by rw [flatA_len]; omega), List.drop_of_length_le h]; rfl
theorem splice_flat (l : List A3) (tl : List Value) (i : Nat) (x : A3) (h : i < l.length) : splice (flatA l ++ tl) (i * 3) (actL x) = flatA (l.set i x) ++ tl := by
  unfold splice
  have h3 : (actL x).length = 3 := rfl
  rw [List.take_append_of_le_length (by rw [flatA_len]; omega), flatA_take, List.drop_append_of_le_length (by rw [flatA_len, h3]; omega), h3, show i * 3 + 3 = (i + 1) * 3 by omega, flatA_drop]
  have e : l.set i x = l.take i ++ (x :: l.drop (i + 1)) := by
    rw [List.set_eq_take_append_cons_drop, if_pos h]
  have e2 : flatA (x :: l.drop (i + 1)) = actL x ++ flatA (l.drop (i + 1)) := rfl
  rw [e, flatA_app, e2, List.append_assoc, List.append_assoc]
theorem two_row (g : Nat) (w : World) (cs : Array Value) : Two g none w (w.setRow g cs) := ⟨rfl, rfl, rfl, by simp [World.setRow], fun k _ h1 _ => setRow_other _ _ _ _ h1⟩
theorem two_drew (g : Nat) (w : World) : Two g none w w.drew := ⟨rfl, rfl, rfl, Nat.le_refl _, fun _ _ _ _ => rfl⟩
end Go.Proofs.YtpjillclladjaaaDoor.Srt
