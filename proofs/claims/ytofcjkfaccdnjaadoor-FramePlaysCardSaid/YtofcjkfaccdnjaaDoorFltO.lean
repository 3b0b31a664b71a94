
/- What fault's outermost does: of nil nothing, of a class or a wrap that itself; nothing that was there has changed. Condition: the error is one of these. What package fault's parts does at a fault: its wraps, the outermost first, in memory of its own, and its class; nothing that was there has changed. Condition: there are at most a million wraps. What package fault's Of tells of a fault: its class, the outermost section and the outermost place; of nil nothing; and First, of errors. Condition: there are at most a million wraps. -/

import Derived.Test.YtofcjkfaccdnjaaDoorFltAs

import Derived.Test.YtofcjkfaccdnjaaDoorFltB

namespace Go.Proofs.YtofcjkfaccdnjaaDoor.Flt

open Go.RowKit Go.PlainAid

theorem chain_below (w : World) (o1 o2 o3 o4 o5 : Obj) : Below w.heap.size w (((((w.alloc o5).alloc o1).alloc o2).alloc o3).alloc o4) :=
  Below.alloc (Below.alloc (Below.alloc (Below.alloc (Below.alloc (Below.refl _ _) (Nat.le_refl _) _) (by simp) _) (by simp; omega) _) (by simp; omega) _) (by simp; omega) _

end Go.Proofs.YtofcjkfaccdnjaaDoor.Flt

namespace Go.Proofs.YtofcjkfaccdnjaaDoor.Flt

open Go.RowKit Go.PlainAid

/-- The blocks gs are the wraps ws. -/
def WrapsAt (w : World) : List Nat → List (Bool × Int) → Prop
  | [], [] => True
  | g :: gs, (b, n) :: ws => (∃ y, w.heap[g]? = some (.cells #[.bool b, .int .i64 n, y] 122 (0, 0))) ∧ WrapsAt w gs ws
  | _, _ => False
theorem WrapsAt.snoc {w : World} : ∀ {gs : List Nat} {ws : List (Bool × Int)} (_ : WrapsAt w gs ws) {g : Nat} {b : Bool} {n : Int} (_ : ∃ y, w.heap[g]? = some (.cells #[.bool b, .int .i64 n, y] 122 (0, 0))), WrapsAt w (gs ++ [g]) (ws ++ [(b, n)])
  | [], [], _, _, _, _, h => ⟨h, trivial⟩
  | _ :: _, (_, _) :: _, ⟨h1, h2⟩, _, _, _, h => ⟨h1, h2.snoc h⟩
  | [], _ :: _, h, _, _, _, _ => h.elim
  | _ :: _, [], h, _, _, _, _ => h.elim
theorem WrapsAt.length {w : World} : ∀ {gs : List Nat} {ws : List (Bool × Int)}, WrapsAt w gs ws → gs.length = ws.length
  | [], [], _ => rfl
  | _ :: _, (_, _) :: _, ⟨_, h⟩ => by simp [h.length]
  | [], _ :: _, h => h.elim
  | _ :: _, [], h => h.elim
theorem WrapsAt.get {w : World} : ∀ {gs : List Nat} {ws : List (Bool × Int)} (_ : WrapsAt w gs ws) (i : Nat) (hi : i < ws.length) (hg : i < gs.length), ∃ y, w.heap[gs[i]]? = some (.cells #[.bool ws[i].1, .int .i64 ws[i].2, y] 122 (0, 0))
  | _ :: _, (_, _) :: _, ⟨h, _⟩, 0, _, _ => h
  | _ :: _, (_, _) :: _, ⟨_, h⟩, i + 1, hi, hg => h.get i (by simpa using hi) (by simpa using hg)
  | [], [], _, _, hi, _ => by simp at hi
  | [], _ :: _, h, _, _, _ => h.elim
  | _ :: _, [], h, _, _, _ => h.elim
theorem WrapsAt.kept {w w' : World} (b : Below w.heap.size w w') : ∀ {gs : List Nat} {ws : List (Bool × Int)}, WrapsAt w gs ws → WrapsAt w' gs ws
  | [], [], h => h
  | _ :: _, (_, _) :: _, ⟨⟨y, hy⟩, h⟩ => ⟨⟨y, (b.block _ (lt_of_block hy)).trans hy⟩, h.kept b⟩
  | [], _ :: _, h => h.elim
  | _ :: _, [], h => h.elim

def ptrs (gs : List Nat) : List Value := gs.map fun g => .pointer (some ⟨g, 0, none⟩)
def PartsPost (w : World) (ws : List (Bool × Int)) (k : Int) (e : Ending) (w' : World) : Prop :=
  ∃ (l : Value) (gs : List Nat), e = .returned (.tuple #[l, .int .i64 k]) ∧ WrapsAt w gs ws ∧ w'.ownsRow w.heap.size 120 1 l gs.length (ptrs gs) ∧ Below w.heap.size w w'
def lenOf : Value → Nat
  | .slice _ n _ => n
  | _ => 0
theorem owns_len {w : World} {B e n : Nat} {v : Value} {xs : List Value} (h : w.ownsRow B e 1 v n xs) : lenOf v = n := by
  rcases h.2 with ⟨rfl, rfl⟩ | ⟨g, cap, cur, rfl, _⟩ <;> rfl

theorem owns_kept {w w' : World} {B e size n : Nat} {v : Value} {xs : List Value} (h : w.ownsRow B e size v n xs) (b : Below w.heap.size w w') : w'.ownsRow B e size v n xs := by
  refine ⟨h.1, ?_⟩
  rcases h.2 with h | ⟨g, cap, cur, h1, h2, h3, h4⟩
  · exact .inl h
  · exact .inr ⟨g, cap, cur, h1, h2, (b.block g (lt_of_block h3)).trans h3, h4⟩
theorem infoW : (Tryd.prog.info? 120).map (fun i => (i.zero, i.size, i.bytes)) = some (some (.pointer none), 1, 8) := by kernel_rfl

def PRel (w : World) (ws : List (Bool × Int)) (k : Int) (l p : Value) (wr : World) : Prop :=
  ∃ (gs : List Nat) (done rest : List (Bool × Int)), done ++ rest = ws ∧ WrapsAt w gs done ∧ IsFault w p rest k ∧ wr.ownsRow w.heap.size 120 1 l gs.length (ptrs gs) ∧ Below w.heap.size w wr
end Go.Proofs.YtofcjkfaccdnjaaDoor.Flt

namespace Go.Proofs.YtofcjkfaccdnjaaDoor.Flt

open Go.RowKit Go.PlainAid

/-- The outermost section, the outermost place. -/
def secOf : List (Bool × Int) → Int
  | [] => 0
  | (true, n) :: _ => n
  | (false, _) :: r => secOf r
def atOf : List (Bool × Int) → Int
  | [] => 0
  | (false, n) :: _ => n
  | (true, _) :: r => atOf r
def fltV (k s a : Int) : Value := .agg #[.int .i64 k, .int .i64 s, .int .i64 a]

/-- A slice of pointers that reads as the blocks gs. -/
def IsPtrs (w : World) (A : Option Addr) (gs : List Nat) : Prop := ∀ i (h : i < gs.length), ∃ r, A = some ⟨r, 0, none⟩ ∧ w.cell? ⟨r, i, none⟩ = some (.pointer (some ⟨gs[i], 0, none⟩))
theorem owns_ptrs {w : World} {B : Nat} {l : Value} {gs : List Nat} (h : w.ownsRow B 120 1 l gs.length (ptrs gs)) : ∃ A cap, l = .slice A gs.length cap ∧ gs.length ≤ cap ∧ IsPtrs w A gs := by
  rcases h.2 with ⟨rfl, h0⟩ | ⟨g, cap, cur, rfl, _, h3, h4, _, _, h5⟩
  · exact ⟨none, 0, by rw [h0], by omega, fun i hi => by omega⟩
  · refine ⟨_, cap, rfl, h4, fun i hi => ⟨g, rfl, ?_⟩⟩
    rw [cell_of_row w _ _ _ _ _ h3]
    have e : (cur.toList.take (gs.length * 1))[i]? = (ptrs gs)[i]? := by rw [h5]
    rw [List.getElem?_take_of_lt (by omega)] at e
    rw [← Array.getElem?_toList, e]
    simp [ptrs, hi]
theorem IsPtrs.kept {w w' : World} {A : Option Addr} {gs : List Nat} (h : IsPtrs w A gs) (b : Below w.heap.size w w') : IsPtrs w' A gs := by
  intro i hi
  obtain ⟨r, e, hc⟩ := h i hi
  exact ⟨r, e, (b.cell (Go.block_lt_of_cell hc)).trans hc⟩
theorem sec_drop (ws : List (Bool × Int)) (j : Nat) (h : j < ws.length) : secOf (ws.drop j) = if ws[j].1 then ws[j].2 else secOf (ws.drop (j + 1)) := by
  rw [List.drop_eq_getElem_cons h]
  rcases ws[j] with ⟨b, n⟩
  cases b <;> rfl
theorem at_drop (ws : List (Bool × Int)) (j : Nat) (h : j < ws.length) : atOf (ws.drop j) = if ws[j].1 then atOf (ws.drop (j + 1)) else ws[j].2 := by
  rw [List.drop_eq_getElem_cons h]
  rcases ws[j] with ⟨b, n⟩
  cases b <;> rfl
def fltCells (k s a : Int) : Array Value := #[.int .i64 k, .int .i64 s, .int .i64 a]
theorem one_flt (k s a : Int) : (#[Value.int .i64 k, .int .i64 s, .int .i64 a]).all (·.oneCell') = true := by simp [Value.oneCell']

end Go.Proofs.YtofcjkfaccdnjaaDoor.Flt
