
/- Cells of a partition: what the program's calls do to them. Condition: at most a thousand cells. -/

import Derived.Test.YtjdgpbjjhgfikaaCelA

namespace Go.Proofs.Ytjdgpbjjhgfikaa.Cel

open Go.RowKit Go.PlainAid Go.Proofs.Ytjdgpbjjhgfikaa.Args

set_option linter.unusedVariables false

set_option linter.unusedSimpArgs false

section

variable {B : Nat} {FA : Option Addr} {fc : Nat} {fs : List C2} {A : Option Addr} {c : Nat} {ns : List Nat} {n : Nat} {wr : Int}

theorem has_yes (g : Nat) (i : Nat) (w : World) (h : IsC w B g FA fc fs A c ns n wr) (hi : i < n) :
    Calls Try.prog 64 #[.pointer (some ⟨g, 0, none⟩), .int .i64 (i : Int)] w fun e w' => e = .returned (.bool true) ∧ w = w' := by
  obtain ⟨c0, c1, c2⟩ := h.cells
  have t0 : decide ((0 : Int) ≤ (i : Int)) = true := decide_eq_true (by omega)
  have t1 : decide ((i : Int) < (n : Int)) = true := decide_eq_true (by omega)
  have t1n : decide (i < n) = true := decide_eq_true hi
  clear h hi
  go_enter Try.func64, Try.ntmps64
  go_wp2
  go_ret
  exact ⟨rfl, rfl⟩
theorem has_no (g : Nat) (i : Int) (w : World) (h : IsC w B g FA fc fs A c ns n wr) (hi : i < 0 ∨ (n : Int) ≤ i) :
    Calls Try.prog 64 #[.pointer (some ⟨g, 0, none⟩), .int .i64 i] w fun e w' => e = .returned (.bool false) ∧ w = w' := by
  obtain ⟨c0, c1, c2⟩ := h.cells
  clear h
  rcases hi with hi | hi
  · have t0 : decide ((0 : Int) ≤ i) = false := decide_eq_false (by omega)
    clear hi
    go_enter Try.func64, Try.ntmps64
    go_wp2
    go_ret
    exact ⟨rfl, rfl⟩
  · have t0 : decide ((0 : Int) ≤ i) = true := decide_eq_true (by omega)
    have t1 : decide (i < (n : Int)) = false := decide_eq_false (by omega)
    clear hi
    go_enter Try.func64, Try.ntmps64
    go_wp2
    go_ret
    exact ⟨rfl, rfl⟩
theorem set_out (g : Nat) (i : Int) (v : Nat) (w : World) (h : IsC w B g FA fc fs A c ns n wr) (hi : i < 0 ∨ (n : Int) ≤ i) :
    Calls Try.prog 42 #[.pointer (some ⟨g, 0, none⟩), .int .i64 i, .int .u32 (v : Int)] w fun e w' => e = .returned (.bool false) ∧ w = w' := by
  have HY := Lib.hid (has_no g i w h hi)
  clear h hi
  go_enter Try.func42, Try.ntmps42
  go_wp2_with fail
  refine HY.out.mono ?_
  rintro e w' ⟨rfl, rfl⟩
  go_wp2
  go_ret
  exact ⟨rfl, rfl⟩
theorem set_in (g i v : Nat) (w : World) (h : IsC w B g FA fc fs A c ns n wr) (hin : i < n) (hw : 0 ≤ wr ∧ wr ≤ 1000000) :
    Calls Try.prog 42 #[.pointer (some ⟨g, 0, none⟩), .int .i64 (i : Int), .int .u32 (v : Int)] w fun e w' => e = .returned (.bool true) ∧ IsC w' B g FA fc fs A c (ns.set i v) n (wr + 1) ∧ Two g A w w' := by
  obtain ⟨c0, c1, c2⟩ := h.cells
  obtain ⟨u, hu⟩ : ∃ u, ns[i]? = some u := ⟨_, List.getElem?_eq_getElem (by rw [h.nlen]; exact hin)⟩
  obtain ⟨x, hA, hc⟩ := h.numsAt i u hu
  obtain ⟨hx, -, -⟩ := own_at h.own x hA
  obtain ⟨r, hr⟩ : ∃ r, x.block = r := ⟨_, rfl⟩
  rw [hr] at hx
  subst hx
  have hs := h.stored hA i v
  have hfz : w.frozen? ⟨r, i, none⟩ = false := by
    have h2 := h.own
    rw [hA] at h2
    exact h2.frozenAt i
  rw [add_at] at hc
  have HY := Lib.hid (has_yes g i w h hin)
  have t0 : (0 : Int) ≤ i := by omega
  have t1 : (i : Int) < n := by omega
  have tw : IntKind.i64.wrap (wr + 1) = wr + 1 := IntWalk.i64_in _ (by omega)
  have HS := Lib.hid hs
  subst hA
  clear h hu hr hin hs
  go_enter Try.func42, Try.ntmps42
  go_wp2_with fail
  refine HY.out.mono ?_
  rintro e w' ⟨rfl, rfl⟩
  go_upto_region 4 with fail
  have HI := HS.out.1
  have HT := HS.out.2
  obtain ⟨W, hW⟩ : ∃ W, w.setCell ⟨r, i, none⟩ (.int .u32 (v : Int)) = W := ⟨_, rfl⟩
  rw [hW] at HI HT
  rw [hW]
  obtain ⟨d0, d1, d2⟩ := HI.cells
  have dz := HI.free 2
  have HW2 := Lib.hid (HI.wrote (wr + 1))
  have HT2 := Lib.hid HT
  clear HI HT hW c0 c1 c2 HS hc hfz
  go_wp2
  go_ret
  exact ⟨rfl, HW2.out.1, HT2.out.trans HW2.out.2⟩
theorem all_any (g : Nat) (w : World) (h : IsC w B g FA fc fs A c ns n wr) (hn : n ≤ 1000) :
    Calls Try.prog 72 #[.pointer (some ⟨g, 0, none⟩)] w fun e w' => ∃ V, e = .returned V ∧ w'.ownsRow w.heap.size 40 1 V n (vs ns) ∧ Below w.heap.size w w' := by
  obtain ⟨c0, c1, c2⟩ := h.cells
  obtain ⟨h1, h2, h3, h4⟩ := own_nums h.own h.nlen
  have hl := h.nlen
  have HC := Lib.hid (cnums_any A c ns w h1 h2 (by omega) (by omega))
  rw [hl] at HC
  have HL := Lib.hid hl
  clear h h1 h2 h3 h4 hn hl
  go_enter Try.func72, Try.ntmps72
  go_wp2_with fail
  refine HC.out.mono ?_
  rintro e w1 ⟨V, rfl, ho, hb⟩
  have HO := Lib.hid ho
  have HB := Lib.hid hb
  clear ho hb
  go_wp2
  go_ret
  exact ⟨V, rfl, by have h := HO.out; rw [HL.out] at h; exact h, HB.out⟩
theorem cold1_any (x : C2) (w : World) :
    Calls Try.prog 79 #[.agg #[.int .u32 (x.v : Int), .bool x.kept]] w fun e w' => e = .returned (.bool true) ∧ Below w.heap.size w w' := by
  obtain ⟨v, k⟩ := x
  go_enter Try.func79, Try.ntmps79
  go_wp2
  go_ret
  exact ⟨rfl, (Below.refl _ _).alloc (Nat.le_refl _) _⟩
theorem warm1_any (x : C2) (w : World) :
    Calls Try.prog 78 #[.agg #[.int .u32 (x.v : Int), .bool x.kept]] w fun e w' => e = .returned (.bool (!x.kept)) ∧ Below w.heap.size w w' := by
  obtain ⟨v, k⟩ := x
  go_enter Try.func78, Try.ntmps78
  go_wp2
  go_ret
  exact ⟨rfl, (Below.refl _ _).alloc (Nat.le_refl _) _⟩
end

/-- What a start makes of the numbers: of each cell that goes back its value at first. -/
def startL (goes : C2 → Bool) : List C2 → List Nat → List Nat
  | x :: l, v :: m => (if goes x then x.v else v) :: startL goes l m
  | _, _ => []
theorem startL_len (goes : C2 → Bool) : ∀ (l : List C2) (m : List Nat), l.length = m.length → (startL goes l m).length = m.length
  | [], [], _ => rfl
  | x :: l, v :: m, h => by simp only [startL, List.length_cons]; rw [startL_len goes l m (by simpa using h)]
  | [], _ :: _, h => by simp at h
  | _ :: _, [], h => by simp at h
theorem startL_get (goes : C2 → Bool) : ∀ (l : List C2) (m : List Nat) (i : Nat) (x : C2) (v : Nat), l[i]? = some x → m[i]? = some v → (startL goes l m)[i]? = some (if goes x then x.v else v)
  | x :: l, v :: m, 0, y, u, h1, h2 => by
    obtain rfl : x = y := by simpa using h1
    obtain rfl : v = u := by simpa using h2
    simp [startL]
  | x :: l, v :: m, i + 1, y, u, h1, h2 => by
    simp only [startL, List.getElem?_cons_succ]
    exact startL_get goes l m i y u (by simpa using h1) (by simpa using h2)
  | [], _, i, y, u, h1, _ => by simp at h1
  | _ :: _, [], i, y, u, _, h2 => by simp at h2
/-- The first k cells have started. -/
def Begun (goes : C2 → Bool) (fs : List C2) (ns : List Nat) (k : Nat) (ms : List Nat) : Prop := ms.length = ns.length ∧ ∀ j, ms[j]? = if j < k then (startL goes fs ns)[j]? else ns[j]?
theorem Begun.zero (goes : C2 → Bool) (fs : List C2) (ns : List Nat) : Begun goes fs ns 0 ns := ⟨rfl, fun j => by simp⟩
theorem Begun.done {goes : C2 → Bool} {fs : List C2} {ns ms : List Nat} (h : Begun goes fs ns ns.length ms) (hl : fs.length = ns.length) : ms = startL goes fs ns := by
  apply List.ext_getElem?
  intro j
  rw [h.2 j]
  split
  · rfl
  · rw [List.getElem?_eq_none (by omega), List.getElem?_eq_none (by rw [startL_len _ _ _ hl]; omega)]
theorem Begun.yes {goes : C2 → Bool} {fs : List C2} {ns ms : List Nat} {k : Nat} {x : C2} {v : Nat} (h : Begun goes fs ns k ms) (hx : fs[k]? = some x) (hv : ns[k]? = some v) (hg : goes x = true) : Begun goes fs ns (k + 1) (ms.set k x.v) := by
  have hkl := (List.getElem?_eq_some_iff.1 hv).1
  refine ⟨by rw [List.length_set]; exact h.1, fun j => ?_⟩
  by_cases hj : j = k
  · subst hj
    rw [if_pos (by omega), startL_get _ _ _ _ _ _ hx hv, hg, List.getElem?_set, if_pos rfl, if_pos (by rw [h.1]; exact hkl)]
    simp
  · rw [List.getElem?_set, if_neg (fun e => hj e.symm), h.2 j]
    by_cases hlt : j < k
    · rw [if_pos hlt, if_pos (by omega)]
    · rw [if_neg hlt, if_neg (by omega)]
theorem Begun.no {goes : C2 → Bool} {fs : List C2} {ns ms : List Nat} {k : Nat} {x : C2} {v : Nat} (h : Begun goes fs ns k ms) (hx : fs[k]? = some x) (hv : ns[k]? = some v) (hg : goes x = false) : Begun goes fs ns (k + 1) ms := by
  refine ⟨h.1, fun j => ?_⟩
  rw [h.2 j]
  by_cases hj : j = k
  · subst hj
    rw [if_neg (by omega), if_pos (by omega), startL_get _ _ _ _ _ _ hx hv, hg, hv]
    simp
  · by_cases hlt : j < k
    · rw [if_pos hlt, if_pos (by omega)]
    · rw [if_neg hlt, if_neg (by omega)]
end Go.Proofs.Ytjdgpbjjhgfikaa.Cel
