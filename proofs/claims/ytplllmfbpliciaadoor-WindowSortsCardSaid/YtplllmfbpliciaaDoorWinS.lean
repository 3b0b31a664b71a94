
/- Windows, by where they stand: what package window's Sort tells. No condition but that there are at most 2 to the power 40. -/

import Derived.Test.YtplllmfbpliciaaDoorWinA

import Derived.Test.YtplllmfbpliciaaDoorShelfS

import Derived.Sort.OwnSortedInts

namespace Go.Proofs.YtplllmfbpliciaaDoor.Win

open Go.RowKit Go.PlainAid Go.Proofs.YtplllmfbpliciaaDoor.Oct Go.Proofs.YtplllmfbpliciaaDoor.Flt Go.Proofs.YtplllmfbpliciaaDoor.Rdr Go.Proofs.YtplllmfbpliciaaDoor.Args

open Go.Proofs.YtplllmfbpliciaaDoor.Act (A3 actL flatA flatA_len flatA_get ActsAt I64 Wide)

open Go.Sort (grow putRow putCells Holds)

open Go.Shelf Go.Lib Go.Sort

set_option linter.unusedVariables false

set_option linter.unusedSimpArgs false

theorem holds_vals {w : World} {g : Nat} {cur : Array Value} {e : TypeId} {xs : List Value} (hb : w.heap[g]? = some (.cells cur e (0, 0))) (ht : cur.toList.take xs.length = xs) : Holds id w g 0 xs.toArray := by
  intro j hj
  have hj' : j < xs.length := by simpa using hj
  refine ⟨?_, by simp [World.frozen?, hb]⟩
  have h1 : (cur.toList.take xs.length)[j]? = xs[j]? := by rw [ht]
  rw [List.getElem?_take_of_lt hj'] at h1
  simp only [World.cell?, hb, Nat.zero_add]
  simp only [Option.isSome_none, Bool.false_eq_true, if_false]
  rw [← Array.getElem?_toList, h1]
  simp [hj']
theorem heap_vals {w : World} {g n : Nat} {os : Array Obj} {cur : Array Value} {e : TypeId} {fr : Nat × Nat} (d : Array Value) (hb : w.heap[g]? = some (.cells cur e fr)) :
    (grow (putRow id (Sort.ahead w n) g 0 d) os).heap[g]? = some (.cells (putCells id 0 d cur) e fr) := by
  have hg : g < w.heap.size := (Array.getElem?_eq_some_iff.1 hb).1
  rw [Go.Sort.heap_grow_old _ _ (by simpa using hg)]
  simp [putRow, Go.Sort.mapBlock, Sort.ahead, Array.getElem?_modify, hb, Go.Sort.onCells]
theorem grown_vals {w : World} {g n : Nat} {os : Array Obj} (d : Array Value) : w.grownBy (grow (putRow id (Sort.ahead w n) g 0 d) os) (some g) := by
  refine ⟨rfl, rfl, rfl, by simp, fun k hk hne => ?_⟩
  rw [Go.Sort.heap_grow_old _ _ (by simpa using hk)]
  have : g ≠ k := fun e => hne (by rw [e])
  simp [putRow, Go.Sort.mapBlock, Sort.ahead, Array.getElem?_modify, this]
theorem take_vals (cur : Array Value) (ts : List Value) (h : ts.length ≤ cur.size) : (putCells id 0 ts.toArray cur).toList.take ts.length = ts := by
  apply List.ext_getElem?
  intro j
  by_cases hj : j < ts.length
  · rw [List.getElem?_take_of_lt hj, Array.getElem?_toList]
    simp [putCells, hj, show j < cur.size by omega]
  · rw [List.getElem?_take_eq_none (by omega), List.getElem?_eq_none (by omega)]
/-- A row of the call's own whose cells are laid anew. -/
theorem own_vals {w : World} {B g cap n m k : Nat} {e : TypeId} {os : Array Obj} {xs ys : List Value} (h : w.ownsRow B e k (.slice (some ⟨g, 0, none⟩) n cap) n xs) (hl : ys.length = xs.length) :
    (grow (putRow id (Sort.ahead w m) g 0 ys.toArray) os).ownsRow B e k (.slice (some ⟨g, 0, none⟩) n cap) n ys := by
  rcases h.2 with ⟨h0, _⟩ | ⟨g', cap', cur, e', hb, hg, h1, h2, h3, h4⟩
  · cases h0
  · cases e'
    have hn : n * k ≤ cap * k := Nat.mul_le_mul_right k h1
    refine ⟨by rw [hl, h.1], .inr ⟨g, cap, _, rfl, hb, heap_vals _ hg, h1, h2, by simp [putCells, h3], ?_⟩⟩
    have := take_vals cur ys (by rw [hl, h.1, h3]; exact hn)
    rw [hl, h.1] at this
    exact this
theorem flat_eq (l : List A3) : flatK actL 3 l.toArray = (flatA l).toArray := by
  apply Array.ext
  · simp [flatA_len]
  · intro t h1 h2
    have ht : t < l.length * 3 := by simpa using h1
    have hx : l[t / 3]? = some l[t / 3] := List.getElem?_eq_getElem (by omega)
    have hg := flatA_get l (t / 3) _ (t % 3) hx (by omega)
    rw [show t / 3 * 3 + t % 3 = t by omega] at hg
    have e1 := get_flatK actL 3 l.toArray t (by simpa using ht)
    rw [getElem!_pos _ t h1] at e1
    rw [e1]
    have e2 : (l.toArray)[t / 3]! = l[t / 3] := by rw [getElem!_pos _ _ (by simp; omega)]; simp
    rw [e2]
    have e3 : (actL l[t / 3])[t % 3]? = some ((flatA l)[t]'(by simpa using h2)) := by rw [← hg, List.getElem?_eq_getElem]
    have e4 : (actL l[t / 3])[t % 3]! = (flatA l)[t]'(by simpa using h2) := by simp [List.getElem!_eq_getElem?_getD, e3]
    rw [e4]
    simp
theorem flat_one (l : List A3) : ∀ v ∈ flatA l, v.oneCell' = true := by
  intro v hv
  obtain ⟨x, _, hx⟩ := List.mem_flatMap.1 hv
  simp [actL] at hx
  rcases hx with rfl | rfl | rfl <;> rfl
theorem add_more (y : Addr) (j k : Nat) (hk : 0 < k) : (⟨(y.add j).block, (y.add j).off + k, none⟩ : Addr) = y.add (j + k) := by
  unfold Addr.add
  rw [if_neg (show ¬ j + k = 0 by omega)]
  split
  · rename_i h; subst h; simp
  · simp; omega
theorem acts_flat {w : World} {y : Addr} {l : List A3} (h : ActsAt w (some y) l) : ∀ j v, (flatA l)[j]? = some v → w.cell? (y.add j) = some v := by
  intro j v hj
  have hjl : j < l.length * 3 := by rw [← flatA_len]; exact (List.getElem?_eq_some_iff.1 hj).1
  obtain ⟨x, hx⟩ : ∃ x, l[j / 3]? = some x := ⟨_, List.getElem?_eq_getElem (by omega)⟩
  obtain ⟨y', hy, c1, c2, c3⟩ := h (j / 3) x hx
  obtain rfl := Option.some.inj hy
  rw [add_more _ _ _ (by omega)] at c2 c3
  have hg := flatA_get l (j / 3) x (j % 3) hx (by omega)
  rw [show j / 3 * 3 + j % 3 = j by omega, hj] at hg
  rcases (show j % 3 = 0 ∨ j % 3 = 1 ∨ j % 3 = 2 by omega) with h0 | h0 | h0
  · rw [h0] at hg; rw [show j = j / 3 * 3 by omega, c1]; exact hg.symm
  · rw [h0] at hg; rw [show j = j / 3 * 3 + 1 by omega, c2]; exact hg.symm
  · rw [h0] at hg; rw [show j = j / 3 * 3 + 2 by omega, c3]; exact hg.symm
theorem infoWin : (Tryd.prog.info? 39).map (fun i => (i.zero, i.size, i.bytes)) = some (some (.agg #[.int .i64 0, .int .i64 0, .int .i64 0]), 3, 24) := by kernel_rfl
/-- Windows in a row of the call's own. -/
def WPost (l : List A3) (w : World) (e : Ending) (w' : World) : Prop := ∃ V, e = .returned V ∧ w'.ownsRow w.heap.size 39 3 V l.length (flatA l) ∧ Below w.heap.size w w'
set_option maxRecDepth 4000 in
set_option maxHeartbeats 800000 in
theorem clone_any (A : Option Addr) (cap : Nat) (l : List A3) (w : World) (hx : ActsAt w A l) (hnil : A = none → cap = 0) (hlc : l.length ≤ cap) (hl : l.length ≤ 1099511627776) :
    Calls Tryd.prog 20 #[.slice A l.length cap] w (WPost l w) := by
  obtain ⟨i0, hi, hz0, hz1, hz2⟩ := info_parts infoWin
  cases A with
  | none =>
    obtain rfl := hnil rfl
    obtain rfl : l = [] := List.eq_nil_of_length_eq_zero (by omega)
    have he : ∀ W, (binOp .eql 22 (.slice none 0 0) (.slice none 0 0)).run Tryd.prog W = .ok (.bool true) W := fun W => Lib.run_eql_slice_nil W _ _ none 0 0 0 0 Tryd.underlying22
    clear hx hnil hl hi
    go_enter Tryd.func20, Tryd.ntmps20
    go_wp2
    go_ret
    exact ⟨_, rfl, World.ownsRow_nil _ _ _ _, Below.refl _ _⟩
  | some a =>
    have hb0 : Below w.heap.size w (w.alloc (.cells #[] 39)) := (Below.refl _ _).alloc (Nat.le_refl _) _
    have HX := Lib.hid (acts_flat (hx.kept hb0))
    have HB := Lib.hid hb0
    have HO : Hid ((w.alloc (.cells #[] 39)).ownsRow w.heap.size 39 3 (.slice (some ⟨w.heap.size, 0, none⟩) 0 0) 0 []) := World.ownsRow_lit w #[] 0 (Nat.le_refl _) (Nat.zero_le _) rfl
    have HFL := Lib.hid (flatA_len l)
    have HON := Lib.hid (flat_one l)
    obtain ⟨LL, hLL⟩ : ∃ LL, l.length = LL := ⟨_, rfl⟩
    have HLL := Lib.hid hLL
    rw [hLL] at hl hlc HFL
    rw [hLL]
    clear hx hnil hb0 hLL
    obtain ⟨ab, ao, asp⟩ := a
    have he : ∀ W, (binOp .eql 22 (.slice (some ⟨ab, ao, asp⟩) LL cap) (.slice none 0 0)).run Tryd.prog W = .ok (.bool false) W := fun W => Lib.run_eql_slice_nil W _ _ (some ⟨ab, ao, asp⟩) LL cap 0 0 Tryd.underlying22
    go_enter Tryd.func20, Tryd.ntmps20
    go_wp2_with (at_builtin; refine wpList_append_own _ rfl _ _ 22 rfl w.heap.size 39 i0 (.agg #[.int .i64 0, .int .i64 0, .int .i64 0]) 3 24 Tryd.underlying22 hi hz0 hz1 hz2 rfl (by decide) _ 0 [] rfl HO.out ⟨ab, ao, asp⟩ LL cap (flatA l) rfl ?c1 ?c2 ?c3 ?c4 ?c5 ?c6 ?_)
    case c1 => exact HFL.out
    case c2 => exact HX.out
    case c3 => exact HON.out
    case c4 => unfold maxLen; omega
    case c5 => omega
    case c6 => simp
    intro v' w2 ho2 hg2 _
    have hb2 := HB.out.grown hg2 (by simp) (fun j hj => by first | (simp [Value.ownBlock] at hj; omega) | exact (ho2.lt j hj).1)
    clear hg2
    go_wp2
    go_ret
    exact ⟨v', rfl, by rw [HLL.out]; simpa using ho2, hb2⟩
def sortV : Value := .func (.func 22) #[] #[]
theorem sortf_any (g c B : Nat) (l : List A3) (w : World) (h : w.ownsRow B 39 3 (.slice (some ⟨g, 0, none⟩) l.length c) l.length (flatA l)) (hl : l.length ≤ 1099511627776) :
    Calls Tryd.prog 21 #[.slice (some ⟨g, 0, none⟩) l.length c, sortV] w fun e w' => e = .returned (.tuple #[]) ∧ w'.ownsRow B 39 3 (.slice (some ⟨g, 0, none⟩) l.length c) l.length (flatA (sortW l)) ∧ w.grownBy w' (some g) := by
  have hH : HoldsK actL 3 w g 0 l.toArray := by
    rcases h.2 with ⟨h0, _⟩ | ⟨g', cap', cur, e', hb, hg, h1, h2, h3, h4⟩
    · cases h0
    · cases e'
      unfold HoldsK
      rw [flat_eq]
      exact holds_vals hg (by rw [flatA_len]; exact h4)
  have hgl : g < w.heap.size := (h.lt g rfl).2
  have eg : ∀ args w, (callFunc 22 args).run Tryd.prog w = .ok (.enter 22 args) w := enters_of Tryd.func22 (by kernel_rfl) rfl
  have hcon := AnyQ.slices_SortFunc_total Tryd.sortWin 3 Tryd.isAgg39 Tryd.sizeOf39 actL (fun _ => rfl) (fun x v hv => flat_one [x] v (by simpa [flatA] using hv)) cmpW swoW 22 #[] g 0 c l.toArray w eg (fun _ _ _ _ x y => compareW_any x y _) hH hgl (by simp; omega) totalW
  have e0 : (List.mergeSort l.toArray.toList fun x y => !ltOf cmpW y x) = sortW l := by rw [List.toList_toArray]; exact sort_eq l
  rw [e0] at hcon
  refine hcon.mono ?_
  rintro e w' ⟨rfl, n, os, rfl⟩
  unfold sortWorldK putRowK
  rw [flat_eq]
  exact ⟨rfl, own_vals h (by rw [flatA_len, flatA_len, sort_len]), grown_vals _⟩
set_option maxRecDepth 4000 in
theorem wsort_any (A : Option Addr) (cap : Nat) (l : List A3) (w : World) (hx : ActsAt w A l) (hnil : A = none → cap = 0) (hlc : l.length ≤ cap) (hl : l.length ≤ 1099511627776) :
    Calls Tryd.prog 10 #[.slice A l.length cap] w (WPost (sortW l) w) := by
  have HC := Lib.hid (clone_any A cap l w hx hnil hlc hl)
  have HL : Hid (l.length ≤ 1099511627776) := hl
  unfold WPost
  rw [sort_len]
  clear hx hnil hlc hl
  go_enter Tryd.func10, Tryd.ntmps10
  go_wp2_with fail
  refine HC.out.mono ?_
  rintro e w1 ⟨V, rfl, ho, hb⟩
  rcases ho.2 with ⟨rfl, hz⟩ | ⟨g, c, cur, rfl, hbase, hg, r1, r2, r3, r4⟩
  · obtain rfl : l = [] := List.eq_nil_of_length_eq_zero hz
    have HS := Lib.hid (AnyF.slices_SortFunc_none Tryd.sortWin none 0 sortV w1)
    unfold sortV at HS
    have HB := Lib.hid hb
    have HO := Lib.hid ho
    clear ho hb hz
    go_wp2_with fail
    refine HS.out.mono ?_
    rintro e w2 ⟨rfl, rfl⟩
    go_wp2
    go_ret
    exact ⟨_, rfl, HO.out, HB.out⟩
  · have HS := Lib.hid (sortf_any g c w.heap.size l w1 ho HL.out)
    unfold sortV at HS
    have HB := Lib.hid hb
    have HG : Hid (w.heap.size ≤ g) := hbase
    obtain ⟨n, hn⟩ : ∃ n, l.length = n := ⟨_, rfl⟩
    have HN := Lib.hid hn
    rw [hn] at HS
    rw [hn]
    clear ho hb hg r1 r2 r3 r4 hbase hn
    go_wp2_with fail
    refine HS.out.mono ?_
    rintro e w2 ⟨rfl, ho2, hg2⟩
    have HO := Lib.hid ho2
    have HB2 : Hid (Below w.heap.size w w2) := HB.out.grown hg2 HB.out.size (fun k hk => by cases hk; exact HG.out)
    clear ho2 hg2
    go_wp2
    go_ret
    exact ⟨_, rfl, by rw [HN.out]; exact HO.out, HB2.out⟩
end Go.Proofs.YtplllmfbpliciaaDoor.Win
