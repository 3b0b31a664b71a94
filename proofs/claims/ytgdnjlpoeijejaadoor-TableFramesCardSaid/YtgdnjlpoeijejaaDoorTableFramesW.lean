
/- The function TableFrames returns true for every schedule. Condition: the package-level variables hold what the program lays in them (the card ties that). This text: the walk through the Go text; the row is in the text without the W at its name's end. -/

import Derived.Test.YtgdnjlpoeijejaaDoorArgs

import Derived.Test.YtgdnjlpoeijejaaDoorTabH

import Derived.Test.YtgdnjlpoeijejaaDoorTabE

import Derived.Test.YtgdnjlpoeijejaaDoorWinF

import Derived.Test.YtgdnjlpoeijejaaDoorWinY

import Derived.Test.YtgdnjlpoeijejaaDoorWinO

import Derived.Deep.RegionHeld3

namespace Go.Proofs.YtgdnjlpoeijejaaDoor.tableFrames

open Go.RowKit Go.PlainAid Go.Proofs.YtgdnjlpoeijejaaDoor.Args

set_option linter.unusedVariables false

open Go.Proofs.YtgdnjlpoeijejaaDoor.Flt Go.Proofs.YtgdnjlpoeijejaaDoor.Rdr Go.Proofs.YtgdnjlpoeijejaaDoor.Oct Go.Proofs.YtgdnjlpoeijejaaDoor.Win Go.Proofs.YtgdnjlpoeijejaaDoor.Tab

open Go.Proofs.YtgdnjlpoeijejaaDoor.Act (A3 actL flatA flatA_get flatA_len ActsAt I64 Wide acts_of)

open Go.Proofs.YtgdnjlpoeijejaaDoor.Scd (SC scC rgS rgS_in rowB sright09_any)

set_option linter.unusedSimpArgs false

/-- A schedule that came in by value. -/
theorem sched_in2 {w : World} {a : Array Value} (h : IsAgg w [.one (.int .i64), .one (.int .i64), .recs [.int .i64, .int .i64, .int .i64], .recs [.int .i64, .int .i64, .int .i64]] a) :
    ∃ (x : SC) (B : Option Addr) (cb : Nat) (C : Option Addr) (cc : Nat), a = scC x B cb C cc ∧ ActsAt w B x.ws ∧ (∀ y ∈ x.ws, Wide y) ∧ I64 x.fr ∧ ActsAt w C x.ns ∧ x.ws.length ≤ maxLen ∧ x.ns.length ≤ maxLen := by
  obtain ⟨hs, hf⟩ := h
  obtain ⟨v0, e0, id, rfl, w0⟩ := hf 0 _ rfl
  obtain ⟨v1, e1, fr, rfl, w1⟩ := hf 1 _ rfl
  obtain ⟨v2, e2, B, bl, bc, rfl, w2⟩ := hf 2 _ rfl
  obtain ⟨v3, e3, C, cl, cc, rfl, w3⟩ := hf 3 _ rfl
  obtain ⟨ws, hw1, hw2, hw3, hw4, hw5⟩ := acts_of w2
  obtain ⟨ns, hn1, hn2, hn3, hn4, hn5⟩ := acts_of w3
  refine ⟨⟨id, fr, ws, ns⟩, B, bc, C, cc, ?_, hw2, hw3, bounds_i64 w1, hn2, by dsimp only; omega, by dsimp only; omega⟩
  have hs4 : a.size = 4 := hs
  unfold scC
  apply Array.ext_getElem?
  intro i
  rcases (show i = 0 ∨ i = 1 ∨ i = 2 ∨ i = 3 ∨ 4 ≤ i by omega) with rfl | rfl | rfl | rfl | h
  · exact e0
  · exact e1
  · rw [e2, ← hw1]; rfl
  · rw [e3, ← hn1]; rfl
  · rw [Array.getElem?_eq_none (by omega), Array.getElem?_eq_none (by simp; omega)]
/-- The schedule's box. -/
structure SB (xs : Array Value) (w W : World) : Prop where
  box : W.heap[w.heap.size]? = some (.cells xs 25 (0, 0))
  below : Below w.heap.size w W
theorem SB.keep {xs : Array Value} {w W W' : World} (f : SB xs w W) (k : Below W.heap.size W W') : SB xs w W' :=
  ⟨(k.block _ (lt_of_block f.box)).trans f.box, f.below.trans (k.mono f.below.size)⟩
theorem SB.grown {xs : Array Value} {w W W' : World} {row : Option Nat} (f : SB xs w W) (hg : W.grownBy W' row) (hr : ∀ k, row = some k → w.heap.size + 1 ≤ k) : SB xs w W' :=
  ⟨(hg.block _ (lt_of_block f.box) (fun e => by have := hr _ e.symm; omega)).trans f.box, f.below.grown hg f.below.size (fun k e => by have := hr k e; omega)⟩
theorem SB.cells {c0 c1 c2 c3 : Value} {w W : World} (f : SB #[c0, c1, c2, c3] w W) :
    W.cell? ⟨w.heap.size, 0, none⟩ = some c0 ∧ W.cell? ⟨w.heap.size, 1, none⟩ = some c1 ∧ W.cell? ⟨w.heap.size, 2, none⟩ = some c2 ∧ W.cell? ⟨w.heap.size, 3, none⟩ = some c3 := by
  refine ⟨?_, ?_, ?_, ?_⟩
  all_goals (rw [cell_of_row W _ _ _ _ _ f.box]; rfl)
/-- The table and the cursor beside. -/
structure ST (xs : Array Value) (g q : Nat) (id fr : Int) (A : Option Addr) (c : Nat) (L : List A3) (t : Int) (r : Nat) (w W : World) : Prop where
  sb : SB xs w W
  tab : IsT W g id fr A c L
  cur : IsC W q g t r
theorem ST.keep {xs : Array Value} {g q : Nat} {id fr : Int} {A : Option Addr} {c : Nat} {L : List A3} {t : Int} {r : Nat} {w W W' : World} (f : ST xs g q id fr A c L t r w W) (k : Below W.heap.size W W') : ST xs g q id fr A c L t r w W' :=
  ⟨f.sb.keep k, f.tab.kept k, f.cur.kept k⟩
theorem ST.drewN {xs : Array Value} {g q : Nat} {id fr : Int} {A : Option Addr} {c : Nat} {L : List A3} {t : Int} {r : Nat} {w W : World} (f : ST xs g q id fr A c L t r w W) (n : Nat) : ST xs g q id fr A c L t r w (W.drewN n) := f.keep ⟨rfl, rfl, rfl, Nat.le_refl _, fun _ _ => rfl⟩
theorem ST.step {xs : Array Value} {g q : Nat} {id fr : Int} {A : Option Addr} {c : Nat} {L : List A3} {t t' : Int} {r r' : Nat} {w W W' : World} (f : ST xs g q id fr A c L t r w W) (j : Just q W W') (hc : IsC W' q g t' r') (hg : g ≠ q) (hA : ∀ a, A = some a → a.block ≠ q) (hq : w.heap.size < q) : ST xs g q id fr A c L t' r' w W' :=
  ⟨⟨(j.block _ (lt_of_block f.sb.box) (by omega)).trans f.sb.box, ⟨j.os.trans f.sb.below.os, j.tape.trans f.sb.below.tape, j.output.trans f.sb.below.output, Nat.le_trans f.sb.below.size j.size, fun k hk => (j.block k (Nat.lt_of_lt_of_le hk f.sb.below.size) (by omega)).trans (f.sb.below.block k hk)⟩⟩, f.tab.just j hg hA, hc⟩
theorem own_ints {w : World} {B n : Nat} {A : Option Addr} {c : Nat} {zs : List Int} (h : w.ownsRow B 3 1 (.slice A n c) n (zs.map (Value.int .i64))) (hn : zs.length = n) : IntsBelow w.heap.size w (.slice A n c) zs := by
  rcases h.2 with ⟨e, h0⟩ | ⟨g, cap, cur, e, _, hg, _⟩
  · cases e
    exact .inl ⟨rfl, List.eq_nil_of_length_eq_zero hn⟩
  · cases e
    refine .inr ⟨⟨g, 0, none⟩, c, by rw [hn], fun _ => lt_of_block hg, fun j hj => ?_⟩
    have hc := h.cellAt j (by omega)
    have hz : zs[j]? = some zs[j] := List.getElem?_eq_getElem hj
    rw [List.getElem?_map, hz] at hc
    have e : (Addr.mk g 0 none).add j = ⟨g, j, none⟩ := by cases j <;> simp [Addr.add]
    rw [e, hz]
    exact hc
theorem num_of {x : A3} (h : rowB x = true) : Num x ∧ 0 ≤ x.s ∧ x.s ≤ 255 := by
  unfold rowB Go.Proofs.YtgdnjlpoeijejaaDoor.Scd.tkB Go.Proofs.YtgdnjlpoeijejaaDoor.Act.idB at h
  simp at h
  unfold Num
  omega
theorem mod_step (k m : Nat) (hm : 1 ≤ m) : (k + 1) % m = if k % m + 1 = m then 0 else k % m + 1 := by
  have hd := Nat.div_add_mod k m
  have hlt := Nat.mod_lt k (show 0 < m by omega)
  generalize k / m = d at hd
  generalize k % m = t at hd hlt ⊢
  rw [← hd, Nat.add_assoc, Nat.mul_add_mod]
  split
  · rename_i h; rw [h, Nat.mod_self]
  · rw [Nat.mod_eq_of_lt (by omega)]
def IdRel (xs : Array Value) (l : List A3) (w : World) (i v : Value) (wr : World) : Prop :=
  ∃ (k : Nat) (A : Option Addr) (c : Nat), k ≤ l.length ∧ i = .int .i64 (k : Int) ∧ v = .slice A k c ∧ wr.ownsRow (w.heap.size + 1) 3 1 (.slice A k c) k (((l.take k).map (·.s)).map (Value.int .i64)) ∧ SB xs w wr
set_option maxRecDepth 8000 in
set_option maxHeartbeats 12800000 in
theorem walk (a0 : Array Value) (w : World) (w0 : IsAgg w [.one (.int .i64), .one (.int .i64), .recs [.int .i64, .int .i64, .int .i64], .recs [.int .i64, .int .i64, .int .i64]] a0) (hn : Go.Proofs.YtgdnjlpoeijejaaDoor.Flt.Names w) :
    Calls Tryd.prog 4 #[.agg a0] w fun e w' => e = .returned (.bool true) ∧ Below w.heap.size w w' := by
  obtain ⟨i0, hi, hz0, hz1, hz2⟩ := info_parts infoInt
  obtain ⟨x, P, pc, C, cc, rfl, hacts, hwide, hfr, hns, hl1, hl2⟩ := sched_in2 w0
  have hb0 : Below w.heap.size w (w.alloc (.cells (scC x P pc C cc) 25)) := (Below.refl _ _).alloc (Nat.le_refl _) _
  have HBX : Hid (SB (scC x P pc C cc) w (w.alloc (.cells (scC x P pc C cc) 25))) := ⟨heap_alloc_new _ _, hb0⟩
  have HRT := Lib.hid (sright09_any x P pc C cc _ (hacts.kept hb0) (hns.kept hb0) hl1 hl2)
  have HN := Lib.hid hn
  have HACT := Lib.hid hacts
  have HWD := Lib.hid hwide
  obtain ⟨rg, hrg⟩ : ∃ r, rgS x = r := ⟨_, rfl⟩
  rw [hrg] at HRT
  have HRG := Lib.hid hrg
  obtain ⟨id, fr, l, ns⟩ := x
  unfold scC at HBX HRT ⊢
  dsimp only at HBX HRT HACT HWD ⊢
  obtain ⟨nl, hnl⟩ : ∃ n, l.length = n := ⟨_, rfl⟩
  have HNL := Lib.hid hnl
  obtain ⟨nn, hnn⟩ : ∃ n, ns.length = n := ⟨_, rfl⟩
  rw [hnl] at HBX HRT ⊢
  rw [hnn] at HBX HRT ⊢
  clear w0 hacts hwide hfr hns hl1 hl2 hb0 hrg hnl hnn hn
  obtain ⟨y0, y1, y2, y3⟩ := HBX.out.cells
  by_cases h40 : 40 < nl
  · have t1 : decide ((40 : Int) < (nl : Int)) = true := decide_eq_true (by omega)
    clear h40 HRT
    go_enter Tryd.func4, Tryd.ntmps4
    go_wp2_with (go_at_call 5; refine (awake17 _ (HN.out.kept HBX.out.below)).mono ?_; rintro e w' ⟨rfl, hb⟩; have HBF := Lib.hid (HBX.out.below.trans (hb.mono HBX.out.below.size)); clear hb)
    go_ret
    exact ⟨rfl, HBF.out⟩
  have t1 : decide ((40 : Int) < (nl : Int)) = false := decide_eq_false (by omega)
  by_cases h200 : 200 < fr
  · have t2 : decide ((200 : Int) < fr) = true := decide_eq_true h200
    clear h40 h200 HRT
    go_enter Tryd.func4, Tryd.ntmps4
    go_wp2_with (go_at_call 5; refine (awake17 _ (HN.out.kept HBX.out.below)).mono ?_; rintro e w' ⟨rfl, hb⟩; have HBF := Lib.hid (HBX.out.below.trans (hb.mono HBX.out.below.size)); clear hb)
    go_ret
    exact ⟨rfl, HBF.out⟩
  have t2 : decide ((200 : Int) < fr) = false := decide_eq_false h200
  go_enter Tryd.func4, Tryd.ntmps4
  go_wp2_with fail
  refine HRT.out.mono ?_
  rintro e w2 ⟨rfl, hb2⟩
  have HR2 := Lib.hid (HBX.out.keep hb2)
  clear hb2 HRT HBX y0 y1 y2 y3
  obtain ⟨y0, y1, y2, y3⟩ := HR2.out.cells
  by_cases hrg : rg = 0
  · subst hrg
    obtain ⟨hi1, hi2, hi3, hi4, _⟩ := rgS_in HRG.out
    dsimp only at hi1 hi2 hi3 hi4
    have hnum : ∀ x ∈ l, Num x := fun x hx => (num_of (hi4 x hx)).1
    obtain ⟨fn, rfl⟩ : ∃ n : Nat, fr = (n : Int) := ⟨fr.toNat, by omega⟩
    have HFN : Hid (1 ≤ fn ∧ fn ≤ 200) := by show _ ∧ _; omega
    have HN40 : Hid (nl ≤ 40) := by show _ ≤ _; omega
    have HNUM := Lib.hid hnum
    have HNEW : Hid (∀ (I : Option Addr) (ci : Nat) (W : World), SB #[.int .i64 id, .int .i64 (fn : Int), .slice P nl pc, .slice C nn cc] w W → IntsBelow W.heap.size W (.slice I nl ci) (l.map (·.s)) → _) := fun I ci W f hI => tnew_any id fn P pc l C nn cc I nl ci (l.map (·.s)) W (HN.out.kept f.below) hI (HACT.out.kept f.below) HWD.out ⟨HFN.out.1, by have := HFN.out; omega⟩ (by rw [HNL.out]; have := HN40.out; omega) (by rw [List.length_map, HNL.out]; have := HN40.out; omega)
    have HROW : Hid (∀ (t : Int) (W : World), Below w.heap.size w W → _) := fun t W b => rowner_any id (fn : Int) t P pc l C nn cc W (HACT.out.kept b) hnum ⟨by omega, by have := HFN.out; omega⟩ (by rw [HNL.out]; have := HN40.out; omega)
    rw [HNL.out] at HNEW HROW
    obtain ⟨f, hfe⟩ : ∃ f, ownT (fn : Int) l = f := ⟨_, rfl⟩
    rw [hfe] at HNEW HROW
    have HRU : Hid (Runs f (runsD f fn) fn) := ⟨gr_runs f fn, runs_len f fn, HFN.out.1, by have := HFN.out; omega⟩
    clear hi1 hi2 hi3 hi4 hnum hfe h40 h200 HRG
    have hb3 : Below w2.heap.size w2 (w2.alloc (.cells #[] 3)) := (Below.refl _ _).alloc (Nat.le_refl _) _
    have HS0 : Hid (IdRel #[.int .i64 id, .int .i64 (fn : Int), .slice P nl pc, .slice C nn cc] l w (.int .i64 0) (.slice (some ⟨w2.heap.size, 0, none⟩) 0 0) (w2.alloc (.cells #[] 3))) := ⟨0, _, 0, Nat.zero_le _, rfl, rfl, World.ownsRow_lit w2 #[] 0 (by have := lt_of_block HR2.out.box; omega) (Nat.zero_le _) rfl, HR2.out.keep hb3⟩
    have z2 := (HR2.out.keep hb3).cells.2.2.1
    clear hb3 HR2 y0 y1 y2 y3
    go_wp2_with fail
    clear z2
    go_loopw [33, 3] (fun i v wr => IdRel #[.int .i64 id, .int .i64 (fn : Int), .slice P nl pc, .slice C nn cc] l w i v wr) (fun i _ _ => nl - (intOf i).toNat)
    case atStart => exact HS0.out
    case round =>
      obtain ⟨k, A, c, hk, rfl, rfl, how, hsb⟩ := hrel
      have HOW := Lib.hid how
      have HSB := Lib.hid hsb
      have hka : k ≤ nl := by rw [← HNL.out]; exact hk
      clear hk how hsb HS0
      by_cases hlt : k < nl
      · obtain ⟨x, hx⟩ : ∃ x, l[k]? = some x := ⟨_, List.getElem?_eq_getElem (by rw [HNL.out]; exact hlt)⟩
        obtain ⟨ax, rfl, c1, c2, c3⟩ := (HACT.out.kept HSB.out.below) k x hx
        have htk : (l.take (k + 1)).map (·.s) = (l.take k).map (·.s) ++ [x.s] := by rw [List.take_add_one, hx]; simp
        have HTK := Lib.hid htk
        have hb5 : Below wr.heap.size wr (wr.alloc (.cells (winC x) 53)) := (Below.refl _ _).alloc (Nat.le_refl _) _
        have HS5 := Lib.hid (HSB.out.keep hb5)
        have HO5 := Lib.hid (owns_kept HOW.out hb5)
        obtain ⟨s1, p1, a1⟩ := x
        unfold winC at HS5 HO5
        dsimp only at c1 c2 c3 HS5 HO5 HTK
        have hki : (0 : Int) ≤ k := by omega
        have hkb : (k : Int) < nl := by omega
        have hn40 := HN40.out
        have hk1 : IntKind.i64.wrap ((k : Int) + 1) = (k : Int) + 1 := IntWalk.i64_in _ (by omega)
        have hszw := lt_of_block HSB.out.box
        clear hx htk hb5 HOW HSB
        obtain ⟨vs, hvs⟩ : ∃ vs, (((l.take k).map (·.s)).map (Value.int .i64)) = vs := ⟨_, rfl⟩
        rw [hvs] at HO5
        have HVS := Lib.hid hvs
        clear hvs
        have HR6 : Hid (((wr.alloc (.cells #[.int .i64 s1, .int .i64 p1, .int .i64 a1] 53)).alloc (.cells #[.int .i64 s1] 3)).ownsRow (w.heap.size + 1) 3 1 (.slice A k c) k vs) := HO5.out.alloc _
        have HS6 := Lib.hid (HS5.out.keep ((Below.refl _ _).alloc (Nat.le_refl _) (.cells #[.int .i64 s1] 3)))
        go_wp2_with (at_builtin; refine wpList_append_own _ rfl _ _ 26 rfl _ 3 i0 (.int .i64 0) 1 8 Tryd.underlying26 hi hz0 hz1 hz2 rfl (by decide) _ _ _ rfl HR6.out ⟨wr.heap.size + 1, 0, none⟩ 1 1 [.int .i64 s1] rfl rfl ?c1 ?c2 ?c3 ?c4 ?c5 ?_)
        case c2 => first | rfl | (intro u hu; simp at hu; subst hu; rfl; done) | (unfold maxLen; omega) | omega | (simp; omega) | (intro j u hj; have hrow := heap_alloc_new (wr.alloc (.cells #[.int .i64 s1, .int .i64 p1, .int .i64 a1] 53)) (.cells #[.int .i64 s1] 3); rw [World.size_alloc] at hrow; have e : (Addr.mk (wr.heap.size + 1) 0 none).add j = ⟨wr.heap.size + 1, j, none⟩ := (by cases j <;> simp [Addr.add]); rw [e, cell_of_row _ _ _ _ _ _ hrow, ← hj]; simp)
        case c3 => first | rfl | (intro u hu; simp at hu; subst hu; rfl; done) | (unfold maxLen; omega) | omega | (simp; omega) | (intro j u hj; have hrow := heap_alloc_new (wr.alloc (.cells #[.int .i64 s1, .int .i64 p1, .int .i64 a1] 53)) (.cells #[.int .i64 s1] 3); rw [World.size_alloc] at hrow; have e : (Addr.mk (wr.heap.size + 1) 0 none).add j = ⟨wr.heap.size + 1, j, none⟩ := (by cases j <;> simp [Addr.add]); rw [e, cell_of_row _ _ _ _ _ _ hrow, ← hj]; simp)
        case c4 => first | rfl | (intro u hu; simp at hu; subst hu; rfl; done) | (unfold maxLen; omega) | omega | (simp; omega) | (intro j u hj; have hrow := heap_alloc_new (wr.alloc (.cells #[.int .i64 s1, .int .i64 p1, .int .i64 a1] 53)) (.cells #[.int .i64 s1] 3); rw [World.size_alloc] at hrow; have e : (Addr.mk (wr.heap.size + 1) 0 none).add j = ⟨wr.heap.size + 1, j, none⟩ := (by cases j <;> simp [Addr.add]); rw [e, cell_of_row _ _ _ _ _ _ hrow, ← hj]; simp)
        case c5 => first | rfl | (intro u hu; simp at hu; subst hu; rfl; done) | (unfold maxLen; omega) | omega | (simp; omega) | (intro j u hj; have hrow := heap_alloc_new (wr.alloc (.cells #[.int .i64 s1, .int .i64 p1, .int .i64 a1] 53)) (.cells #[.int .i64 s1] 3); rw [World.size_alloc] at hrow; have e : (Addr.mk (wr.heap.size + 1) 0 none).add j = ⟨wr.heap.size + 1, j, none⟩ := (by cases j <;> simp [Addr.add]); rw [e, cell_of_row _ _ _ _ _ _ hrow, ← hj]; simp)
        intro V4 W4 ho4 hg4 _
        have HO4 : Hid (W4.ownsRow (w.heap.size + 1) 3 1 V4 (k + 1) (((l.take (k + 1)).map (·.s)).map (Value.int .i64))) := by
          show World.ownsRow _ _ _ _ _ _ _
          rw [HTK.out, List.map_append, HVS.out]
          exact ho4
        have HS7 := Lib.hid (HS6.out.grown hg4 (fun j hj => (HR6.out.lt j hj).1))
        obtain ⟨A4, c4, hV4⟩ := own_form ho4
        subst hV4
        clear ho4 hg4 HR6 HS6 HO5 HS5
        go_wp2
        go_roundw
        case rel => exact ⟨k + 1, A4, c4, by rw [HNL.out]; omega, by go_num, rfl, HO4.out, HS7.out⟩
        case measure => simp [intOf]; omega
      · obtain rfl : nl = k := by omega
        have hel : (l.take nl).map (·.s) = l.map (·.s) := by rw [List.take_of_length_le (by rw [HNL.out]; exact Nat.le_refl _)]
        have how := HOW.out
        rw [hel] at how
        have HNW := Lib.hid (HNEW.out A c wr HSB.out (own_ints how (by rw [List.length_map, HNL.out])))
        clear hel how HOW HNEW
        obtain ⟨y0, y1, y2, y3⟩ := HSB.out.cells
        go_wp2_with fail
        refine HNW.out.mono ?_
        rintro e w3 (⟨hk, g, A', c', rfl, hit, hnil, hlc, hb3⟩ | ⟨hk, x, rfl, hx, hb3⟩)
        · have HS3 := Lib.hid (HSB.out.keep hb3)
          have HIT3 := Lib.hid hit
          have HNC := Lib.hid (And.intro hnil hlc)
          clear hit hnil hlc hb3 hk HNW HSB y0 y1 y2 y3
          go_wp2_with fail
          refine (ccursor_any g w3).mono ?_
          rintro e w4 ⟨rfl, hc4, hb4⟩
          have hq : w.heap.size < w3.heap.size := lt_of_block HS3.out.box
          have hgq : g < w3.heap.size := lt_of_block HIT3.out.box
          have hA : ∀ a, A' = some a → a.block < w3.heap.size := fun a ha => by
            obtain ⟨x0, hx0⟩ : ∃ x', (runsD f fn)[0]? = some x' := by
              obtain ⟨k, y, hy, _⟩ := run_at HRU.out.gr (t := 0) (by omega) (by have := HRU.out.fr1; omega)
              have := (List.getElem?_eq_some_iff.1 hy).1
              exact ⟨_, List.getElem?_eq_getElem (by omega)⟩
            obtain ⟨b, hb, d0, _, _⟩ := HIT3.out.runs 0 x0 hx0
            rw [ha] at hb
            obtain rfl := Option.some.inj hb
            have h := Go.block_lt_of_cell d0
            rw [add_block] at h
            exact h
          have HST4 : Hid (ST #[.int .i64 id, .int .i64 (fn : Int), .slice P nl pc, .slice C nn cc] g w3.heap.size id (fn : Int) A' c' (runsD f fn) 0 0 w w4) := ⟨HS3.out.keep hb4, HIT3.out.kept hb4, hc4⟩
          obtain ⟨q, hqe⟩ : ∃ q, w3.heap.size = q := ⟨_, rfl⟩
          rw [hqe] at HST4 hq hgq hA
          rw [hqe]
          have HQ : Hid (w.heap.size < q ∧ g ≠ q ∧ ∀ a, A' = some a → a.block ≠ q) := ⟨hq, by omega, fun a ha => by have := hA a ha; omega⟩
          have hst0 : ∃ (r : Nat) (x : A3), ST #[.int .i64 id, .int .i64 (fn : Int), .slice P nl pc, .slice C nn cc] g q id (fn : Int) A' c' (runsD f fn) ((0 % fn : Nat) : Int) r w w4 ∧ AtRun (runsD f fn) ((0 % fn : Nat) : Int) r x := by
            obtain ⟨x', hx0⟩ : ∃ x', (runsD f fn)[0]? = some x' := by
              obtain ⟨k, y, hy, _⟩ := run_at HRU.out.gr (t := 0) (by omega) (by have := HRU.out.fr1; omega)
              have := (List.getElem?_eq_some_iff.1 hy).1
              exact ⟨_, List.getElem?_eq_getElem (by omega)⟩
            have hx00 := HRU.out.gr.at_ 0 x' hx0
            have hp0 : x'.p = 0 := by have := hx00.1; simpa [sumA] using this
            rw [Nat.zero_mod]
            exact ⟨0, x', HST4.out, at_run HRU.out.gr hx0 (by simp [hp0]) (by have := hx00.2.1; simp [hp0]; omega)⟩
          have HST0 := Lib.hid hst0
          have y1 := HST4.out.sb.cells.2.1
          have hf := HFN.out
          obtain ⟨n2, hn2⟩ : ∃ n2 : Nat, 2 * (fn : Int) = (n2 : Int) := ⟨2 * fn, by omega⟩
          have HN2 : Hid (n2 ≤ 400 ∧ n2 = 2 * fn) := by show _ ∧ _; omega
          have hw2 : IntKind.i64.wrap (2 * (fn : Int)) = (n2 : Int) := by rw [hn2]; exact IntWalk.i64_in _ (by omega)
          clear hn2
          clear hc4 hb4 hq hgq hA hqe hst0 HS3 HIT3 HST4
          go_wp2_with fail
          clear y1
          clear hw2 hf
          go_loopw [67] (fun i wr => ∃ k : Nat, k ≤ n2 ∧ i = .int .i64 (k : Int) ∧ ∃ (r : Nat) (x : A3), ST #[.int .i64 id, .int .i64 (fn : Int), .slice P nl pc, .slice C nn cc] g q id (fn : Int) A' c' (runsD f fn) ((k % fn : Nat) : Int) r w wr ∧ AtRun (runsD f fn) ((k % fn : Nat) : Int) r x) (fun i _ => n2 - (intOf i).toNat)
          case atStart => exact ⟨0, Nat.zero_le _, rfl, HST0.out⟩
          case round =>
            obtain ⟨k, hk, rfl, r, x, hst, hat⟩ := hrel
            have HST := Lib.hid hst
            have HAT := Lib.hid hat
            clear hst hat HST0
            by_cases hlt : k < n2
            · obtain ⟨t, hte⟩ : ∃ t, k % fn = t := ⟨_, rfl⟩
              have hms := mod_step k fn HFN.out.1
              have htl : t < fn := by rw [← hte]; exact Nat.mod_lt _ (by have := HFN.out; omega)
              have hst := HST.out
              have hat := HAT.out
              rw [hte] at hst hat hms
              have hfx := (HRU.out.gr.at_ r x hat.get).2.2 (t : Int) hat.lo hat.hi
              have HTO := Lib.hid (fun (W : World) (h : ST #[.int .i64 id, .int .i64 (fn : Int), .slice P nl pc, .slice C nn cc] g q id (fn : Int) A' c' (runsD f fn) (t : Int) r w W) => towner_any g id (t : Int) fn A' c' f (runsD f fn) W h.tab HRU.out)
              have HCO := Lib.hid (fun (W : World) (h : ST #[.int .i64 id, .int .i64 (fn : Int), .slice P nl pc, .slice C nn cc] g q id (fn : Int) A' c' (runsD f fn) (t : Int) r w W) => cowner_any q g id (fn : Int) (t : Int) r A' c' (runsD f fn) x W h.cur h.tab hat.get)
              have HCT := Lib.hid (fun (W : World) (h : ST #[.int .i64 id, .int .i64 (fn : Int), .slice P nl pc, .slice C nn cc] g q id (fn : Int) A' c' (runsD f fn) (t : Int) r w W) => ctick_any q g (t : Int) r W h.cur)
              have HRO := Lib.hid (fun (W : World) (b : Below w.heap.size w W) => HROW.out (t : Int) W b)
              have HSTP := Lib.hid (fun (W : World) (h : ST #[.int .i64 id, .int .i64 (fn : Int), .slice P nl pc, .slice C nn cc] g q id (fn : Int) A' c' (runsD f fn) (t : Int) r w W) => cstep_any q g id fn t r A' c' f (runsD f fn) x W h.cur h.tab HRU.out hat HQ.out.2.1 HQ.out.2.2)
              rw [if_pos ⟨by omega, by omega⟩] at HTO
              rw [← hfx] at HCO
              obtain ⟨fv, hfv⟩ : ∃ v, f (t : Int) = v := ⟨_, rfl⟩
              rw [hfv] at HTO HCO HRO
              have hn2 := HN2.out
              have hfnn := HFN.out
              have hm1 : Int.tmod (k : Int) (fn : Int) = (t : Int) := by rw [Int.tmod_eq_emod_of_nonneg (by omega), ← Int.natCast_emod, hte]
              have hw1 : IntKind.i64.wrap (t : Int) = (t : Int) := IntWalk.i64_in _ (by omega)
              have hk1 : IntKind.i64.wrap ((k : Int) + 1) = (k : Int) + 1 := IntWalk.i64_in _ (by omega)
              obtain ⟨t', ht'⟩ : ∃ t', (k + 1) % fn = t' := ⟨_, rfl⟩
              have hm2 : Int.tmod ((k : Int) + 1) (fn : Int) = (t' : Int) := by rw [Int.tmod_eq_emod_of_nonneg (by omega), show (k : Int) + 1 = ((k + 1 : Nat) : Int) by omega, ← Int.natCast_emod, ht']
              have htl2 : t' < fn := by rw [← ht']; exact Nat.mod_lt _ (by omega)
              have hw2 : IntKind.i64.wrap (t' : Int) = (t' : Int) := IntWalk.i64_in _ (by omega)
              rw [ht'] at hms
              have HMS := Lib.hid hms
              have HT' := Lib.hid ht'
              have hfn0 : ¬ fn = 0 := by omega
              have hkn2 : (k : Int) < n2 := by omega
              have HW0 := Lib.hid hst
              have HP0 := Lib.hid (hst.drewN 1)
              obtain ⟨y0, y1, y2, y3⟩ := hst.sb.cells
              clear hst hat hfx hte hms htl htl2 ht' hfv hn2 hfnn HST HAT
              go_wp2_with fail
              go_region_held3 (fun wx => wx.cell? ⟨w.heap.size, 0, none⟩ = some (.int .i64 id) ∧ wx.cell? ⟨w.heap.size, 1, none⟩ = some (.int .i64 (fn : Int)) ∧ wx.cell? ⟨w.heap.size, 2, none⟩ = some (.slice P nl pc) ∧ wx.cell? ⟨w.heap.size, 3, none⟩ = some (.slice C nn cc))
                (first | exact HKP.out | (refine ⟨?_, ?_, ?_, ?_⟩ <;> assumption) | (go_keep; done))
                (first
                  | (go_at_call 19; refine (HCO.out _ HP0.out).mono ?_; rintro e wa ⟨rfl, na, rfl⟩; have HP1 := Lib.hid (HW0.out.drewN (1 + na)); have HKP := Lib.hid HP1.out.sb.cells; clear HP0)
                  | (go_at_call 20; refine (HRO.out _ HP1.out.sb.below).mono ?_; rintro e wa ⟨rfl, hba⟩; have HP2 := Lib.hid (HP1.out.keep hba); clear HKP; have HKP := Lib.hid HP2.out.sb.cells; clear hba HP1)
                  | (go_at_call 21; refine (HCT.out _ HP2.out).mono ?_; rintro e wa ⟨rfl, rfl⟩; have HP3 := Lib.hid HP2.out; clear HP2)
                  | (go_at_call 15; refine (HTO.out _ HP3.out).mono ?_; rintro e wa ⟨rfl, hba⟩; have HP4 := Lib.hid (HP3.out.keep hba); clear HKP; have HKP := Lib.hid HP4.out.sb.cells; clear hba HP3)
                  | (go_at_call 19; refine (HCO.out _ HP4.out).mono ?_; rintro e wz ⟨rfl, hnb⟩; have HP5 : Hid (ST #[.int .i64 id, .int .i64 (fn : Int), .slice P nl pc, .slice C nn cc] g q id (fn : Int) A' c' (runsD f fn) (t : Int) r w wz) := (by obtain ⟨nb, rfl⟩ := hnb; exact HP4.out.drewN nb); clear HKP; have HKP := Lib.hid HP5.out.sb.cells; clear HP4 hnb))
              all_goals
                clear HKP y0 y1 y2 y3
                have HP6 := Lib.hid (HP5.out.drewN 1)
                have y1 := HP5.out.sb.cells.2.1
                have hb2 : decide (t + 1 ≠ fn) = ((t' : Int) != 0) := by
                  rw [HMS.out]
                  by_cases hfin : t + 1 = fn
                  · simp [hfin]
                  · rw [if_neg hfin, decide_eq_true hfin]; symm; simp; omega
                obtain ⟨bv, hbv⟩ : ∃ b, ((t' : Int) != 0) = b := ⟨_, rfl⟩
                have HST2 := Lib.hid (fun (W : World) (h : ST #[.int .i64 id, .int .i64 (fn : Int), .slice P nl pc, .slice C nn cc] g q id (fn : Int) A' c' (runsD f fn) (t : Int) r w W) => HSTP.out W h)
                rw [hb2, hbv, ← HMS.out] at HST2
                clear hb2 HSTP HCO HCT HRO HTO HP5 HW0
                go_wp2_with fail
                go_region_held3 (fun wx => wx.cell? ⟨w.heap.size, 1, none⟩ = some (.int .i64 (fn : Int)))
                  (first | exact HKP.out | assumption | (go_keep; done))
                  (first
                    | (go_at_call 22; refine (HST2.out _ HP6.out).mono ?_; rintro e wb ⟨rfl, ⟨r', x', hc', ha'⟩, hj⟩; have HP7 := Lib.hid (HP6.out.step hj hc' HQ.out.2.1 HQ.out.2.2 HQ.out.1); have HA7 := Lib.hid ha'; have HKP : Hid (wb.cell? ⟨w.heap.size, 1, none⟩ = some (.int .i64 (fn : Int))) := HP7.out.sb.cells.2.1; clear hc' ha' hj))
                all_goals
                  go_wp2
                  go_roundw
                  case rel => exact ⟨k + 1, by omega, by go_num, r', x', by rw [HT'.out]; exact HP7.out, by rw [HT'.out]; exact HA7.out⟩
                  case measure => simp [intOf]; omega
            · obtain rfl : k = n2 := by omega
              have HIT := Lib.hid HST.out.tab
              have HSB2 := Lib.hid HST.out.sb
              have hml : (runsD f fn).length ≤ 1048576 := by have := HRU.out.len; have := HFN.out; omega
              have HRN := Lib.hid (truns_any g id (fn : Int) A' c' _ wr HIT.out HNC.out.1 HNC.out.2 (by omega))
              clear HST HAT HIT
              go_wp2_with fail
              refine HRN.out.mono ?_
              rintro e w7 ⟨V1, rfl, ho7, hb7⟩
              have HSB7 := Lib.hid (HSB2.out.keep hb7)
              obtain ⟨m, hm⟩ : ∃ m, (runsD f fn).length = m + 1 := by
                refine ⟨(runsD f fn).length - 1, ?_⟩
                rcases Nat.eq_zero_or_pos (runsD f fn).length with h0 | h0
                · have e0 := List.eq_nil_of_length_eq_zero h0
                  have hs := HRU.out.gr.sum
                  rw [e0] at hs
                  have := HFN.out
                  simp [sumA] at hs
                  omega
                · omega
              obtain ⟨n1, hn1⟩ : ∃ k, m + 1 = k := ⟨_, rfl⟩
              have hm2 : (runsD f fn).length = n1 := by rw [hm, hn1]
              have ho7' := ho7
              rw [hm] at ho7'
              obtain ⟨G1, c1, hV1⟩ := ownsRow_succ ho7'
              rw [hn1] at hV1
              subst hV1
              have hG1 : G1 < w7.heap.size := (ho7.lt G1 rfl).2
              have HC1 : Hid (∀ (W : World), Below w7.heap.size w7 W → ∀ (k : Nat) (x : A3), (runsD f fn)[k]? = some x → W.cell? ⟨G1, k * 3, none⟩ = some (.int .i64 x.s) ∧ W.cell? ⟨G1, k * 3 + 1, none⟩ = some (.int .i64 x.p) ∧ W.cell? ⟨G1, k * 3 + 2, none⟩ = some (.int .i64 x.a)) := fun W b k x hx => by
                have hk := (List.getElem?_eq_some_iff.1 hx).1
                have h := ho7
                rw [hm2] at h
                exact ⟨(b.cell (p := ⟨G1, k * 3, none⟩) hG1).trans ((h.cellAt (k * 3) (by omega)).trans (flatA_get _ k x 0 hx (by omega))), (b.cell (p := ⟨G1, k * 3 + 1, none⟩) hG1).trans ((h.cellAt (k * 3 + 1) (by omega)).trans (flatA_get _ k x 1 hx (by omega))), (b.cell (p := ⟨G1, k * 3 + 2, none⟩) hG1).trans ((h.cellAt (k * 3 + 2) (by omega)).trans (flatA_get _ k x 2 hx (by omega)))⟩
              have HM2 := Lib.hid hm2
              have HN1 : Hid (n1 ≤ 1048576) := by show _ ≤ _; omega
              have HSUM : Hid (∀ i, i ≤ n1 → 0 ≤ sumA ((runsD f fn).take i) ∧ sumA ((runsD f fn).take i) ≤ fn) := fun i hi => by
                have h1 := sum_mono HRU.out.gr i 0 (Nat.zero_le _) (by rw [hm2]; exact hi)
                have h2 := sum_mono HRU.out.gr (runsD f fn).length i (by rw [hm2]; exact hi) (Nat.le_refl _)
                rw [List.take_length, HRU.out.gr.sum] at h2
                simp only [List.take_zero, sumA] at h1
                omega
              try rw [hm2]
              clear ho7 ho7' hb7 hm hn1 hm2 hml hG1 HSB2 HRN
              go_wp2_with fail
              go_loopw [102, 10] (fun i v wr => ∃ k : Nat, k ≤ n1 ∧ i = .int .i64 (k : Int) ∧ v = .int .i64 (sumA ((runsD f fn).take k)) ∧ Below w7.heap.size w7 wr) (fun i _ _ => n1 - (intOf i).toNat)
              case atStart => exact ⟨0, Nat.zero_le _, rfl, rfl, Below.refl _ _⟩
              case round =>
                obtain ⟨k, hk, rfl, rfl, hbw⟩ := hrel
                have HBW := Lib.hid hbw
                have hnn := HN1.out
                clear hbw
                by_cases hlt : k < n1
                · obtain ⟨x, hx⟩ : ∃ x, (runsD f fn)[k]? = some x := ⟨_, List.getElem?_eq_getElem (by rw [HM2.out]; exact hlt)⟩
                  obtain ⟨p1, p2, _⟩ := HRU.out.gr.at_ k x hx
                  have hs1 : sumA ((runsD f fn).take (k + 1)) = sumA ((runsD f fn).take k) + x.a := by rw [List.take_add_one, hx]; exact sumA_snoc _ _
                  have hsb := HSUM.out (k + 1) hlt
                  rw [hs1] at hsb
                  have hs0 := HSUM.out k (by omega)
                  have hfnn := HFN.out
                  obtain ⟨d0, d1, d2⟩ := HC1.out wr HBW.out k x hx
                  have HS1 := Lib.hid hs1
                  have hb5 : Below wr.heap.size wr (wr.alloc (.cells (winC x) 46)) := (Below.refl _ _).alloc (Nat.le_refl _) _
                  have HB5 := Lib.hid (HBW.out.trans (hb5.mono HBW.out.size))
                  have HX5 := Lib.hid (heap_alloc_new wr (.cells (winC x) 46))
                  have HADJ : Hid (∀ j y, k = j + 1 → (runsD f fn)[j]? = some y → y.s ≠ x.s) := fun j y e hy => by
                    subst e
                    exact HRU.out.gr.adj j y x hy hx
                  obtain ⟨s1, q1, a1⟩ := x
                  dsimp only at p1 p2 hsb HS1 HADJ d0 d1 d2
                  unfold winC at HB5 HX5
                  dsimp only at HB5 HX5
                  obtain ⟨sv, hsv⟩ : ∃ v, sumA ((runsD f fn).take k) = v := ⟨_, rfl⟩
                  rw [hsv] at p1 hsb HS1 hs0
                  rw [hsv]
                  subst p1
                  have hki : (0 : Int) ≤ k := by omega
                  have hkb : (k : Int) < n1 := by omega
                  have hk1 : IntKind.i64.wrap ((k : Int) + 1) = (k : Int) + 1 := IntWalk.i64_in _ (by omega)
                  have hws : IntKind.i64.wrap (q1 + a1) = q1 + a1 := IntWalk.i64_in _ (by omega)
                  have ta : decide (a1 < 1) = false := decide_eq_false (by omega)
                  have ta2 : ¬ a1 < 1 := by omega
                  clear hx hs1 hsb hs0 hfnn hb5 hsv p2
                  go_upto_region 28 with fail
                  obtain ⟨W0, hW0⟩ : ∃ W, wr.alloc (.cells #[.int .i64 s1, .int .i64 q1, .int .i64 a1] 46) = W := ⟨_, rfl⟩
                  obtain ⟨X, hX⟩ : ∃ X, wr.heap.size = X := ⟨_, rfl⟩
                  rw [hW0] at HB5 HX5
                  rw [hX] at HX5
                  rw [hW0, hX]
                  have x0 := cell_of_row _ _ 0 _ _ _ HX5.out
                  have x1 := cell_of_row _ _ 1 _ _ _ HX5.out
                  have x2 := cell_of_row _ _ 2 _ _ _ HX5.out
                  simp only [List.getElem?_toArray, List.getElem?_cons_zero, List.getElem?_cons_succ] at x0 x1 x2
                  clear d0 d1 d2 hW0 hX HBW
                  rcases Nat.eq_zero_or_pos k with hz | hz
                  · have tkk : decide ((0 : Int) < (k : Int)) = false := decide_eq_false (by omega)
                    have tkk2 : decide (0 < k) = false := decide_eq_false (by omega)
                    clear hz
                    go_quiet (fail)
                    have HB6 := Lib.hid (below_drewN HB5.out nq)
                    go_wp2
                    go_roundw
                    case rel => exact ⟨k + 1, by omega, by go_num, by rw [HS1.out], HB6.out⟩
                    case measure => simp [intOf]; omega
                  · obtain ⟨j, hkj⟩ : ∃ j, k = j + 1 := ⟨k - 1, by omega⟩
                    obtain ⟨y, hy⟩ : ∃ y, (runsD f fn)[j]? = some y := ⟨_, List.getElem?_eq_getElem (by rw [HM2.out]; omega)⟩
                    have hne := HADJ.out j y hkj hy
                    obtain ⟨v0, _, _⟩ := HC1.out W0 HB5.out j y hy
                    obtain ⟨ys, hys⟩ : ∃ v, y.s = v := ⟨_, rfl⟩
                    rw [hys] at v0 hne
                    have hyb : (ys == s1) = false := by simp [hne]
                    have tkk : decide ((0 : Int) < (k : Int)) = true := decide_eq_true (by omega)
                    have tkk2 : decide (0 < k) = true := decide_eq_true hz
                    have hj1 : IntKind.i64.wrap ((k : Int) - 1) = (j : Int) := by rw [show (k : Int) - 1 = (j : Int) by omega]; exact IntWalk.i64_in _ (by omega)
                    have hj0 : (0 : Int) ≤ (j : Int) := by omega
                    have hja : (j : Int) < n1 := by omega
                    clear hz hkj hy hne hys
                    go_quiet (fail)
                    have HB6 := Lib.hid (below_drewN HB5.out nq)
                    go_wp2
                    go_roundw
                    case rel => exact ⟨k + 1, by omega, by go_num, by rw [HS1.out], HB6.out⟩
                    case measure => simp [intOf]; omega
                · obtain rfl : k = n1 := by omega
                  have hsum : sumA ((runsD f fn).take k) = (fn : Int) := by rw [List.take_of_length_le (by rw [HM2.out]; exact Nat.le_refl _), HRU.out.gr.sum]
                  rw [hsum]
                  have HSB8 := Lib.hid (HSB7.out.keep HBW.out)
                  have y1 := HSB8.out.cells.2.1
                  clear hsum HSB7 HBW
                  go_wp2_with (go_at_call 5; refine (awake17 _ (HN.out.kept HSB8.out.below)).mono ?_; rintro e w' ⟨rfl, hb⟩; have HBF := Lib.hid (HSB8.out.below.trans (hb.mono HSB8.out.below.size)); clear hb)
                  go_ret
                  exact ⟨rfl, HBF.out⟩
        · obtain ⟨u, y, rfl⟩ : ∃ u y, x = .iface u y := by
            rcases hx with ⟨h, _⟩ | ⟨_, _, g, y, rfl, _⟩
            · exact absurd h hk
            · exact ⟨_, _, rfl⟩
          have HB3 := Lib.hid (HSB.out.below.trans (hb3.mono HSB.out.below.size))
          clear hk hx hb3 HNW HSB y0 y1 y2 y3
          go_wp2_with (go_at_call 5; refine (awake17 _ (HN.out.kept HB3.out)).mono ?_; rintro e w' ⟨rfl, hb⟩; have HBF := Lib.hid (HB3.out.trans (hb.mono HB3.out.size)); clear hb)
          go_ret
          exact ⟨rfl, HBF.out⟩
  · have t0 : ((rg : Int) != 0) = true := by simp; omega
    go_wp2_with (go_at_call 5; refine (awake17 _ (HN.out.kept HR2.out.below)).mono ?_; rintro e w' ⟨rfl, hb⟩; have HBF := Lib.hid (HR2.out.below.trans (hb.mono HR2.out.below.size)); clear hb)
    go_ret
    exact ⟨rfl, HBF.out⟩

end Go.Proofs.YtgdnjlpoeijejaaDoor.tableFrames
