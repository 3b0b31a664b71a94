
/- The function WindowOwners returns true for every schedule and every two numbers. Condition: the package-level variables hold what the program lays in them (the card ties that). This text: the walk through the Go text; the row is in the text without the W at its name's end. -/

import Derived.Test.YteefmdelacihfaaDoorArgs

import Derived.Test.YteefmdelacihfaaDoorWinF

import Derived.Test.YteefmdelacihfaaDoorWinO

import Derived.Test.YteefmdelacihfaaDoorWinP

import Derived.Test.YteefmdelacihfaaDoorWinAG

import Derived.Test.YteefmdelacihfaaDoorWinAH

import Derived.Test.YteefmdelacihfaaDoorWinY

import Derived.Test.YteefmdelacihfaaDoorWinAD

import Derived.Deep.RegionHeld3

namespace Go.Proofs.YteefmdelacihfaaDoor.windowOwners

open Go.RowKit Go.PlainAid Go.Proofs.YteefmdelacihfaaDoor.Args

set_option linter.unusedVariables false

open Go.Proofs.YteefmdelacihfaaDoor.Flt Go.Proofs.YteefmdelacihfaaDoor.Rdr Go.Proofs.YteefmdelacihfaaDoor.Oct Go.Proofs.YteefmdelacihfaaDoor.Win

open Go.Proofs.YteefmdelacihfaaDoor.Act (A3 actL flatA ActsAt I64 Wide acts_of)

open Go.Proofs.YteefmdelacihfaaDoor.Scd (SC scC rgS rgS_in rowB sright09_any)

set_option linter.unusedSimpArgs false

/-- A schedule that came in by value. -/
theorem sched_in2 {w : World} {a : Array Value} (h : IsAgg w [.one (.int .i64), .one (.int .i64), .recs [.int .i64, .int .i64, .int .i64], .recs [.int .i64, .int .i64, .int .i64]] a) :
    ∃ (x : SC) (B : Option Addr) (cb : Nat) (C : Option Addr) (cc : Nat), a = scC x B cb C cc ∧ ActsAt w B x.ws ∧ (∀ y ∈ x.ws, Wide y) ∧ I64 x.fr ∧ ActsAt w C x.ns ∧ x.ws.length ≤ maxLen ∧ x.ns.length ≤ maxLen := by
  obtain ⟨hs, hf⟩ := h
  obtain ⟨v0, e0, id, rfl, w0⟩ := hf 0 _ rfl
  obtain ⟨v1, e1, fr, rfl, w1⟩ := hf 1 _ rfl
  obtain ⟨v2, e2, B, bl, bc, rfl, w2⟩ := hf 2 _ rfl
  obtain ⟨v3, e3, C, cl, cc, rfl, w3⟩ := hf 3 _ rfl
  obtain ⟨ws, hw1, hw2, hw3, hw4, hw5⟩ := acts_of w2
  obtain ⟨ns, hn1, hn2, hn3, hn4, hn5⟩ := acts_of w3
  refine ⟨⟨id, fr, ws, ns⟩, B, bc, C, cc, ?_, hw2, hw3, bounds_i64 w1, hn2, by dsimp only; omega, by dsimp only; omega⟩
  have hs4 : a.size = 4 := hs
  unfold scC
  apply Array.ext_getElem?
  intro i
  rcases (show i = 0 ∨ i = 1 ∨ i = 2 ∨ i = 3 ∨ 4 ≤ i by omega) with rfl | rfl | rfl | rfl | h
  · exact e0
  · exact e1
  · rw [e2, ← hw1]; rfl
  · rw [e3, ← hn1]; rfl
  · rw [Array.getElem?_eq_none (by omega), Array.getElem?_eq_none (by simp; omega)]
/-- Between the windows. -/
structure RB (b : Nat) (xs : Array Value) (w W : World) : Prop where
  box : W.heap[b]? = some (.cells xs 25 (0, 0))
  names : Names W
  below : Below w.heap.size w W
theorem RB.keep {b : Nat} {xs : Array Value} {w W W' : World} (f : RB b xs w W) (k : Below W.heap.size W W') : RB b xs w W' :=
  ⟨(k.block _ (lt_of_block f.box)).trans f.box, f.names.kept k, f.below.trans (k.mono f.below.size)⟩
theorem RB.cells {b : Nat} {c0 c1 c2 c3 : Value} {w W : World} (f : RB b #[c0, c1, c2, c3] w W) :
    W.cell? ⟨b, 0, none⟩ = some c0 ∧ W.cell? ⟨b, 1, none⟩ = some c1 ∧ W.cell? ⟨b, 2, none⟩ = some c2 ∧ W.cell? ⟨b, 3, none⟩ = some c3 := by
  refine ⟨?_, ?_, ?_, ?_⟩
  all_goals (rw [cell_of_row W _ _ _ _ _ f.box]; rfl)
theorem num_of {x : A3} (h : rowB x = true) : Num x ∧ 0 ≤ x.s := by
  unfold rowB Go.Proofs.YteefmdelacihfaaDoor.Scd.tkB Go.Proofs.YteefmdelacihfaaDoor.Act.idB at h
  simp at h
  unfold Num
  omega
/-- The schedule's box and the word. -/
structure OB (b VB n c : Nat) (xs : Array Value) (ws : List Int) (w W : World) : Prop where
  rb : RB b xs w W
  word : W.ownsRow w.heap.size 3 1 (.slice (some ⟨VB, 0, none⟩) n c) n (ws.map (Value.int .i64))
theorem OB.keep {b VB n c : Nat} {xs : Array Value} {ws : List Int} {w W W' : World} (f : OB b VB n c xs ws w W) (k : Below W.heap.size W W') : OB b VB n c xs ws w W' :=
  ⟨f.rb.keep k, owns_kept f.word k⟩
theorem OB.drew {b VB n c : Nat} {xs : Array Value} {ws : List Int} {w W : World} (f : OB b VB n c xs ws w W) : OB b VB n c xs ws w W.drew := f.keep ⟨rfl, rfl, rfl, Nat.le_refl _, fun _ _ => rfl⟩
theorem OB.drewN {b VB n c : Nat} {xs : Array Value} {ws : List Int} {w W : World} (f : OB b VB n c xs ws w W) (k : Nat) : OB b VB n c xs ws w (W.drewN k) := f.keep ⟨rfl, rfl, rfl, Nat.le_refl _, fun _ _ => rfl⟩
set_option maxRecDepth 8000 in
set_option maxHeartbeats 6400000 in
theorem walk (a0 : Array Value) (a1 : Int) (a2 : Int) (w : World) (w0 : IsAgg w [.one (.int .i64), .one (.int .i64), .recs [.int .i64, .int .i64, .int .i64], .recs [.int .i64, .int .i64, .int .i64]] a0) (w1 : (Lit.int .i64 a1).wf = true) (w2 : (Lit.int .i64 a2).wf = true) (hn : Go.Proofs.YteefmdelacihfaaDoor.Flt.Names w) :
    Calls Tryd.prog 3 #[.agg a0, .int .i64 a1, .int .i64 a2] w fun e w' => e = .returned (.bool true) ∧ Below w.heap.size w w' := by
  obtain ⟨x, P, pc, C, cc, rfl, hacts, hwide, hfr, hns, hl1, hl2⟩ := sched_in2 w0
  have hb0 : Below w.heap.size w (w.alloc (.cells (scC x P pc C cc) 25)) := (Below.refl _ _).alloc (Nat.le_refl _) _
  have HBX : Hid (RB w.heap.size (scC x P pc C cc) w (w.alloc (.cells (scC x P pc C cc) 25))) := ⟨heap_alloc_new _ _, hn.kept hb0, hb0⟩
  have HRT : Hid (∀ W, Below w.heap.size w W → _) := fun W b => sright09_any x P pc C cc W (hacts.kept b) (hns.kept b) hl1 hl2
  obtain ⟨rg, hrg⟩ : ∃ r, rgS x = r := ⟨_, rfl⟩
  rw [hrg] at HRT
  have HRG := Lib.hid hrg
  have HACT := Lib.hid hacts
  obtain ⟨id, fr, l, ns⟩ := x
  unfold scC at HBX HRT ⊢
  dsimp only at HBX HRT HACT ⊢
  obtain ⟨nl, hnl⟩ : ∃ n, l.length = n := ⟨_, rfl⟩
  have HNL := Lib.hid hnl
  obtain ⟨nn, hnn⟩ : ∃ n, ns.length = n := ⟨_, rfl⟩
  rw [hnl] at HBX HRT ⊢
  rw [hnn] at HBX HRT ⊢
  clear w0 hacts hwide hfr hns hl1 hl2 hb0 hrg hnl hnn hn
  go_enter Tryd.func3, Tryd.ntmps3
  go_wp2_with fail
  refine (HRT.out _ HBX.out.below).mono ?_
  rintro e w2 ⟨rfl, hb2⟩
  have HR2 := Lib.hid (HBX.out.keep hb2)
  clear hb2 HRT HBX
  obtain ⟨y0, y1, y2, y3⟩ := HR2.out.cells
  by_cases hrg : rg = 0
  · subst hrg
    by_cases h300 : 300 < fr
    · have t1 : decide ((300 : Int) < fr) = true := decide_eq_true h300
      clear h300
      go_wp2_with (go_at_call 6; refine (awake13 _ HR2.out.names).mono ?_; rintro e w' ⟨rfl, hb⟩; have HB2 := Lib.hid (HR2.out.below.trans (hb.mono HR2.out.below.size)); clear hb)
      go_ret
      exact ⟨rfl, HB2.out⟩
    · have t1 : decide ((300 : Int) < fr) = false := decide_eq_false h300
      by_cases h40 : 40 < nl
      · have t2 : decide ((40 : Int) < (nl : Int)) = true := decide_eq_true (by omega)
        clear h300 h40
        go_wp2_with (go_at_call 6; refine (awake13 _ HR2.out.names).mono ?_; rintro e w' ⟨rfl, hb⟩; have HB2 := Lib.hid (HR2.out.below.trans (hb.mono HR2.out.below.size)); clear hb)
        go_ret
        exact ⟨rfl, HB2.out⟩
      · have t2 : decide ((40 : Int) < (nl : Int)) = false := decide_eq_false (by omega)
        obtain ⟨hi1, hi2, hi3, hi4, _⟩ := rgS_in HRG.out
        dsimp only at hi1 hi2 hi3 hi4
        have hnum : ∀ x ∈ l, Num x := fun x hx => (num_of (hi4 x hx)).1
        have hids : ∀ x ∈ l, x.s ≠ -1 := fun x hx => by have := (num_of (hi4 x hx)).2; omega
        obtain ⟨fn, rfl⟩ : ∃ n : Nat, fr = (n : Int) := ⟨fr.toNat, by omega⟩
        have hf3 : fn ≤ 300 := by omega
        have hf1 : 1 ≤ fn := by omega
        have hl40 : l.length ≤ 40 := by rw [HNL.out]; omega
        have hcs := cutsOf_cuts (fn : Int) l (by omega) hnum
        have hc2 := cutsOf_two (fn : Int) l (by omega) hnum
        obtain ⟨m, hm⟩ : ∃ m, (cutsOf (fn : Int) l).length = m + 1 := ⟨(cutsOf (fn : Int) l).length - 1, by omega⟩
        have hmm : m ≤ 1000 := by have := cutsOf_le (fn : Int) l; omega
        have hmf : ∀ x ∈ l, fW (fn : Int) x ∈ cutsOf fn l := fun x hx => (cutsOf_mem _ _ _).2 (.inr (.inr ⟨x, hx, .inl rfl⟩))
        have hmt : ∀ x ∈ l, tW (fn : Int) x ∈ cutsOf fn l := fun x hx => (cutsOf_mem _ _ _).2 (.inr (.inr ⟨x, hx, .inr rfl⟩))
        obtain ⟨L, hL⟩ : ∃ L, rowsL (fn : Int) l (cutsOf fn l) m = L := ⟨_, rfl⟩
        obtain ⟨ws, hws⟩ : ∃ ws, ticksL (ownT (fn : Int) l) 0 fn = ws := ⟨_, rfl⟩
        have hwl : ws.length = fn := by rw [← hws, ticks_len]
        have hw : wordL L = ws := by
          have h := rows_word hcs hm hmf hmt
          rw [show ((fn : Int)).toNat = fn from rfl, hL, hws] at h
          exact h
        have hpos : ∀ x ∈ L, 0 < x.a := by rw [← hL]; exact rows_pos hcs hm
        have hLn := rowsL_small hcs hm hL
        have hLw := word_take_len L
        have hgr := gaps_rows hnum hids hm
        rw [hL, hws] at hgr
        obtain ⟨G, hG⟩ : ∃ G, gapG 0 0 ws = G := ⟨_, rfl⟩
        rw [hG] at hgr
        obtain ⟨cz, hcz⟩ : ∃ n, cntZ a2 ws = n := ⟨_, rfl⟩
        obtain ⟨cn, hcn⟩ : ∃ n, cntZ (-1) ws = n := ⟨_, rfl⟩
        obtain ⟨ot, hot⟩ : ∃ n, ownT (fn : Int) l a1 = n := ⟨_, rfl⟩
        have htk : tickS a2 L = (cz : Int) := by rw [← cnt_word a2 L (fun x hx => Int.le_of_lt (hpos x hx)), hw, hcz]
        have hbz : busyS L = (fn : Int) - (cn : Int) := by rw [busy_cnt L (fun x hx => Int.le_of_lt (hpos x hx)), hw, hwl, hcn]
        have hcn1 : cn ≤ fn := by rw [← hcn, ← hwl]; exact cntZ_le _ _
        have hGl : G.length ≤ 1000 := by rw [hgr]; exact Nat.le_trans (List.length_filter_le _ _) (by rw [← hL, rowsL_len]; exact hmm)
        have HOWN : Hid (∀ W, Below w.heap.size w W → Calls Tryd.prog 8 #[.agg #[.int .i64 id, .int .i64 (fn : Int), .slice P nl pc, .slice C nn cc], .int .i64 a1] W fun e w' => e = .returned (.int .i64 ot) ∧ Below W.heap.size W w') := fun W b => by
          have h := owner_any id (fn : Int) a1 P pc l C nn cc W (HACT.out.kept b) hnum ⟨by omega, by omega⟩ (by omega)
          rw [HNL.out, hot] at h
          exact h
        have HROWN : Hid (∀ W, Below w.heap.size w W → Calls Tryd.prog 9 #[.agg #[.int .i64 id, .int .i64 (fn : Int), .slice P nl pc, .slice C nn cc], .int .i64 a1] W fun e w' => e = .returned (.int .i64 ot) ∧ Below W.heap.size W w') := fun W b => by
          have h := rowner_any id (fn : Int) a1 P pc l C nn cc W (HACT.out.kept b) hnum ⟨by omega, by omega⟩ (by omega)
          rw [HNL.out, hot] at h
          exact h
        have HWRD : Hid (∀ W, Below w.heap.size w W → Calls Tryd.prog 11 #[.agg #[.int .i64 id, .int .i64 (fn : Int), .slice P nl pc, .slice C nn cc]] W fun e w' => ∃ VB c, e = .returned (.slice (some ⟨VB, 0, none⟩) fn c) ∧ w'.ownsRow W.heap.size 3 1 (.slice (some ⟨VB, 0, none⟩) fn c) fn (ws.map (Value.int .i64)) ∧ Below W.heap.size W w') := fun W b => by
          have h := word_any id fn P pc l C nn cc W (HACT.out.kept b) hnum ⟨hf1, by omega⟩ (by omega) m hm L hL (fun x hx => ⟨by have := hpos x hx; omega, by have := hLn x hx; omega⟩) (fun k => by have := hLw k; rw [hw, hwl] at this; omega) (by omega) hmm
          rw [HNL.out, hw, hwl] at h
          exact h
        have HRWRD : Hid (∀ W, Below w.heap.size w W → Calls Tryd.prog 7 #[.agg #[.int .i64 id, .int .i64 (fn : Int), .slice P nl pc, .slice C nn cc]] W fun e w' => ∃ VB c, e = .returned (.slice (some ⟨VB, 0, none⟩) fn c) ∧ w'.ownsRow W.heap.size 3 1 (.slice (some ⟨VB, 0, none⟩) fn c) fn (ws.map (Value.int .i64)) ∧ Below W.heap.size W w') := fun W b => by
          have h := rword_any id fn P pc l C nn cc W (HACT.out.kept b) hnum (by omega) (by omega)
          rw [HNL.out, hws] at h
          exact h
        have HTK : Hid (∀ W, Below w.heap.size w W → Calls Tryd.prog 12 #[.agg #[.int .i64 id, .int .i64 (fn : Int), .slice P nl pc, .slice C nn cc], .int .i64 a2] W fun e w' => e = .returned (.int .i64 (cz : Int)) ∧ Below W.heap.size W w') := fun W b => by
          have h := ticks_any a2 id fn P pc l C nn cc W (HACT.out.kept b) hnum ⟨hf1, by omega⟩ (by omega) m hm
          rw [HNL.out, hL, htk] at h
          exact h
        have HBZ : Hid (∀ W, Below w.heap.size w W → Calls Tryd.prog 14 #[.agg #[.int .i64 id, .int .i64 (fn : Int), .slice P nl pc, .slice C nn cc]] W fun e w' => e = .returned (.int .i64 ((fn : Int) - (cn : Int))) ∧ Below W.heap.size W w') := fun W b => by
          have h := busy_any id fn P pc l C nn cc W (HACT.out.kept b) hnum ⟨hf1, by omega⟩ (by omega) m hm
          rw [HNL.out, hL, hbz] at h
          exact h
        have HGP : Hid (∀ W, Below w.heap.size w W → Calls Tryd.prog 16 #[.agg #[.int .i64 id, .int .i64 (fn : Int), .slice P nl pc, .slice C nn cc]] W fun e w' => ∃ V, e = .returned V ∧ w'.ownsRow W.heap.size 50 3 V G.length (flatA G) ∧ Below W.heap.size W w') := fun W b => by
          have h := gaps_any id fn P pc l C nn cc W (HACT.out.kept b) hnum ⟨hf1, by omega⟩ (by omega) m hm G (by rw [hL]; exact hgr.symm)
          rw [HNL.out] at h
          exact h
        have HC1 : Hid (∀ (g c B : Nat) (W : World), W.ownsRow B 3 1 (.slice (some ⟨g, 0, none⟩) fn c) fn (ws.map (Value.int .i64)) → Calls Tryd.prog 13 #[.slice (some ⟨g, 0, none⟩) fn c, .int .i64 a2] W fun e w' => e = .returned (.int .i64 (cz : Int)) ∧ W = w') := fun g c B W h => by
          have h := rcount_any a2 ws g fn c B W h hwl (by omega)
          rw [hcz] at h
          exact h
        have HC2 : Hid (∀ (g c B : Nat) (W : World), W.ownsRow B 3 1 (.slice (some ⟨g, 0, none⟩) fn c) fn (ws.map (Value.int .i64)) → Calls Tryd.prog 13 #[.slice (some ⟨g, 0, none⟩) fn c, .int .i64 (-1)] W fun e w' => e = .returned (.int .i64 (cn : Int)) ∧ W = w') := fun g c B W h => by
          have h := rcount_any (-1) ws g fn c B W h hwl (by omega)
          rw [hcn] at h
          exact h
        have HSI : Hid (∀ (g g' c c' B B' : Nat) (W : World), W.ownsRow B 3 1 (.slice (some ⟨g, 0, none⟩) fn c) fn (ws.map (Value.int .i64)) → W.ownsRow B' 3 1 (.slice (some ⟨g', 0, none⟩) fn c') fn (ws.map (Value.int .i64)) → Calls Tryd.prog 10 #[.slice (some ⟨g, 0, none⟩) fn c, .slice (some ⟨g', 0, none⟩) fn c'] W fun e w' => e = .returned (.bool true) ∧ Below W.heap.size W w') := fun g g' c c' B B' W h h' => sameints_any ws g g' fn c c' B B' W h h' hwl (by omega)
        have HRGP : Hid (∀ (g c B : Nat) (W : World), W.ownsRow B 3 1 (.slice (some ⟨g, 0, none⟩) fn c) fn (ws.map (Value.int .i64)) → Calls Tryd.prog 17 #[.slice (some ⟨g, 0, none⟩) fn c] W fun e w' => ∃ V, e = .returned V ∧ w'.ownsRow W.heap.size 50 3 V G.length (flatA G) ∧ Below W.heap.size W w') := fun g c B W h => by
          have h := rgaps_any ws g fn c B W h hwl (by omega)
          rw [hG] at h
          exact h
        have HSW : Hid (∀ (A B : Option Addr) (ca cb : Nat) (W : World), ActsAt W A G → ActsAt W B G → _) := fun A B ca cb W h h' => same13_any A B ca cb G W h h' (by omega)
        have hwn : IntKind.i64.wrap ((fn : Int) - (cn : Int)) = (fn : Int) - (cn : Int) := IntWalk.i64_in _ (by omega)
        obtain ⟨gl, hgl⟩ : ∃ n, G.length = n := ⟨_, rfl⟩
        have HGL := Lib.hid hgl
        rw [hgl] at HGP HRGP HSW
        clear h300 h40 hi1 hi2 hi3 hi4 hnum hids hf3 hf1 hl40 hcs hc2 hm hmm hmf hmt hL hws hwl hw hpos hLn hLw hgr hG hcz hcn hot htk hbz hcn1 hGl HRG hgl
        go_wp2_with fail
        refine (HRWRD.out w2 HR2.out.below).mono ?_
        rintro e w3 ⟨VB, vc, rfl, ho3, hb3⟩
        have HOB : Hid (OB w.heap.size VB fn vc #[.int .i64 id, .int .i64 (fn : Int), .slice P nl pc, .slice C nn cc] ws w w3) := ⟨HR2.out.keep hb3, ho3.mono HR2.out.below.size⟩
        clear ho3 hb3 HR2 HRWRD y0 y1 y2 y3
        obtain ⟨y0, y1, y2, y3⟩ := HOB.out.rb.cells
        go_wp2_with fail
        have HP0 := Lib.hid HOB.out.drew
        clear HOB
        go_region_held3 (fun wx => wx.cell? ⟨w.heap.size, 0, none⟩ = some (.int .i64 id) ∧ wx.cell? ⟨w.heap.size, 1, none⟩ = some (.int .i64 (fn : Int)) ∧ wx.cell? ⟨w.heap.size, 2, none⟩ = some (.slice P nl pc) ∧ wx.cell? ⟨w.heap.size, 3, none⟩ = some (.slice C nn cc))
          (first | exact HKP.out | (refine ⟨?_, ?_, ?_, ?_⟩ <;> assumption) | (go_keep; done))
          (first
            | (go_at_call 8; refine (HOWN.out _ HP0.out.rb.below).mono ?_; rintro e wa ⟨rfl, hba⟩; have HP1 := Lib.hid (HP0.out.keep hba); have HKP : Hid (wa.cell? ⟨w.heap.size, 0, none⟩ = some (.int .i64 id) ∧ wa.cell? ⟨w.heap.size, 1, none⟩ = some (.int .i64 (fn : Int)) ∧ wa.cell? ⟨w.heap.size, 2, none⟩ = some (.slice P nl pc) ∧ wa.cell? ⟨w.heap.size, 3, none⟩ = some (.slice C nn cc)) := HP1.out.rb.cells; clear hba HP0)
            | (go_at_call 9; refine (HROWN.out _ HP1.out.rb.below).mono ?_; rintro e wa ⟨rfl, hba⟩; have HP2 := Lib.hid (HP1.out.keep hba); clear HKP; have HKP : Hid (wa.cell? ⟨w.heap.size, 0, none⟩ = some (.int .i64 id) ∧ wa.cell? ⟨w.heap.size, 1, none⟩ = some (.int .i64 (fn : Int)) ∧ wa.cell? ⟨w.heap.size, 2, none⟩ = some (.slice P nl pc) ∧ wa.cell? ⟨w.heap.size, 3, none⟩ = some (.slice C nn cc)) := HP2.out.rb.cells; clear hba HP1)
            | (go_at_call 11; refine (HWRD.out _ HP2.out.rb.below).mono ?_; rintro e wa ⟨VA, ca, rfl, hoa, hba⟩; have HOA := Lib.hid hoa; have HP3 := Lib.hid (HP2.out.keep hba); clear HKP; have HKP : Hid (wa.cell? ⟨w.heap.size, 0, none⟩ = some (.int .i64 id) ∧ wa.cell? ⟨w.heap.size, 1, none⟩ = some (.int .i64 (fn : Int)) ∧ wa.cell? ⟨w.heap.size, 2, none⟩ = some (.slice P nl pc) ∧ wa.cell? ⟨w.heap.size, 3, none⟩ = some (.slice C nn cc)) := HP3.out.rb.cells; clear hoa hba HP2)
            | (go_at_call 10; refine (HSI.out VA VB ca vc _ _ _ HOA.out HP3.out.word).mono ?_; rintro e wa ⟨rfl, hba⟩; have HP4 := Lib.hid (HP3.out.keep hba); clear HKP; have HKP : Hid (wa.cell? ⟨w.heap.size, 0, none⟩ = some (.int .i64 id) ∧ wa.cell? ⟨w.heap.size, 1, none⟩ = some (.int .i64 (fn : Int)) ∧ wa.cell? ⟨w.heap.size, 2, none⟩ = some (.slice P nl pc) ∧ wa.cell? ⟨w.heap.size, 3, none⟩ = some (.slice C nn cc)) := HP4.out.rb.cells; clear hba HP3)
            | (go_at_call 12; refine (HTK.out _ HP4.out.rb.below).mono ?_; rintro e wa ⟨rfl, hba⟩; have HP5 := Lib.hid (HP4.out.keep hba); clear HKP; have HKP : Hid (wa.cell? ⟨w.heap.size, 0, none⟩ = some (.int .i64 id) ∧ wa.cell? ⟨w.heap.size, 1, none⟩ = some (.int .i64 (fn : Int)) ∧ wa.cell? ⟨w.heap.size, 2, none⟩ = some (.slice P nl pc) ∧ wa.cell? ⟨w.heap.size, 3, none⟩ = some (.slice C nn cc)) := HP5.out.rb.cells; clear hba HP4)
            | (go_at_call 13; refine (HC1.out VB vc _ _ HP5.out.word).mono ?_; rintro e wa ⟨rfl, rfl⟩; have HP6 := Lib.hid HP5.out; clear HP5)
            | (go_at_call 14; refine (HBZ.out _ HP6.out.rb.below).mono ?_; rintro e wa ⟨rfl, hba⟩; have HP7 := Lib.hid (HP6.out.keep hba); clear HKP; have HKP : Hid (wa.cell? ⟨w.heap.size, 0, none⟩ = some (.int .i64 id) ∧ wa.cell? ⟨w.heap.size, 1, none⟩ = some (.int .i64 (fn : Int)) ∧ wa.cell? ⟨w.heap.size, 2, none⟩ = some (.slice P nl pc) ∧ wa.cell? ⟨w.heap.size, 3, none⟩ = some (.slice C nn cc)) := HP7.out.rb.cells; clear hba HP6)
            | (go_at_call 13; refine (HC2.out VB vc _ _ HP7.out.word).mono ?_; rintro e wa ⟨rfl, rfl⟩; have HP8 := Lib.hid HP7.out; clear HP7)
            | (go_at_call 16; refine (HGP.out _ HP8.out.rb.below).mono ?_; rintro e wa ⟨Va, rfl, hoa, hba⟩; obtain ⟨A1, c1, rfl, hat⟩ := own_atW hoa HGL.out.symm; have HA1 := Lib.hid hat; have HP9 := Lib.hid (HP8.out.keep hba); clear HKP; have HKP : Hid (wa.cell? ⟨w.heap.size, 0, none⟩ = some (.int .i64 id) ∧ wa.cell? ⟨w.heap.size, 1, none⟩ = some (.int .i64 (fn : Int)) ∧ wa.cell? ⟨w.heap.size, 2, none⟩ = some (.slice P nl pc) ∧ wa.cell? ⟨w.heap.size, 3, none⟩ = some (.slice C nn cc)) := HP9.out.rb.cells; clear hoa hba hat HP8)
            | (go_at_call 17; refine (HRGP.out VB vc _ _ HP9.out.word).mono ?_; rintro e wa ⟨Va, rfl, hoa, hba⟩; obtain ⟨A2, c2, rfl, hat⟩ := own_atW hoa HGL.out.symm; have HA2 := Lib.hid hat; have HA3 := Lib.hid (HA1.out.kept hba); have HP10 := Lib.hid (HP9.out.keep hba); clear HKP; have HKP : Hid (wa.cell? ⟨w.heap.size, 0, none⟩ = some (.int .i64 id) ∧ wa.cell? ⟨w.heap.size, 1, none⟩ = some (.int .i64 (fn : Int)) ∧ wa.cell? ⟨w.heap.size, 2, none⟩ = some (.slice P nl pc) ∧ wa.cell? ⟨w.heap.size, 3, none⟩ = some (.slice C nn cc)) := HP10.out.rb.cells; clear hoa hba hat HP9 HA1)
            | (go_at_call 15; refine (HSW.out A1 A2 c1 c2 _ HA3.out HA2.out).mono ?_; rintro e wa ⟨rfl, nd, rfl⟩; have HP11 := Lib.hid (HP10.out.drewN nd); clear HKP; have HKP : Hid ((World.drewN _ nd).cell? ⟨w.heap.size, 0, none⟩ = some (.int .i64 id) ∧ (World.drewN _ nd).cell? ⟨w.heap.size, 1, none⟩ = some (.int .i64 (fn : Int)) ∧ (World.drewN _ nd).cell? ⟨w.heap.size, 2, none⟩ = some (.slice P nl pc) ∧ (World.drewN _ nd).cell? ⟨w.heap.size, 3, none⟩ = some (.slice C nn cc)) := HP11.out.rb.cells; clear HP10)
            | (go_at_call 6; refine (awake13 _ HP11.out.rb.names).mono ?_; rintro e wa ⟨rfl, hba⟩; have HP12 := Lib.hid (HP11.out.keep hba); clear HKP; have HKP : Hid (wa.cell? ⟨w.heap.size, 0, none⟩ = some (.int .i64 id) ∧ wa.cell? ⟨w.heap.size, 1, none⟩ = some (.int .i64 (fn : Int)) ∧ wa.cell? ⟨w.heap.size, 2, none⟩ = some (.slice P nl pc) ∧ wa.cell? ⟨w.heap.size, 3, none⟩ = some (.slice C nn cc)) := HP12.out.rb.cells; clear hba HP11))
        all_goals
          go_wp2
          go_ret
          exact ⟨rfl, HP12.out.rb.below⟩
  · have t0 : ((rg : Int) != 0) = true := by simp; omega
    go_wp2_with (go_at_call 6; refine (awake13 _ HR2.out.names).mono ?_; rintro e w' ⟨rfl, hb⟩; have HB2 := Lib.hid (HR2.out.below.trans (hb.mono HR2.out.below.size)); clear hb)
    go_ret
    exact ⟨rfl, HB2.out⟩

end Go.Proofs.YteefmdelacihfaaDoor.windowOwners
