
/- The function WindowRight returns true for every schedule and every slice of ids. Condition: the package-level variables hold what the program lays in them (the card ties that). This text: the walk through the Go text; the row is in the text without the W at its name's end. -/

import Derived.Test.YthpncnbcinfllaaDoorArgs

import Derived.Test.YthpncnbcinfllaaDoorWinF

import Derived.Test.YthpncnbcinfllaaDoorWinO

import Derived.Test.YthpncnbcinfllaaDoorWinP

import Derived.Test.YthpncnbcinfllaaDoorWinQ

import Derived.Test.YthpncnbcinfllaaDoorWinU

import Derived.Deep.RegionHeld3

namespace Go.Proofs.YthpncnbcinfllaaDoor.windowRight

open Go.RowKit Go.PlainAid Go.Proofs.YthpncnbcinfllaaDoor.Args

set_option linter.unusedVariables false

open Go.Proofs.YthpncnbcinfllaaDoor.Flt Go.Proofs.YthpncnbcinfllaaDoor.Rdr Go.Proofs.YthpncnbcinfllaaDoor.Oct Go.Proofs.YthpncnbcinfllaaDoor.Win

open Go.Proofs.YthpncnbcinfllaaDoor.Act (A3 ActsAt I64 Wide acts_of)

open Go.Proofs.YthpncnbcinfllaaDoor.Scd (SC scC rgS rgS_in rowB sright09_any)

set_option linter.unusedSimpArgs false

/-- A schedule that came in by value. -/
theorem sched_in2 {w : World} {a : Array Value} (h : IsAgg w [.one (.int .i64), .one (.int .i64), .recs [.int .i64, .int .i64, .int .i64], .recs [.int .i64, .int .i64, .int .i64]] a) :
    ∃ (x : SC) (B : Option Addr) (cb : Nat) (C : Option Addr) (cc : Nat), a = scC x B cb C cc ∧ ActsAt w B x.ws ∧ (∀ y ∈ x.ws, Wide y) ∧ I64 x.fr ∧ ActsAt w C x.ns ∧ x.ws.length ≤ maxLen ∧ x.ns.length ≤ maxLen := by
  obtain ⟨hs, hf⟩ := h
  obtain ⟨v0, e0, id, rfl, w0⟩ := hf 0 _ rfl
  obtain ⟨v1, e1, fr, rfl, w1⟩ := hf 1 _ rfl
  obtain ⟨v2, e2, B, bl, bc, rfl, w2⟩ := hf 2 _ rfl
  obtain ⟨v3, e3, C, cl, cc, rfl, w3⟩ := hf 3 _ rfl
  obtain ⟨ws, hw1, hw2, hw3, hw4, hw5⟩ := acts_of w2
  obtain ⟨ns, hn1, hn2, hn3, hn4, hn5⟩ := acts_of w3
  refine ⟨⟨id, fr, ws, ns⟩, B, bc, C, cc, ?_, hw2, hw3, bounds_i64 w1, hn2, by dsimp only; omega, by dsimp only; omega⟩
  have hs4 : a.size = 4 := hs
  unfold scC
  apply Array.ext_getElem?
  intro i
  rcases (show i = 0 ∨ i = 1 ∨ i = 2 ∨ i = 3 ∨ 4 ≤ i by omega) with rfl | rfl | rfl | rfl | h
  · exact e0
  · exact e1
  · rw [e2, ← hw1]; rfl
  · rw [e3, ← hn1]; rfl
  · rw [Array.getElem?_eq_none (by omega), Array.getElem?_eq_none (by simp; omega)]
theorem ints_in2 {w : World} {a : Option Addr} {len cap : Nat} {z : List Int} (h : IsRow .i64 w a len cap z) : (z.take len).length = len ∧ IntsBelow w.heap.size w (.slice a len cap) (z.take len) := by
  rcases h with ⟨rfl, rfl, rfl, rfl⟩ | ⟨y, rfl, h1, h2, h3, h4, _⟩
  · exact ⟨rfl, .inl ⟨rfl, rfl⟩⟩
  · have hl : (z.take len).length = len := by rw [List.length_take]; omega
    refine ⟨hl, ?_⟩
    refine .inr ⟨y, cap, by rw [hl], fun h0 => ?_, fun j hj => ?_⟩
    · have := Go.block_lt_of_cell (h4 0 (by rw [hl] at h0; omega))
      rw [add_block] at this
      exact this
    · rw [hl] at hj
      rw [h4 j (by omega)]
      simp [List.getD, List.getElem?_take_of_lt hj]
/-- The schedule's box and a window's. -/
structure RW (b X : Nat) (xs xc : Array Value) (w W : World) : Prop where
  box : W.heap[b]? = some (.cells xs 25 (0, 0))
  win : W.heap[X]? = some (.cells xc 41 (0, 0))
  names : Names W
  below : Below w.heap.size w W
theorem RW.keep {b X : Nat} {xs xc : Array Value} {w W W' : World} (f : RW b X xs xc w W) (k : Below W.heap.size W W') : RW b X xs xc w W' :=
  ⟨(k.block _ (lt_of_block f.box)).trans f.box, (k.block _ (lt_of_block f.win)).trans f.win, f.names.kept k, f.below.trans (k.mono f.below.size)⟩
theorem RW.drew {b X : Nat} {xs xc : Array Value} {w W : World} (f : RW b X xs xc w W) : RW b X xs xc w W.drew := f.keep ⟨rfl, rfl, rfl, Nat.le_refl _, fun _ _ => rfl⟩
theorem RW.cells {b X : Nat} {c0 c1 c2 c3 d0 d1 d2 : Value} {w W : World} (f : RW b X #[c0, c1, c2, c3] #[d0, d1, d2] w W) :
    W.cell? ⟨b, 0, none⟩ = some c0 ∧ W.cell? ⟨b, 1, none⟩ = some c1 ∧ W.cell? ⟨b, 2, none⟩ = some c2 ∧ W.cell? ⟨b, 3, none⟩ = some c3 ∧ W.cell? ⟨X, 0, none⟩ = some d0 ∧ W.cell? ⟨X, 1, none⟩ = some d1 ∧ W.cell? ⟨X, 2, none⟩ = some d2 := by
  refine ⟨?_, ?_, ?_, ?_, ?_, ?_, ?_⟩
  all_goals first
    | (rw [cell_of_row W _ _ _ _ _ f.box]; rfl)
    | (rw [cell_of_row W _ _ _ _ _ f.win]; rfl)
/-- Between the windows. -/
structure RB (b : Nat) (xs : Array Value) (w W : World) : Prop where
  box : W.heap[b]? = some (.cells xs 25 (0, 0))
  names : Names W
  below : Below w.heap.size w W
theorem RB.keep {b : Nat} {xs : Array Value} {w W W' : World} (f : RB b xs w W) (k : Below W.heap.size W W') : RB b xs w W' :=
  ⟨(k.block _ (lt_of_block f.box)).trans f.box, f.names.kept k, f.below.trans (k.mono f.below.size)⟩
theorem RB.cells {b : Nat} {c0 c1 c2 c3 : Value} {w W : World} (f : RB b #[c0, c1, c2, c3] w W) :
    W.cell? ⟨b, 0, none⟩ = some c0 ∧ W.cell? ⟨b, 1, none⟩ = some c1 ∧ W.cell? ⟨b, 2, none⟩ = some c2 ∧ W.cell? ⟨b, 3, none⟩ = some c3 := by
  refine ⟨?_, ?_, ?_, ?_⟩
  all_goals (rw [cell_of_row W _ _ _ _ _ f.box]; rfl)
theorem RW.rb {b X : Nat} {xs xc : Array Value} {w W : World} (f : RW b X xs xc w W) : RB b xs w W := ⟨f.box, f.names, f.below⟩
theorem num_of {x : A3} (h : rowB x = true) : Num x ∧ 0 ≤ x.s := by
  unfold rowB Go.Proofs.YthpncnbcinfllaaDoor.Scd.tkB Go.Proofs.YthpncnbcinfllaaDoor.Act.idB at h
  simp at h
  unfold Num
  omega
def WOut (b : Nat) (xs : Array Value) (l : List A3) (w : World) (i n : Value) (wr : World) : Prop := ∃ k : Nat, k ≤ l.length ∧ i = .int .i64 (k : Int) ∧ n = .int .i64 (sumA (l.take k)) ∧ RB b xs w wr
def WIn (b X : Nat) (xs xc : Array Value) (p a : Int) (w : World) (v : Value) (wr : World) : Prop := ∃ d : Nat, (d : Int) ≤ a ∧ v = .int .i64 (p + (d : Int)) ∧ RW b X xs xc w wr
set_option maxRecDepth 8000 in
set_option maxHeartbeats 6400000 in
theorem walk (a0 : Array Value) (a1 : Option Addr) (len1 cap1 : Nat) (z1 : List Int) (w : World) (w0 : IsAgg w [.one (.int .i64), .one (.int .i64), .recs [.int .i64, .int .i64, .int .i64], .recs [.int .i64, .int .i64, .int .i64]] a0) (w1 : IsRow .i64 w a1 len1 cap1 z1) (hn : Go.Proofs.YthpncnbcinfllaaDoor.Flt.Names w) :
    Calls Tryd.prog 4 #[.agg a0, .slice a1 len1 cap1] w fun e w' => e = .returned (.bool true) ∧ Below w.heap.size w w' := by
  obtain ⟨x, P, pc, C, cc, rfl, hacts, hwide, hfr, hns, hl1, hl2⟩ := sched_in2 w0
  obtain ⟨hzl, hints⟩ := ints_in2 w1
  obtain ⟨ids, hids⟩ : ∃ ids, z1.take len1 = ids := ⟨_, rfl⟩
  rw [hids] at hzl hints
  have hb0 : Below w.heap.size w (w.alloc (.cells (scC x P pc C cc) 25)) := (Below.refl _ _).alloc (Nat.le_refl _) _
  have HBX : Hid (RB w.heap.size (scC x P pc C cc) w (w.alloc (.cells (scC x P pc C cc) 25))) := ⟨heap_alloc_new _ _, hn.kept hb0, hb0⟩
  have HRT : Hid (∀ W, Below w.heap.size w W → _) := fun W b => sright09_any x P pc C cc W (hacts.kept b) (hns.kept b) hl1 hl2
  have HCK : Hid (x.ws.length ≤ 40 → len1 ≤ 60 → ∀ W, Below w.heap.size w W → _) := fun h40 h60 W b => check_any x.id x.fr P pc x.ws C x.ns.length cc a1 len1 cap1 ids W (hn.kept b) ((hints.below b).mono b.size) (hacts.kept b) hwide hfr (by omega) (by omega)
  obtain ⟨rg, hrg⟩ : ∃ r, rgS x = r := ⟨_, rfl⟩
  rw [hrg] at HRT
  have HRG := Lib.hid hrg
  have HACT := Lib.hid hacts
  obtain ⟨id, fr, l, ns⟩ := x
  unfold scC at HBX HRT ⊢
  dsimp only at HBX HRT HCK HACT ⊢
  obtain ⟨nl, hnl⟩ : ∃ n, l.length = n := ⟨_, rfl⟩
  have HNL := Lib.hid hnl
  obtain ⟨nn, hnn⟩ : ∃ n, ns.length = n := ⟨_, rfl⟩
  rw [hnl] at HBX HRT HCK ⊢
  rw [hnn] at HBX HRT HCK ⊢
  clear w0 w1 hacts hwide hfr hns hl1 hl2 hzl hints hids hb0 hrg hnl hnn hn
  go_enter Tryd.func4, Tryd.ntmps4
  go_wp2_with fail
  refine (HRT.out _ HBX.out.below).mono ?_
  rintro e w2 ⟨rfl, hb2⟩
  have HR2 := Lib.hid (HBX.out.keep hb2)
  clear hb2 HRT HBX
  obtain ⟨y0, y1, y2, y3⟩ := HR2.out.cells
  by_cases hrg : rg = 0
  · subst hrg
    by_cases h300 : 300 < fr
    · have t1 : decide ((300 : Int) < fr) = true := decide_eq_true h300
      clear h300
      go_wp2_with (go_at_call 6; refine (awake13 _ HR2.out.names).mono ?_; rintro e w' ⟨rfl, hb⟩; have HB2 := Lib.hid (HR2.out.below.trans (hb.mono HR2.out.below.size)); clear hb)
      go_ret
      exact ⟨rfl, HB2.out⟩
    · have t1 : decide ((300 : Int) < fr) = false := decide_eq_false h300
      have HFR := Lib.hid h300
      by_cases h40 : 40 < nl
      · have t2 : decide ((40 : Int) < (nl : Int)) = true := decide_eq_true (by omega)
        clear h300 h40
        go_wp2_with (go_at_call 6; refine (awake13 _ HR2.out.names).mono ?_; rintro e w' ⟨rfl, hb⟩; have HB2 := Lib.hid (HR2.out.below.trans (hb.mono HR2.out.below.size)); clear hb)
        go_ret
        exact ⟨rfl, HB2.out⟩
      · have t2 : decide ((40 : Int) < (nl : Int)) = false := decide_eq_false (by omega)
        have HN40 : Hid (nl ≤ 40) := by show _ ≤ _; omega
        by_cases h60 : 60 < len1
        · have t3 : decide ((60 : Int) < (len1 : Int)) = true := decide_eq_true (by omega)
          clear h300 h40 h60
          go_wp2_with (go_at_call 6; refine (awake13 _ HR2.out.names).mono ?_; rintro e w' ⟨rfl, hb⟩; have HB2 := Lib.hid (HR2.out.below.trans (hb.mono HR2.out.below.size)); clear hb)
          go_ret
          exact ⟨rfl, HB2.out⟩
        · have t3 : decide ((60 : Int) < (len1 : Int)) = false := decide_eq_false (by omega)
          have HCK2 := Lib.hid (HCK.out HN40.out (by omega) w2 HR2.out.below)
          obtain ⟨q, hq⟩ : ∃ q, chkW ids fr ⟨0, 0, 0⟩ 0 l = q := ⟨_, rfl⟩
          rw [hq] at HCK2
          have HQ := Lib.hid hq
          clear h300 h40 h60 HCK hq
          go_wp2_with fail
          refine HCK2.out.mono ?_
          rintro e w3 ⟨v, rfl, hx, hb3⟩
          have HR3 := Lib.hid (HR2.out.keep hb3)
          have HX := Lib.hid hx
          clear hb3 hx HCK2 HR2 y0 y1 y2 y3
          by_cases hk : q.1 = 0
          · have hv : v = .nilIface := by
              rcases HX.out with ⟨_, _, h2⟩ | ⟨h1, _⟩
              · exact h2
              · omega
            subst hv
            have hch : Chain fr 0 l := by
              have h := chain_of ids fr l ⟨0, 0, 0⟩ 0 (by rw [HQ.out]; exact hk)
              simpa using h
            obtain ⟨hi1, hi2, hi3, hi4, _⟩ := rgS_in HRG.out
            dsimp only at hi1 hi2 hi3 hi4
            have hnum : ∀ x ∈ l, Num x := fun x hx => (num_of (hi4 x hx)).1
            have hids : ∀ x ∈ l, x.s ≠ -1 := fun x hx => by have := (num_of (hi4 x hx)).2; omega
            obtain ⟨fn, rfl⟩ : ∃ n : Nat, fr = (n : Int) := ⟨fr.toNat, by omega⟩
            have hl40 := HN40.out
            have hcs := cutsOf_cuts (fn : Int) l (by omega) hnum
            obtain ⟨m, hm⟩ : ∃ m, (cutsOf (fn : Int) l).length = m + 1 := ⟨(cutsOf (fn : Int) l).length - 1, by have := cutsOf_two (fn : Int) l (by omega) hnum; omega⟩
            have HBUSY : Hid (∀ W, Below w.heap.size w W → Calls Tryd.prog 14 #[.agg #[.int .i64 id, .int .i64 (fn : Int), .slice P nl pc, .slice C nn cc]] W fun e w' => e = .returned (.int .i64 (sumA l)) ∧ Below W.heap.size W w') := fun W b => by
              have h := busy_any id fn P pc l C nn cc W (HACT.out.kept b) hnum ⟨by omega, by omega⟩ (by rw [HNL.out]; omega) m hm
              rw [busy_sum hcs hm (by omega) (fun x hx => (cutsOf_mem _ _ _).2 (.inr (.inr ⟨x, hx, .inl rfl⟩))) (fun x hx => (cutsOf_mem _ _ _).2 (.inr (.inr ⟨x, hx, .inr rfl⟩))) hch hids, HNL.out] at h
              exact h
            have HOWN : Hid (∀ t W, Below w.heap.size w W → Calls Tryd.prog 8 #[.agg #[.int .i64 id, .int .i64 (fn : Int), .slice P nl pc, .slice C nn cc], .int .i64 t] W fun e w' => e = .returned (.int .i64 (ownT (fn : Int) l t)) ∧ Below W.heap.size W w') := fun t W b => by
              have h := owner_any id (fn : Int) t P pc l C nn cc W (HACT.out.kept b) hnum ⟨by omega, by omega⟩ (by rw [HNL.out]; omega)
              rw [HNL.out] at h
              exact h
            have HF3 : Hid ((fn : Int) ≤ 300) := by have := HFR.out; show _ ≤ _; omega
            have HCH := Lib.hid hch
            have hsum := sumA_in (fr := (fn : Int))
            have HSUM : Hid (∀ k, 0 ≤ sumA (l.take k) ∧ sumA (l.take k) ≤ 300) := fun k => by
              have h := sumA_in (l.take k) 0 (chain_take l 0 k hch) (show (0 : Int) ≤ (fn : Int) by omega)
              have := HF3.out
              omega
            clear hk hch hi1 hi2 hi3 hi4 hnum hids hl40 hcs hm hsum HX HQ HRG HFR
            obtain ⟨y0, y1, y2, y3⟩ := HR3.out.cells
            go_wp2_with fail
            go_loopw [37, 5] (fun i n wr => WOut w.heap.size #[.int .i64 id, .int .i64 (fn : Int), .slice P nl pc, .slice C nn cc] l w i n wr) (fun i _ _ => nl - (intOf i).toNat)
            case atStart => exact ⟨0, Nat.zero_le _, rfl, by simp [sumA], HR3.out⟩
            case round =>
              obtain ⟨k, hk, rfl, rfl, hrb⟩ := hrel
              have HRB := Lib.hid hrb
              have hka : k ≤ nl := by rw [← HNL.out]; exact hk
              clear hk hrb y0 y1 y2 y3 HR3
              obtain ⟨y0, y1, y2, y3⟩ := HRB.out.cells
              by_cases hlt : k < nl
              · obtain ⟨x, hx⟩ : ∃ x, l[k]? = some x := ⟨_, List.getElem?_eq_getElem (by rw [HNL.out]; exact hlt)⟩
                obtain ⟨ax, rfl, c1, c2, c3⟩ := (HACT.out.kept HRB.out.below) k x hx
                have hge := chain_ge l 0 k x HCH.out hx
                have htk : l.take (k + 1) = l.take k ++ [x] := by rw [List.take_add_one, hx]; rfl
                have hsn : sumA (l.take (k + 1)) = sumA (l.take k) + x.a := by rw [htk, sumA_snoc]
                have HSN := Lib.hid hsn
                have hsk := HSUM.out (k + 1)
                rw [hsn] at hsk
                have HOT : Hid (∀ t, x.p ≤ t → t < x.p + x.a → ownT (fn : Int) l t = x.s) := fun t h1 h2 => own_right l 0 k x HCH.out hx h1 h2
                obtain ⟨sk, hske⟩ : ∃ v, sumA (l.take k) = v := ⟨_, rfl⟩
                rw [hske] at HSN hsk
                rw [hske]
                have hb5 : Below wr.heap.size wr (wr.alloc (.cells (winC x) 41)) := (Below.refl _ _).alloc (Nat.le_refl _) _
                have HRW : Hid (RW w.heap.size wr.heap.size #[.int .i64 id, .int .i64 (fn : Int), .slice (some ax) nl pc, .slice C nn cc] (winC x) w (wr.alloc (.cells (winC x) 41))) := ⟨(hb5.block _ (lt_of_block HRB.out.box)).trans HRB.out.box, heap_alloc_new _ _, HRB.out.names.kept hb5, HRB.out.below.trans (hb5.mono HRB.out.below.size)⟩
                have HXK := Lib.hid hx
                obtain ⟨s1, p1, a1⟩ := x
                unfold winC at HRW
                dsimp only at c1 c2 c3 hge HRW HOT HSN hsk
                have hki : (0 : Int) ≤ k := by omega
                have hkb : (k : Int) < nl := by omega
                have hf3 := HF3.out
                obtain ⟨g1, g2, g3, g4⟩ := hge
                have hwe : IntKind.i64.wrap (p1 + a1) = p1 + a1 := IntWalk.i64_in _ (by omega)
                have HG : Hid (0 ≤ p1 ∧ 1 ≤ a1 ∧ p1 + a1 ≤ 300) := ⟨g1, g3, by omega⟩
                have HSK := Lib.hid hsk
                clear hx htk hsn hske hb5 g1 g2 g3 g4 hf3 hsk
                go_wp2_with fail
                obtain ⟨X, hX⟩ : ∃ X, wr.heap.size = X := ⟨_, rfl⟩
                obtain ⟨W0, hW0⟩ : ∃ W, wr.alloc (.cells #[.int .i64 s1, .int .i64 p1, .int .i64 a1] 41) = W := ⟨_, rfl⟩
                rw [hX, hW0] at HRW
                rw [hX, hW0]
                clear hX hW0 c1 c2 c3 y0 y1 y2 y3 HRB
                go_loopw [8] (fun v wr => WIn w.heap.size X #[.int .i64 id, .int .i64 (fn : Int), .slice (some ax) nl pc, .slice C nn cc] #[.int .i64 s1, .int .i64 p1, .int .i64 a1] p1 a1 w v wr) (fun v _ => (p1 + a1 - intOf v).toNat)
                case atStart => exact ⟨0, by have := HG.out; omega, by simp, HRW.out⟩
                case round =>
                  obtain ⟨d, hd, rfl, hrw⟩ := hrel
                  have HIN := Lib.hid hrw
                  obtain ⟨z0, z1', z2, z3, d0, d1, d2⟩ := HIN.out.cells
                  have hg := HG.out
                  clear hrw HRW
                  by_cases hdl : (d : Int) < a1
                  · have hOT := HOT.out (p1 + (d : Int)) (by omega) (by omega)
                    have HOC := Lib.hid (fun W b => HOWN.out (p1 + (d : Int)) W b)
                    rw [hOT] at HOC
                    have tt : (d : Int) < a1 := hdl
                    have hw1 : IntKind.i64.wrap (p1 + (d : Int) + 1) = p1 + ((d + 1 : Nat) : Int) := by rw [IntKind.wrap_i64]; omega
                    have HPD := Lib.hid HIN.out.drew
                    have HD := Lib.hid hdl
                    clear hOT hg
                    go_wp2_with fail
                    go_region_held3 (fun wx => wx.cell? ⟨w.heap.size, 0, none⟩ = some (.int .i64 id) ∧ wx.cell? ⟨w.heap.size, 1, none⟩ = some (.int .i64 (fn : Int)) ∧ wx.cell? ⟨w.heap.size, 2, none⟩ = some (.slice (some ax) nl pc) ∧ wx.cell? ⟨w.heap.size, 3, none⟩ = some (.slice C nn cc) ∧ wx.cell? ⟨X, 0, none⟩ = some (.int .i64 s1))
                      (first | exact HKP.out | (refine ⟨?_, ?_, ?_, ?_, ?_⟩ <;> assumption) | (go_keep; done))
                      (first
                        | (go_at_call 8; refine (HOC.out _ HPD.out.below).mono ?_; rintro e w5 ⟨rfl, hb5⟩; have HP7 := Lib.hid (HPD.out.keep hb5); have HKP : Hid (w5.cell? ⟨w.heap.size, 0, none⟩ = some (.int .i64 id) ∧ w5.cell? ⟨w.heap.size, 1, none⟩ = some (.int .i64 (fn : Int)) ∧ w5.cell? ⟨w.heap.size, 2, none⟩ = some (.slice (some ax) nl pc) ∧ w5.cell? ⟨w.heap.size, 3, none⟩ = some (.slice C nn cc) ∧ w5.cell? ⟨X, 0, none⟩ = some (.int .i64 s1)) := ⟨HP7.out.cells.1, HP7.out.cells.2.1, HP7.out.cells.2.2.1, HP7.out.cells.2.2.2.1, HP7.out.cells.2.2.2.2.1⟩; clear hb5))
                    all_goals
                      go_wp2
                      go_roundw
                      case rel => exact ⟨d + 1, by have := HD.out; omega, by first | rfl | rw [hw1] | go_num, HP7.out⟩
                      case measure => have := HD.out; simp [intOf]; omega
                  · have hda : (d : Int) = a1 := by omega
                    have tt : ¬ (d : Int) < a1 := hdl
                    have HDA := Lib.hid hda
                    clear hda hd hg
                    have hwn : IntKind.i64.wrap (sk + a1) = sk + a1 := IntWalk.i64_in _ (by have := HSK.out; omega)
                    have hk1 : IntKind.i64.wrap ((k : Int) + 1) = (k : Int) + 1 := IntWalk.i64_in _ (by have := HN40.out; omega)
                    go_upto_region 14 with fail
                    rcases Nat.eq_zero_or_pos k with hz | hz
                    · have hz0 : decide ((0 : Int) < (k : Int)) = false := decide_eq_false (by omega)
                      have hz1 : decide (0 < k) = false := decide_eq_false (by omega)
                      clear hz
                      go_quiet (fail)
                      go_wp2
                      go_roundw
                      case rel => exact ⟨k + 1, by rw [HNL.out]; omega, by go_num, by rw [HSN.out], HIN.out.rb.keep ⟨rfl, rfl, rfl, Nat.le_refl _, fun _ _ => rfl⟩⟩
                      case measure => simp [intOf]; omega
                    · obtain ⟨j, hkj⟩ : ∃ j, k = j + 1 := ⟨k - 1, by omega⟩
                      obtain ⟨y, hy⟩ : ∃ y, l[j]? = some y := ⟨_, List.getElem?_eq_getElem (by have := HNL.out; omega)⟩
                      obtain ⟨ay, hay, e1, e2, e3⟩ := (HACT.out.kept HIN.out.below) j y hy
                      obtain rfl := Option.some.inj hay
                      have hyg := chain_ge l 0 j y HCH.out hy
                      have hnx := chain_next l 0 j y ⟨s1, p1, a1⟩ HCH.out hy (by rw [← hkj]; exact HXK.out)
                      have hf3 := HF3.out
                      have hg := HG.out
                      have HT := Lib.hid (fun W => touch_any y ⟨s1, p1, a1⟩ W (by unfold smallB; simp; omega) (by unfold smallB; simp; omega))
                      have htb : touchB y ⟨s1, p1, a1⟩ = false := by
                        unfold touchB
                        dsimp only at hnx ⊢
                        rw [if_neg (by omega)]
                        exact decide_eq_false (by omega)
                      rw [htb] at HT
                      obtain ⟨s2, p2, a2⟩ := y
                      unfold winC at HT
                      dsimp only at e1 e2 e3 HT
                      have tkk : decide ((0 : Int) < (k : Int)) = true := decide_eq_true (by omega)
                      have tkk2 : decide (0 < k) = true := decide_eq_true (by omega)
                      have hj1 : IntKind.i64.wrap ((k : Int) - 1) = (j : Int) := by rw [show (k : Int) - 1 = (j : Int) by omega]; exact IntWalk.i64_in _ (by have := HN40.out; omega)
                      have hj0 : (0 : Int) ≤ (j : Int) := by omega
                      have hja : (j : Int) < nl := by omega
                      have HPD := Lib.hid HIN.out.drew
                      have HEY : Hid (∀ W, Below w.heap.size w W → W.cell? (ax.add (j * 3)) = some (.int .i64 s2) ∧ W.cell? ⟨(ax.add (j * 3)).block, (ax.add (j * 3)).off + 1, none⟩ = some (.int .i64 p2) ∧ W.cell? ⟨(ax.add (j * 3)).block, (ax.add (j * 3)).off + 2, none⟩ = some (.int .i64 a2)) := fun W b => by
                        obtain ⟨ay, hay, e1, e2, e3⟩ := (HACT.out.kept b) j _ hy
                        obtain rfl := Option.some.inj hay
                        exact ⟨e1, e2, e3⟩
                      clear hay hy hyg hnx hf3 hg htb hz hkj
                      go_region_held3 (fun wx => wx.cell? ⟨w.heap.size, 2, none⟩ = some (.slice (some ax) nl pc) ∧ wx.cell? (ax.add (j * 3)) = some (.int .i64 s2) ∧ wx.cell? ⟨(ax.add (j * 3)).block, (ax.add (j * 3)).off + 1, none⟩ = some (.int .i64 p2) ∧ wx.cell? ⟨(ax.add (j * 3)).block, (ax.add (j * 3)).off + 2, none⟩ = some (.int .i64 a2) ∧ wx.cell? ⟨X, 0, none⟩ = some (.int .i64 s1) ∧ wx.cell? ⟨X, 1, none⟩ = some (.int .i64 p1) ∧ wx.cell? ⟨X, 2, none⟩ = some (.int .i64 a1))
                        (first | exact HKP.out | (refine ⟨?_, ?_, ?_, ?_, ?_, ?_, ?_⟩ <;> assumption) | (go_keep; done))
                        (first
                          | (go_at_call 19; refine (HT.out _).mono ?_; rintro e w5 ⟨rfl, hb5⟩; have HP7 := Lib.hid (HPD.out.keep hb5); have HKP : Hid (w5.cell? ⟨w.heap.size, 2, none⟩ = some (.slice (some ax) nl pc) ∧ w5.cell? (ax.add (j * 3)) = some (.int .i64 s2) ∧ w5.cell? ⟨(ax.add (j * 3)).block, (ax.add (j * 3)).off + 1, none⟩ = some (.int .i64 p2) ∧ w5.cell? ⟨(ax.add (j * 3)).block, (ax.add (j * 3)).off + 2, none⟩ = some (.int .i64 a2) ∧ w5.cell? ⟨X, 0, none⟩ = some (.int .i64 s1) ∧ w5.cell? ⟨X, 1, none⟩ = some (.int .i64 p1) ∧ w5.cell? ⟨X, 2, none⟩ = some (.int .i64 a1)) := ⟨HP7.out.cells.2.2.1, (HEY.out _ HP7.out.below).1, (HEY.out _ HP7.out.below).2.1, (HEY.out _ HP7.out.below).2.2, HP7.out.cells.2.2.2.2.1, HP7.out.cells.2.2.2.2.2.1, HP7.out.cells.2.2.2.2.2.2⟩; clear hb5))
                      all_goals
                        have d2' := HP7.out.cells.2.2.2.2.2.2
                        go_wp2
                        go_roundw
                        case rel => exact ⟨k + 1, by rw [HNL.out]; omega, by go_num, by rw [HSN.out], HP7.out.rb⟩
                        case measure => simp [intOf]; omega
              · obtain rfl : k = nl := by omega
                have htl : sumA (l.take k) = sumA l := by rw [List.take_of_length_le (by rw [HNL.out]; exact Nat.le_refl _)]
                rw [htl]
                have HBY := Lib.hid (HBUSY.out wr HRB.out.below)
                clear htl HOWN HBUSY
                go_wp2_with (first
                  | (go_at_call 14; refine HBY.out.mono ?_; rintro e w5 ⟨rfl, hb5⟩; have HR5 := Lib.hid (HRB.out.keep hb5); clear hb5)
                  | (go_at_call 6; refine (awake13 _ HR5.out.names).mono ?_; rintro e w' ⟨rfl, hb⟩; have HB2 := Lib.hid (HR5.out.below.trans (hb.mono HR5.out.below.size)); clear hb))
                go_ret
                exact ⟨rfl, HB2.out⟩
          · obtain ⟨u, y, rfl⟩ : ∃ u y, v = .iface u y := by
              rcases HX.out with ⟨h, _⟩ | ⟨_, _, g, y, rfl, _⟩
              · exact absurd h hk
              · exact ⟨_, _, rfl⟩
            clear hk HX HQ
            go_wp2_with (go_at_call 6; refine (awake13 _ HR3.out.names).mono ?_; rintro e w' ⟨rfl, hb⟩; have HB2 := Lib.hid (HR3.out.below.trans (hb.mono HR3.out.below.size)); clear hb)
            go_ret
            exact ⟨rfl, HB2.out⟩
  · have t0 : ((rg : Int) != 0) = true := by simp; omega
    go_wp2_with (go_at_call 6; refine (awake13 _ HR2.out.names).mono ?_; rintro e w' ⟨rfl, hb⟩; have HB2 := Lib.hid (HR2.out.below.trans (hb.mono HR2.out.below.size)); clear hb)
    go_ret
    exact ⟨rfl, HB2.out⟩

end Go.Proofs.YthpncnbcinfllaaDoor.windowRight
