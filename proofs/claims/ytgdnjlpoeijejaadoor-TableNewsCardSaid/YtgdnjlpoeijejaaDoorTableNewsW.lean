
/- The function TableNews returns true for every schedule, every slice of ids and every number. Condition: the package-level variables hold what the program lays in them (the card ties that). This text: the walk through the Go text; the row is in the text without the W at its name's end. -/

import Derived.Test.YtgdnjlpoeijejaaDoorArgs

import Derived.Test.YtgdnjlpoeijejaaDoorTabF

import Derived.Test.YtgdnjlpoeijejaaDoorTabE

import Derived.Test.YtgdnjlpoeijejaaDoorWinE

import Derived.Test.YtgdnjlpoeijejaaDoorWinF

import Derived.Test.YtgdnjlpoeijejaaDoorWinY

import Derived.Deep.RegionHeld3

namespace Go.Proofs.YtgdnjlpoeijejaaDoor.tableNews

open Go.RowKit Go.PlainAid Go.Proofs.YtgdnjlpoeijejaaDoor.Args

set_option linter.unusedVariables false

open Go.Proofs.YtgdnjlpoeijejaaDoor.Flt Go.Proofs.YtgdnjlpoeijejaaDoor.Rdr Go.Proofs.YtgdnjlpoeijejaaDoor.Oct Go.Proofs.YtgdnjlpoeijejaaDoor.Win Go.Proofs.YtgdnjlpoeijejaaDoor.Tab

open Go.Proofs.YtgdnjlpoeijejaaDoor.Act (A3 actL flatA flatA_get flatA_len ActsAt I64 Wide acts_of)

set_option linter.unusedSimpArgs false

/-- A schedule that came in by value: its windows. -/
theorem sched_in {w : World} {a : Array Value} (h : IsAgg w [.one (.int .i64), .one (.int .i64), .recs [.int .i64, .int .i64, .int .i64], .recs [.int .i64, .int .i64, .int .i64]] a) :
    ∃ (id fr : Int) (B : Option Addr) (l : List A3) (cb : Nat) (C : Option Addr) (nn cc : Nat), a = #[.int .i64 id, .int .i64 fr, .slice B l.length cb, .slice C nn cc] ∧ ActsAt w B l ∧ (∀ x ∈ l, Wide x) ∧ I64 fr := by
  obtain ⟨hs, hf⟩ := h
  obtain ⟨v0, e0, id, rfl, w0⟩ := hf 0 _ rfl
  obtain ⟨v1, e1, fr, rfl, w1⟩ := hf 1 _ rfl
  obtain ⟨v2, e2, B, bl, bc, rfl, w2⟩ := hf 2 _ rfl
  obtain ⟨v3, e3, C, cl, cc, rfl, w3⟩ := hf 3 _ rfl
  obtain ⟨ws, hw1, hw2, hw3, hw4, hw5⟩ := acts_of w2
  refine ⟨id, fr, B, ws, bc, C, cl, cc, ?_, hw2, hw3, bounds_i64 w1⟩
  have hs4 : a.size = 4 := hs
  apply Array.ext_getElem?
  intro i
  rcases (show i = 0 ∨ i = 1 ∨ i = 2 ∨ i = 3 ∨ 4 ≤ i by omega) with rfl | rfl | rfl | rfl | h
  · exact e0
  · exact e1
  · rw [e2, ← hw1]; rfl
  · exact e3
  · rw [Array.getElem?_eq_none (by omega), Array.getElem?_eq_none (by simp; omega)]
theorem ints_in {w : World} {a : Option Addr} {len cap : Nat} {z : List Int} (h : IsRow .i64 w a len cap z) : (z.take len).length = len ∧ IntsBelow w.heap.size w (.slice a len cap) (z.take len) := by
  rcases h with ⟨rfl, rfl, rfl, rfl⟩ | ⟨y, rfl, h1, h2, h3, h4, _⟩
  · exact ⟨rfl, .inl ⟨rfl, rfl⟩⟩
  · have hl : (z.take len).length = len := by rw [List.length_take]; omega
    refine ⟨hl, ?_⟩
    refine .inr ⟨y, cap, by rw [hl], fun h0 => ?_, fun j hj => ?_⟩
    · have := Go.block_lt_of_cell (h4 0 (by rw [hl] at h0; omega))
      rw [add_block] at this
      exact this
    · rw [hl] at hj
      rw [h4 j (by omega)]
      simp [List.getD, List.getElem?_take_of_lt hj]
/-- The schedule's box. -/
structure TB (b : Nat) (xs : Array Value) (w W : World) : Prop where
  box : W.heap[b]? = some (.cells xs 25 (0, 0))
  names : Names W
  below : Below w.heap.size w W
theorem TB.keep {b : Nat} {xs : Array Value} {w W W' : World} (f : TB b xs w W) (k : Below W.heap.size W W') : TB b xs w W' :=
  ⟨(k.block _ (lt_of_block f.box)).trans f.box, f.names.kept k, f.below.trans (k.mono f.below.size)⟩
theorem TB.drewN {b : Nat} {xs : Array Value} {w W : World} (f : TB b xs w W) (n : Nat) : TB b xs w (W.drewN n) := f.keep ⟨rfl, rfl, rfl, Nat.le_refl _, fun _ _ => rfl⟩
theorem TB.cells {b : Nat} {c0 c1 c2 c3 : Value} {w W : World} (f : TB b #[c0, c1, c2, c3] w W) :
    W.cell? ⟨b, 0, none⟩ = some c0 ∧ W.cell? ⟨b, 1, none⟩ = some c1 ∧ W.cell? ⟨b, 2, none⟩ = some c2 ∧ W.cell? ⟨b, 3, none⟩ = some c3 := by
  refine ⟨?_, ?_, ?_, ?_⟩
  all_goals (rw [cell_of_row W _ _ _ _ _ f.box]; rfl)
theorem chain_num {fr : Int} (hf : fr ≤ 1048576) : ∀ (l : List A3) (s : Int), Chain fr s l → ∀ x ∈ l, Num x := by
  intro l s hc x hx
  obtain ⟨k, hk, rfl⟩ := List.mem_iff_getElem.1 hx
  obtain ⟨_, h2, h3, h4⟩ := chain_ge l s k _ hc (List.getElem?_eq_getElem hk)
  unfold Num
  omega
set_option maxRecDepth 8000 in
set_option maxHeartbeats 12800000 in
theorem walk (a0 : Array Value) (a1 : Option Addr) (len1 cap1 : Nat) (z1 : List Int) (a2 : Int) (w : World) (w0 : IsAgg w [.one (.int .i64), .one (.int .i64), .recs [.int .i64, .int .i64, .int .i64], .recs [.int .i64, .int .i64, .int .i64]] a0) (w1 : IsRow .i64 w a1 len1 cap1 z1) (w2 : (Lit.int .i64 a2).wf = true) (hn : Go.Proofs.YtgdnjlpoeijejaaDoor.Flt.Names w) :
    Calls Tryd.prog 3 #[.agg a0, .slice a1 len1 cap1, .int .i64 a2] w fun e w' => e = .returned (.bool true) ∧ Below w.heap.size w w' := by
  obtain ⟨id, fr, P, l, pc, C, nn, cc, rfl, hacts, hwide, hfr⟩ := sched_in w0
  obtain ⟨hzl, hints⟩ := ints_in w1
  obtain ⟨ids, hids⟩ : ∃ ids, z1.take len1 = ids := ⟨_, rfl⟩
  rw [hids] at hzl hints
  have hb0 : Below w.heap.size w (w.alloc (.cells #[.int .i64 id, .int .i64 fr, .slice P l.length pc, .slice C nn cc] 25)) := (Below.refl _ _).alloc (Nat.le_refl _) _
  have HB0 : Hid (TB w.heap.size #[.int .i64 id, .int .i64 fr, .slice P l.length pc, .slice C nn cc] w (w.alloc (.cells #[.int .i64 id, .int .i64 fr, .slice P l.length pc, .slice C nn cc] 25))) := ⟨heap_alloc_new _ _, hn.kept hb0, hb0⟩
  obtain ⟨n, hln⟩ : ∃ n, l.length = n := ⟨_, rfl⟩
  have HLN := Lib.hid hln
  rw [hln] at HB0
  rw [hln]
  have HACT := Lib.hid hacts
  have HWD := Lib.hid hwide
  have HINT := Lib.hid hints
  have HZL := Lib.hid hzl
  have HI64 := Lib.hid hfr
  clear w0 w1 hacts hwide hfr hints hn hb0 hzl hids hln
  by_cases h40 : 40 < n
  · have t1 : decide ((40 : Int) < (n : Int)) = true := decide_eq_true (by omega)
    clear h40
    go_enter Tryd.func3, Tryd.ntmps3
    go_wp2_with (go_at_call 5; refine (awake17 _ (HB0.out.names)).mono ?_; rintro e w' ⟨rfl, hb⟩; have HBF := Lib.hid (HB0.out.below.trans (hb.mono HB0.out.below.size)); clear hb)
    go_ret
    exact ⟨rfl, HBF.out⟩
  · have t1 : decide ((40 : Int) < (n : Int)) = false := decide_eq_false (by omega)
    by_cases h60 : 60 < len1
    · have t2 : decide ((60 : Int) < (len1 : Int)) = true := decide_eq_true (by omega)
      clear h40 h60
      go_enter Tryd.func3, Tryd.ntmps3
      go_wp2_with (go_at_call 5; refine (awake17 _ (HB0.out.names)).mono ?_; rintro e w' ⟨rfl, hb⟩; have HBF := Lib.hid (HB0.out.below.trans (hb.mono HB0.out.below.size)); clear hb)
      go_ret
      exact ⟨rfl, HBF.out⟩
    · have t2 : decide ((60 : Int) < (len1 : Int)) = false := decide_eq_false (by omega)
      by_cases hbig : 300 < fr ∧ fr ≤ 1048576
      · have t3 : decide ((300 : Int) < fr) = true := decide_eq_true hbig.1
        have t4 : decide (fr ≤ (1048576 : Int)) = true := decide_eq_true hbig.2
        clear h40 h60 hbig
        go_enter Tryd.func3, Tryd.ntmps3
        go_wp2_with (go_at_call 5; refine (awake17 _ (HB0.out.names)).mono ?_; rintro e w' ⟨rfl, hb⟩; have HBF := Lib.hid (HB0.out.below.trans (hb.mono HB0.out.below.size)); clear hb)
        go_ret
        exact ⟨rfl, HBF.out⟩
      · by_cases hrange : fr < 1 ∨ 1048576 < fr
        · have HNW := Lib.hid (tnew_range id fr P n pc C nn cc a1 len1 cap1 _ HB0.out.names hrange)
          have hef : ∀ wx : World, (Op.equalIn 10000 35 (.agg #[.int .i64 18, .int .i64 0, .int .i64 0]) (.agg #[.int .i64 18, .int .i64 0, .int .i64 0])).run Tryd.prog wx = .ok true wx := eq_flt 18 0 0
          have hz : (0 : Int) = 0 := rfl
          by_cases h1 : fr < 1
          · have t3 : decide ((300 : Int) < fr) = false := decide_eq_false (by omega)
            have t5 : decide (fr < 1) = true := decide_eq_true h1
            clear h40 h60 hbig hrange h1
            obtain ⟨y0, y1, y2, y3⟩ := HB0.out.cells
            go_enter Tryd.func3, Tryd.ntmps3
            go_wp2_with fail
            refine HNW.out.mono ?_
            rintro e w2 ⟨x, rfl, hx, hb2⟩
            have HB2 := Lib.hid (HB0.out.keep hb2)
            have hx2 : x = .iface 78 (.int .i64 18) := hx
            subst hx2
            have HOF := Lib.hid (fun W => of_any (.iface 78 (.int .i64 18)) [] 18 W rfl (by simp))
            clear hx hb2 HNW HB0 y0 y1 y2 y3
            obtain ⟨y0, y1, y2, y3⟩ := HB2.out.cells
            go_wp2_with (first
              | (go_at_call 7; refine (HOF.out _).mono ?_; rintro e w5 ⟨rfl, hb5⟩; (try simp only [fltV, secOf, atOf]); have HB5 := Lib.hid (HB2.out.keep hb5); clear hb5)
              | (go_at_call 5; refine (awake17 _ HB5.out.names).mono ?_; rintro e w' ⟨rfl, hb⟩; have HBF := Lib.hid (HB5.out.below.trans (hb.mono HB5.out.below.size)); clear hb))
            go_ret
            exact ⟨rfl, HBF.out⟩
          · have t3 : decide ((300 : Int) < fr) = true := decide_eq_true (by omega)
            have t4 : decide (fr ≤ (1048576 : Int)) = false := decide_eq_false (by omega)
            have t5 : decide (fr < 1) = false := decide_eq_false h1
            have t6 : decide ((1048576 : Int) < fr) = true := decide_eq_true (by omega)
            clear h40 h60 hbig hrange h1
            obtain ⟨y0, y1, y2, y3⟩ := HB0.out.cells
            go_enter Tryd.func3, Tryd.ntmps3
            go_wp2_with fail
            refine HNW.out.mono ?_
            rintro e w2 ⟨x, rfl, hx, hb2⟩
            have HB2 := Lib.hid (HB0.out.keep hb2)
            have hx2 : x = .iface 78 (.int .i64 18) := hx
            subst hx2
            have HOF := Lib.hid (fun W => of_any (.iface 78 (.int .i64 18)) [] 18 W rfl (by simp))
            clear hx hb2 HNW HB0 y0 y1 y2 y3
            obtain ⟨y0, y1, y2, y3⟩ := HB2.out.cells
            go_wp2_with (first
              | (go_at_call 7; refine (HOF.out _).mono ?_; rintro e w5 ⟨rfl, hb5⟩; (try simp only [fltV, secOf, atOf]); have HB5 := Lib.hid (HB2.out.keep hb5); clear hb5)
              | (go_at_call 5; refine (awake17 _ HB5.out.names).mono ?_; rintro e w' ⟨rfl, hb⟩; have HBF := Lib.hid (HB5.out.below.trans (hb.mono HB5.out.below.size)); clear hb))
            go_ret
            exact ⟨rfl, HBF.out⟩
        · obtain ⟨fn, rfl⟩ : ∃ m : Nat, fr = (m : Int) := ⟨fr.toNat, by omega⟩
          have hf1 : 1 ≤ fn := by omega
          have hf2 : fn ≤ 300 := by omega
          have t3 : decide ((300 : Int) < (fn : Int)) = false := decide_eq_false (by omega)
          have t5 : decide ((fn : Int) < 1) = false := decide_eq_false (by omega)
          have t6 : decide ((1048576 : Int) < (fn : Int)) = false := decide_eq_false (by omega)
          have hl : l.length ≤ 1000 := by rw [HLN.out]; omega
          have hil : ids.length ≤ 1099511627776 := by rw [HZL.out]; omega
          have HNEW : Hid (∀ W, TB w.heap.size #[.int .i64 id, .int .i64 (fn : Int), .slice P n pc, .slice C nn cc] w W → _) := fun W f => tnew_any id fn P pc l C nn cc a1 len1 cap1 ids W f.names ((HINT.out.below f.below).mono f.below.size) (HACT.out.kept f.below) HWD.out ⟨hf1, by omega⟩ hl hil
          have HRC : Hid (∀ W, TB w.heap.size #[.int .i64 id, .int .i64 (fn : Int), .slice P n pc, .slice C nn cc] w W → _) := fun W f => rcheck_any id (fn : Int) P pc l C nn cc a1 len1 cap1 ids W ((HINT.out.below f.below).mono f.below.size) (HACT.out.kept f.below) HWD.out HI64.out hl hil
          have HCH : Hid ((chkW ids (fn : Int) ⟨0, 0, 0⟩ 0 l).1 = 0 → Chain (fn : Int) 0 l) := fun h0 => by
            have h := chain_of ids (fn : Int) l ⟨0, 0, 0⟩ 0 h0
            simpa using h
          have HRWD : Hid ((∀ x ∈ l, Num x) → ∀ W, Below w.heap.size w W → _) := fun hnum W b => rword_any id fn P pc l C nn cc W (HACT.out.kept b) hnum (by omega) (by omega)
          have HNUM : Hid (Chain (fn : Int) 0 l → ∀ x ∈ l, Num x) := fun h => chain_num (by omega) l 0 h
          rw [HLN.out] at HNEW HRC HRWD
          obtain ⟨f, hfe⟩ : ∃ f, ownT (fn : Int) l = f := ⟨_, rfl⟩
          rw [hfe] at HNEW HRWD
          obtain ⟨q, hq⟩ : ∃ q, chkW ids (fn : Int) ⟨0, 0, 0⟩ 0 l = q := ⟨_, rfl⟩
          rw [hq] at HNEW HRC HCH
          obtain ⟨kk, aa⟩ := q
          dsimp only at HNEW HRC HCH
          have HFN : Hid (1 ≤ fn ∧ fn ≤ 300) := ⟨hf1, hf2⟩
          have HRU : Hid (Runs f (runsD f fn) fn) := ⟨gr_runs f fn, runs_len f fn, hf1, by omega⟩
          clear h40 h60 hbig hrange hf1 hf2 hl hil hfe hq
          obtain ⟨y0, y1, y2, y3⟩ := HB0.out.cells
          go_enter Tryd.func3, Tryd.ntmps3
          go_wp2_with fail
          refine (HNEW.out _ HB0.out).mono ?_
          rintro e w2 (⟨hk, g, A, c, rfl, hit, hnil, hlc, hb2⟩ | ⟨hk, x, rfl, hx, hb2⟩)
          · have HB2 := Lib.hid (HB0.out.keep hb2)
            have HIT2 := Lib.hid hit
            have HNC := Lib.hid (And.intro hnil hlc)
            have HK := Lib.hid hk
            clear hit hnil hlc hb2 hk HNEW HB0 y0 y1 y2 y3
            obtain ⟨y0, y1, y2, y3⟩ := HB2.out.cells
            go_wp2_with fail
            refine (HRC.out _ HB2.out).mono ?_
            rintro e w3 ⟨rfl, hb3⟩
            have HB3 := Lib.hid (HB2.out.keep hb3)
            have HIT3 := Lib.hid (HIT2.out.kept hb3)
            obtain rfl : kk = 0 := HK.out
            clear hb3 HB2 HIT2 HRC y0 y1 y2 y3
            obtain ⟨y0, y1, y2, y3⟩ := HB3.out.cells
            have hz0 : ((0 : Nat) : Int) = 0 := rfl
            go_wp2_with fail
            have HIT4 := Lib.hid (HIT3.out.drewN 1)
            have HB4 := Lib.hid (HB3.out.drewN 1)
            have HIDA := Lib.hid (id_any g id (fn : Int) A c _ _ HIT4.out)
            have HFRA := Lib.hid (frame_any g id (fn : Int) A c _ _ HIT4.out)
            go_region_held3 (fun wx => wx.cell? ⟨w.heap.size, 0, none⟩ = some (.int .i64 id) ∧ wx.cell? ⟨w.heap.size, 1, none⟩ = some (.int .i64 (fn : Int)))
              (first | (refine ⟨?_, ?_⟩ <;> assumption) | exact ⟨y0, y1⟩ | (go_keep; done))
              (first
                | (go_at_call 9; refine HIDA.out.mono ?_; rintro e wz ⟨rfl, rfl⟩)
                | (go_at_call 10; refine HFRA.out.mono ?_; rintro e wz ⟨rfl, rfl⟩))
            have HWORD := Lib.hid (HRWD.out (HNUM.out (HCH.out (by first | trivial | rfl))) (w3.drewN 1) HB4.out.below)
            obtain ⟨W4, hW4⟩ : ∃ X, w3.drewN 1 = X := ⟨_, rfl⟩
            rw [hW4] at HIT4 HB4 HWORD
            rw [hW4]
            clear hW4 HIT3 HB3 HIDA HFRA HRWD HNUM HCH y0 y1 y2 y3
            obtain ⟨y0, y1, y2, y3⟩ := HB4.out.cells
            obtain ⟨ws, hws⟩ : ∃ ws, ticksL f 0 fn = ws := ⟨_, rfl⟩
            have hwl : ws.length = fn := by rw [← hws, ticks_len]
            have hwf : ∀ j : Nat, j < fn → ws[j]? = some (f (j : Int)) := fun j hj => by
              rw [← hws]
              unfold ticksL
              rw [List.getElem?_map, List.getElem?_range hj]
              simp
            rw [hws] at HWORD
            have HWL := Lib.hid (And.intro hwl hwf)
            clear hws hwl hwf
            go_wp2_with fail
            refine HWORD.out.mono ?_
            rintro e w5 ⟨VB, vc, rfl, ho5, hb5⟩
            have HIT5 := Lib.hid (HIT4.out.kept hb5)
            have HB5 := Lib.hid (HB4.out.keep hb5)
            have HO5 := Lib.hid ho5
            have HRR := Lib.hid (rruns_any ws f VB fn vc _ w5 ho5 HWL.out.2 HWL.out.1 (by have := HFN.out; omega))
            clear ho5 hb5 HIT4 HB4 HWORD y0 y1 y2 y3
            go_wp2_with fail
            refine HRR.out.mono ?_
            rintro e w6 ⟨V2, rfl, ho6, hb6⟩
            have HIT6 := Lib.hid (HIT5.out.kept hb6)
            have HB6 := Lib.hid (HB5.out.keep hb6)
            have HO6 := Lib.hid (owns_kept HO5.out hb6)
            have HQ6 := Lib.hid ho6
            obtain ⟨A2, c2, hV2⟩ := own_form ho6
            subst hV2
            have hml : (runsD f fn).length ≤ 1048576 := by have := HRU.out.len; have := HFN.out; omega
            have HRN := Lib.hid (truns_any g id (fn : Int) A c _ w6 HIT6.out HNC.out.1 HNC.out.2 (by omega))
            clear ho6 hb6 HIT5 HB5 HO5 HRR
            go_wp2_with fail
            refine HRN.out.mono ?_
            rintro e w7 ⟨V1, rfl, ho7, hb7⟩
            have HIT7 := Lib.hid (HIT6.out.kept hb7)
            have HB7 := Lib.hid (HB6.out.keep hb7)
            have HO7 := Lib.hid (owns_kept HO6.out hb7)
            have HQ7 := Lib.hid (owns_kept HQ6.out hb7)
            have HG7 := Lib.hid ho7
            obtain ⟨m, hm⟩ : ∃ m, (runsD f fn).length = m + 1 := by
              refine ⟨(runsD f fn).length - 1, ?_⟩
              rcases Nat.eq_zero_or_pos (runsD f fn).length with h0 | h0
              · have e0 := List.eq_nil_of_length_eq_zero h0
                have hs := HRU.out.gr.sum
                rw [e0] at hs
                have := HFN.out
                simp [sumA] at hs
                omega
              · omega
            have HMM := Lib.hid hm
            obtain ⟨n1, hn1⟩ : ∃ k, m + 1 = k := ⟨_, rfl⟩
            have hm2 : (runsD f fn).length = n1 := by rw [hm, hn1]
            have ho7' := ho7
            rw [hm] at ho7'
            obtain ⟨G1, c1, hV1⟩ := ownsRow_succ ho7'
            rw [hn1] at hV1
            have hq7' := HQ7.out
            rw [hm] at hq7'
            obtain ⟨G2, c2', hV2⟩ := ownsRow_succ hq7'
            have hA2 : A2 = some ⟨G2, 0, none⟩ := by cases hV2; rfl
            subst hA2
            subst hV1
            have HC1 : Hid (∀ (k : Nat) (x : A3), (runsD f fn)[k]? = some x → w7.cell? ⟨G1, k * 3, none⟩ = some (.int .i64 x.s) ∧ w7.cell? ⟨G1, k * 3 + 1, none⟩ = some (.int .i64 x.p) ∧ w7.cell? ⟨G1, k * 3 + 2, none⟩ = some (.int .i64 x.a)) := fun k x hx => by
              have hk := (List.getElem?_eq_some_iff.1 hx).1
              have h := ho7
              rw [hm2] at h
              exact ⟨(h.cellAt (k * 3) (by omega)).trans (flatA_get _ k x 0 hx (by omega)), (h.cellAt (k * 3 + 1) (by omega)).trans (flatA_get _ k x 1 hx (by omega)), (h.cellAt (k * 3 + 2) (by omega)).trans (flatA_get _ k x 2 hx (by omega))⟩
            have HC2 : Hid (∀ (k : Nat) (x : A3), (runsD f fn)[k]? = some x → w7.cell? ⟨G2, k * 3, none⟩ = some (.int .i64 x.s) ∧ w7.cell? ⟨G2, k * 3 + 1, none⟩ = some (.int .i64 x.p) ∧ w7.cell? ⟨G2, k * 3 + 2, none⟩ = some (.int .i64 x.a)) := fun k x hx => by
              have hk := (List.getElem?_eq_some_iff.1 hx).1
              have h := hq7'
              exact ⟨(h.cellAt (k * 3) (by omega)).trans (flatA_get _ k x 0 hx (by omega)), (h.cellAt (k * 3 + 1) (by omega)).trans (flatA_get _ k x 1 hx (by omega)), (h.cellAt (k * 3 + 2) (by omega)).trans (flatA_get _ k x 2 hx (by omega))⟩
            rw [hm2]
            have HM2 := Lib.hid hm2
            have HN1 : Hid (n1 ≤ 1048576) := by show _ ≤ _; omega
            clear ho7 ho7' hq7' hV2 hb7 hm hn1 hm2 hml HIT6 HB6 HO6 HQ6 HRN HQ7 HG7
            go_wp2_with fail
            go_loopw [116] (fun i wr => ∃ k q : Nat, k ≤ n1 ∧ i = .int .i64 (k : Int) ∧ wr = w7.drewN q) (fun i _ => n1 - (intOf i).toNat)
            case atStart => exact ⟨0, 0, Nat.zero_le _, rfl, rfl⟩
            case round =>
              obtain ⟨k, q, hk, rfl, hwr⟩ := hrel
              have HWR := Lib.hid hwr
              have hnn := HN1.out
              by_cases hlt : k < n1
              · obtain ⟨x, hx⟩ : ∃ x, (runsD f fn)[k]? = some x := ⟨_, List.getElem?_eq_getElem (by rw [HM2.out]; exact hlt)⟩
                obtain ⟨a0, a1', a2'⟩ := HC1.out k x hx
                obtain ⟨b0, b1, b2⟩ := HC2.out k x hx
                have d0 : wr.cell? ⟨G1, k * 3, none⟩ = some (.int .i64 x.s) := by rw [hwr]; exact a0
                have d1 : wr.cell? ⟨G1, k * 3 + 1, none⟩ = some (.int .i64 x.p) := by rw [hwr]; exact a1'
                have d2 : wr.cell? ⟨G1, k * 3 + 2, none⟩ = some (.int .i64 x.a) := by rw [hwr]; exact a2'
                have e0 : wr.cell? ⟨G2, k * 3, none⟩ = some (.int .i64 x.s) := by rw [hwr]; exact b0
                have e1 : wr.cell? ⟨G2, k * 3 + 1, none⟩ = some (.int .i64 x.p) := by rw [hwr]; exact b1
                have e2 : wr.cell? ⟨G2, k * 3 + 2, none⟩ = some (.int .i64 x.a) := by rw [hwr]; exact b2
                obtain ⟨s1, p1, x1⟩ := x
                dsimp only at d0 d1 d2 e0 e1 e2
                have heq := eq_run s1 p1 x1
                have hki : (0 : Int) ≤ k := by omega
                have hkb : (k : Int) < n1 := by omega
                have hk1 : IntKind.i64.wrap ((k : Int) + 1) = (k : Int) + 1 := IntWalk.i64_in _ (by omega)
                clear hx a0 a1' a2' b0 b1 b2 hwr
                go_wp2
                go_quiet (fail)
                go_wp2
                go_roundw
                case rel => exact ⟨k + 1, q + nq, by omega, by go_num, by rw [HWR.out, World.drewN_drewN]⟩
                case measure => simp [intOf]; omega
              · obtain rfl : k = n1 := by omega
                have HIT8 := Lib.hid (HIT7.out.drewN q)
                have HB8 := Lib.hid (HB7.out.drewN q)
                have HO8 : Hid ((w7.drewN q).ownsRow _ 3 1 (.slice (some ⟨VB, 0, none⟩) fn vc) fn (ws.map (Value.int .i64))) := owns_kept HO7.out ⟨rfl, rfl, rfl, Nat.le_refl _, fun _ _ => rfl⟩
                rw [← hwr] at HIT8 HB8 HO8
                clear hwr HWR HIT7 HB7 HO7 HC1 HC2
                obtain ⟨y0, y1, y2, y3⟩ := HB8.out.cells
                have HTO := Lib.hid (fun (W : World) (h : IsT W g id (fn : Int) A c (runsD f fn)) => towner_any g id a2 fn A c f (runsD f fn) W h HRU.out)
                have HTN := Lib.hid (fun (W : World) (h : IsT W g id (fn : Int) A c (runsD f fn)) => tnext_any g id a2 fn A c f (runsD f fn) W h HRU.out)
                clear hnn hlt hk
                by_cases ht : 0 ≤ a2 ∧ a2 < (fn : Int)
                · obtain ⟨kx, x, hx, h1, h2, h3, h4⟩ := run_at HRU.out.gr ht.1 ht.2
                  have ha : AtRun (runsD f fn) a2 kx x := ⟨hx, h1, h2, h3, h4⟩
                  have HHA := Lib.hid ha
                  have HHT := Lib.hid ht
                  obtain ⟨tn, rfl⟩ : ∃ m : Nat, a2 = (m : Int) := ⟨a2.toNat, by omega⟩
                  have htl : tn < fn := by omega
                  have HRX := Lib.hid (fun (W : World) (B0 : Nat) (h : W.ownsRow B0 3 1 (.slice (some ⟨VB, 0, none⟩) fn vc) fn (ws.map (Value.int .i64))) => rnext_any ws f VB fn vc B0 (tn : Int) (runsD f fn) kx x W h HWL.out.2 (by have := HFN.out; omega) HRU.out.gr HHA.out HHT.out)
                  have hcw : wr.cell? ⟨VB, tn, none⟩ = some (.int .i64 (f (tn : Int))) := by
                    have hc := HO8.out.cellAt tn (by omega)
                    rw [List.getElem?_map, HWL.out.2 tn htl] at hc
                    exact hc
                  obtain ⟨fv, hfv⟩ : ∃ v, f (tn : Int) = v := ⟨_, rfl⟩
                  rw [if_pos ht, hfv] at HTO
                  rw [hfv] at hcw
                  obtain ⟨xv, hxv⟩ : ∃ v, x.p + x.a = v := ⟨_, rfl⟩
                  rw [hxv] at HRX
                  have HXV := Lib.hid hxv
                  have u0 : decide ((0 : Int) ≤ (tn : Int)) = true := decide_eq_true ht.1
                  have u1 : decide ((tn : Int) < (fn : Int)) = true := decide_eq_true ht.2
                  have u2 : (0 : Int) ≤ tn := ht.1
                  have u3 : (tn : Int) < fn := ht.2
                  have HB9 := Lib.hid (HB8.out.drewN 1)
                  have HIT9 := Lib.hid (HIT8.out.drewN 1)
                  have HO9 : Hid ((wr.drewN 1).ownsRow _ 3 1 (.slice (some ⟨VB, 0, none⟩) fn vc) fn (ws.map (Value.int .i64))) := owns_kept HO8.out ⟨rfl, rfl, rfl, Nat.le_refl _, fun _ _ => rfl⟩
                  clear hx h1 h2 h3 h4 ha ht hfv hxv htl HB8 HIT8 HO8
                  go_wp2_with fail
                  go_region_held3 (fun wx => wx.cell? ⟨VB, tn, none⟩ = some (.int .i64 fv))
                    (first | assumption | exact HKP.out | (go_keep; done))
                    (first
                      | (go_at_call 14; refine (HRX.out _ _ HO9.out).mono ?_; rintro e wa ⟨rfl, hba⟩; have HBA := Lib.hid (HB9.out.keep hba); have HITA := Lib.hid (HIT9.out.kept hba); have HKP : Hid (wa.cell? ⟨VB, tn, none⟩ = some (.int .i64 fv)) := (hba.cell (p := ⟨VB, tn, none⟩) (HO9.out.lt VB rfl).2).trans hcw; clear hba))
                  all_goals
                    go_wp2_with fail
                    refine (HTO.out _ HITA.out).mono ?_
                    rintro e wb ⟨rfl, hbb⟩
                    have HBB := Lib.hid (HBA.out.keep hbb)
                    have HITB := Lib.hid (HITA.out.kept hbb)
                    clear hbb HBA HITA HTO
                    go_wp2_with fail
                    refine (HTN.out _ HITB.out).mono ?_
                    rintro e wc ⟨v, rfl, _, hv2, hbc⟩
                    have hvx : v = xv := by
                      obtain ⟨k', x', ha', hv⟩ := hv2 HHT.out
                      have hA := HHA.out
                      have hkk : kx = k' := by
                        rcases Nat.lt_trichotomy kx k' with h | h | h
                        · have h5 := ha'.below kx x h hA.get
                          have h6 := hA.hi
                          omega
                        · exact h
                        · have h5 := hA.below k' x' h ha'.get
                          have h6 := ha'.hi
                          omega
                      subst hkk
                      have hxx := hA.get
                      rw [ha'.get] at hxx
                      obtain rfl := Option.some.inj hxx
                      rw [hv, HXV.out]
                    subst hvx
                    have HBC := Lib.hid (HBB.out.keep hbc)
                    clear hv2 hbc HBB HITB HTN
                    go_wp2_with (go_at_call 5; refine (awake17 _ HBC.out.names).mono ?_; rintro e w' ⟨rfl, hb⟩; have HBF := Lib.hid (HBC.out.below.trans (hb.mono HBC.out.below.size)); clear hb)
                    go_ret
                    exact ⟨rfl, HBF.out⟩
                · rw [if_neg ht] at HTO
                  have HHT : Hid (¬ (0 ≤ a2 ∧ a2 < (fn : Int))) := ht
                  by_cases h0 : 0 ≤ a2
                  · have u0 : decide ((0 : Int) ≤ a2) = true := decide_eq_true h0
                    have u1 : decide (a2 < (fn : Int)) = false := decide_eq_false (fun h => ht ⟨h0, h⟩)
                    clear ht h0
                    go_wp2_with fail
                    refine (HTO.out _ HIT8.out).mono ?_
                    rintro e wb ⟨rfl, hbb⟩
                    have HBB := Lib.hid (HB8.out.keep hbb)
                    have HITB := Lib.hid (HIT8.out.kept hbb)
                    clear hbb HB8 HIT8 HO8 HTO
                    go_wp2_with fail
                    refine (HTN.out _ HITB.out).mono ?_
                    rintro e wc ⟨v, rfl, hv1, _, hbc⟩
                    obtain rfl := hv1 HHT.out
                    have HBC := Lib.hid (HBB.out.keep hbc)
                    clear hbc HBB HITB HTN
                    go_wp2_with (go_at_call 5; refine (awake17 _ HBC.out.names).mono ?_; rintro e w' ⟨rfl, hb⟩; have HBF := Lib.hid (HBC.out.below.trans (hb.mono HBC.out.below.size)); clear hb)
                    go_ret
                    exact ⟨rfl, HBF.out⟩
                  · have u0 : decide ((0 : Int) ≤ a2) = false := decide_eq_false h0
                    clear ht h0
                    go_wp2_with fail
                    refine (HTO.out _ HIT8.out).mono ?_
                    rintro e wb ⟨rfl, hbb⟩
                    have HBB := Lib.hid (HB8.out.keep hbb)
                    have HITB := Lib.hid (HIT8.out.kept hbb)
                    clear hbb HB8 HIT8 HO8 HTO
                    go_wp2_with fail
                    refine (HTN.out _ HITB.out).mono ?_
                    rintro e wc ⟨v, rfl, hv1, _, hbc⟩
                    obtain rfl := hv1 HHT.out
                    have HBC := Lib.hid (HBB.out.keep hbc)
                    clear hbc HBB HITB HTN
                    go_wp2_with (go_at_call 5; refine (awake17 _ HBC.out.names).mono ?_; rintro e w' ⟨rfl, hb⟩; have HBF := Lib.hid (HBC.out.below.trans (hb.mono HBC.out.below.size)); clear hb)
                    go_ret
                    exact ⟨rfl, HBF.out⟩
          · have HB2 := Lib.hid (HB0.out.keep hb2)
            have HX2 := Lib.hid hx
            have HK : Hid (kk ≠ 0) := hk
            clear hx hb2 hk HNEW HB0 y0 y1 y2 y3
            obtain ⟨y0, y1, y2, y3⟩ := HB2.out.cells
            go_wp2_with fail
            refine (HRC.out _ HB2.out).mono ?_
            rintro e w3 ⟨rfl, hb3⟩
            have HB3 := Lib.hid (HB2.out.keep hb3)
            have HX3 := Lib.hid (HX2.out.kept hb3)
            have tk : ((kk : Int) != 0) = true := by have := HK.out; simp; omega
            have hef : ∀ wx : World, (Op.equalIn 10000 35 (.agg #[.int .i64 kk, .int .i64 0, .int .i64 aa]) (.agg #[.int .i64 kk, .int .i64 0, .int .i64 aa])).run Tryd.prog wx = .ok true wx := eq_flt kk 0 aa
            clear hb3 HB2 HX2 HRC y0 y1 y2 y3
            go_wp2_with (first
              | (go_at_call 7; refine (of_wrongA _ HX3.out).mono ?_; rintro e w5 ⟨rfl, hb5⟩; (try simp only [fltV]); have HB5 := Lib.hid (HB3.out.keep hb5); clear hb5)
              | (go_at_call 5; refine (awake17 _ HB5.out.names).mono ?_; rintro e w' ⟨rfl, hb⟩; have HBF := Lib.hid (HB5.out.below.trans (hb.mono HB5.out.below.size)); clear hb))
            go_ret
            exact ⟨rfl, HBF.out⟩

end Go.Proofs.YtgdnjlpoeijejaaDoor.tableNews
