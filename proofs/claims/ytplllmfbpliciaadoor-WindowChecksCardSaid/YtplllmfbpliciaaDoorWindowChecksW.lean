
/- The function WindowChecks returns true for every schedule and every slice of ids. Condition: the package-level variables hold what the program lays in them (the card ties that). This text: the walk through the Go text; the row is in the text without the W at its name's end. -/

import Derived.Test.YtplllmfbpliciaaDoorArgs

import Derived.Test.YtplllmfbpliciaaDoorWinE

import Derived.Test.YtplllmfbpliciaaDoorWinF

import Derived.Deep.RegionHeld3

namespace Go.Proofs.YtplllmfbpliciaaDoor.windowChecks

open Go.RowKit Go.PlainAid Go.Proofs.YtplllmfbpliciaaDoor.Args

set_option linter.unusedVariables false

open Go.Proofs.YtplllmfbpliciaaDoor.Flt Go.Proofs.YtplllmfbpliciaaDoor.Rdr Go.Proofs.YtplllmfbpliciaaDoor.Oct Go.Proofs.YtplllmfbpliciaaDoor.Win

open Go.Proofs.YtplllmfbpliciaaDoor.Act (A3 ActsAt I64 Wide acts_of)

set_option linter.unusedSimpArgs false

/-- A schedule that came in by value: its windows. -/
theorem sched_in {w : World} {a : Array Value} (h : IsAgg w [.one (.int .i64), .one (.int .i64), .recs [.int .i64, .int .i64, .int .i64], .recs [.int .i64, .int .i64, .int .i64]] a) :
    ∃ (id fr : Int) (B : Option Addr) (l : List A3) (cb : Nat) (C : Option Addr) (nn cc : Nat), a = #[.int .i64 id, .int .i64 fr, .slice B l.length cb, .slice C nn cc] ∧ ActsAt w B l ∧ (∀ x ∈ l, Wide x) ∧ I64 fr := by
  obtain ⟨hs, hf⟩ := h
  obtain ⟨v0, e0, id, rfl, w0⟩ := hf 0 _ rfl
  obtain ⟨v1, e1, fr, rfl, w1⟩ := hf 1 _ rfl
  obtain ⟨v2, e2, B, bl, bc, rfl, w2⟩ := hf 2 _ rfl
  obtain ⟨v3, e3, C, cl, cc, rfl, w3⟩ := hf 3 _ rfl
  obtain ⟨ws, hw1, hw2, hw3, hw4, hw5⟩ := acts_of w2
  refine ⟨id, fr, B, ws, bc, C, cl, cc, ?_, hw2, hw3, bounds_i64 w1⟩
  have hs4 : a.size = 4 := hs
  apply Array.ext_getElem?
  intro i
  rcases (show i = 0 ∨ i = 1 ∨ i = 2 ∨ i = 3 ∨ 4 ≤ i by omega) with rfl | rfl | rfl | rfl | h
  · exact e0
  · exact e1
  · rw [e2, ← hw1]; rfl
  · exact e3
  · rw [Array.getElem?_eq_none (by omega), Array.getElem?_eq_none (by simp; omega)]
theorem ints_in {w : World} {a : Option Addr} {len cap : Nat} {z : List Int} (h : IsRow .i64 w a len cap z) : (z.take len).length = len ∧ IntsBelow w.heap.size w (.slice a len cap) (z.take len) := by
  rcases h with ⟨rfl, rfl, rfl, rfl⟩ | ⟨y, rfl, h1, h2, h3, h4, _⟩
  · exact ⟨rfl, .inl ⟨rfl, rfl⟩⟩
  · have hl : (z.take len).length = len := by rw [List.length_take]; omega
    refine ⟨hl, ?_⟩
    refine .inr ⟨y, cap, by rw [hl], fun h0 => ?_, fun j hj => ?_⟩
    · have := Go.block_lt_of_cell (h4 0 (by rw [hl] at h0; omega))
      rw [add_block] at this
      exact this
    · rw [hl] at hj
      rw [h4 j (by omega)]
      simp [List.getD, List.getElem?_take_of_lt hj]
/-- What stands behind the document's Check and the program's. -/
structure PW (F : Nat) (fv : Array Value) (x : Value) (k : Nat) (a : Int) (w W : World) : Prop where
  flt : W.heap[F]? = some (.cells fv 35 (0, 0))
  wr : WrongA W x k a
  names : Names W
  below : Below w.heap.size w W
theorem PW.keep {F : Nat} {fv : Array Value} {x : Value} {k : Nat} {a : Int} {w W W' : World} (f : PW F fv x k a w W) (b : Below W.heap.size W W') : PW F fv x k a w W' :=
  ⟨(b.block _ (lt_of_block f.flt)).trans f.flt, f.wr.kept b, f.names.kept b, f.below.trans (b.mono f.below.size)⟩
theorem PW.drew {F : Nat} {fv : Array Value} {x : Value} {k : Nat} {a : Int} {w W : World} (f : PW F fv x k a w W) : PW F fv x k a w W.drew := f.keep ⟨rfl, rfl, rfl, Nat.le_refl _, fun _ _ => rfl⟩
theorem PW.cells {F : Nat} {k : Nat} {a : Int} {x : Value} {w W : World} (f : PW F #[.int .i64 k, .int .i64 0, .int .i64 a] x k a w W) : W.cell? ⟨F, 0, none⟩ = some (.int .i64 k) ∧ W.cell? ⟨F, 1, none⟩ = some (.int .i64 0) ∧ W.cell? ⟨F, 2, none⟩ = some (.int .i64 a) := by
  refine ⟨?_, ?_, ?_⟩
  all_goals (rw [cell_of_row W _ _ _ _ _ f.flt]; rfl)
theorem wrongA_form {w : World} {x : Value} {k : Nat} {a : Int} (h : WrongA w x k a) (hk : k ≠ 0) : ∃ u y, x = .iface u y := by
  rcases h with ⟨h, _⟩ | ⟨_, _, g, y, rfl, _⟩
  · exact absurd h hk
  · exact ⟨_, _, rfl⟩
theorem size_flt : (Tryd.prog.info? 35).map (·.size) = some 3 := by kernel_rfl
theorem one_flt3 (k : Nat) (a : Int) : (#[.int .i64 k, .int .i64 0, .int .i64 a] : Array Value).all (·.oneCell') = true := by simp [Value.oneCell']
set_option maxRecDepth 8000 in
set_option maxHeartbeats 3200000 in
theorem walk (a0 : Array Value) (a1 : Option Addr) (len1 cap1 : Nat) (z1 : List Int) (w : World) (w0 : IsAgg w [.one (.int .i64), .one (.int .i64), .recs [.int .i64, .int .i64, .int .i64], .recs [.int .i64, .int .i64, .int .i64]] a0) (w1 : IsRow .i64 w a1 len1 cap1 z1) (hn : Go.Proofs.YtplllmfbpliciaaDoor.Flt.Names w) :
    Calls Tryd.prog 3 #[.agg a0, .slice a1 len1 cap1] w fun e w' => e = .returned (.bool true) ∧ Below w.heap.size w w' := by
  obtain ⟨id, fr, P, l, pc, C, nn, cc, rfl, hacts, hwide, hfr⟩ := sched_in w0
  obtain ⟨hzl, hints⟩ := ints_in w1
  obtain ⟨ids, hids⟩ : ∃ ids, z1.take len1 = ids := ⟨_, rfl⟩
  rw [hids] at hzl hints
  have HN := Lib.hid hn
  have hb0 : Below w.heap.size w (w.alloc (.cells #[.int .i64 id, .int .i64 fr, .slice P l.length pc, .slice C nn cc] 25)) := (Below.refl _ _).alloc (Nat.le_refl _) _
  have HB0 := Lib.hid hb0
  by_cases hbig : 300 < l.length ∨ 60 < len1
  · obtain ⟨n, hln⟩ : ∃ n, l.length = n := ⟨_, rfl⟩
    rw [hln] at hbig HB0
    rw [hln]
    clear w0 w1 hacts hwide hfr hints hn hb0 hzl hids hln
    by_cases h1 : 300 < n
    · have t1 : decide ((300 : Int) < (n : Int)) = true := decide_eq_true (by omega)
      clear h1 hbig
      go_enter Tryd.func3, Tryd.ntmps3
      go_wp2_with (go_at_call 5; refine (awake13 _ (HN.out.kept HB0.out)).mono ?_; rintro e w' ⟨rfl, hb⟩; have HB2 := Lib.hid (HB0.out.trans (hb.mono HB0.out.size)); clear hb)
      go_ret
      exact ⟨rfl, HB2.out⟩
    · have t1 : decide ((300 : Int) < (n : Int)) = false := decide_eq_false (by omega)
      have t2 : decide ((60 : Int) < (len1 : Int)) = true := decide_eq_true (by omega)
      clear h1 hbig
      go_enter Tryd.func3, Tryd.ntmps3
      go_wp2_with (go_at_call 5; refine (awake13 _ (HN.out.kept HB0.out)).mono ?_; rintro e w' ⟨rfl, hb⟩; have HB2 := Lib.hid (HB0.out.trans (hb.mono HB0.out.size)); clear hb)
      go_ret
      exact ⟨rfl, HB2.out⟩
  · have t1 : decide ((300 : Int) < (l.length : Int)) = false := decide_eq_false (by omega)
    have t2 : decide ((60 : Int) < (len1 : Int)) = false := decide_eq_false (by omega)
    have hl : l.length ≤ 1000 := by omega
    have hil : ids.length ≤ 1099511627776 := by omega
    have HRC : Hid (∀ W, Below w.heap.size w W → _) := fun W b => rcheck_any id fr P pc l C nn cc a1 len1 cap1 ids W ((hints.below b).mono b.size) (hacts.kept b) hwide hfr hl hil
    have HCK : Hid (∀ W, Below w.heap.size w W → _) := fun W b => check_any id fr P pc l C nn cc a1 len1 cap1 ids W (hn.kept b) ((hints.below b).mono b.size) (hacts.kept b) hwide hfr hl hil
    obtain ⟨q, hq⟩ : ∃ q, chkW ids fr ⟨0, 0, 0⟩ 0 l = q := ⟨_, rfl⟩
    rw [hq] at HRC HCK
    obtain ⟨k, a⟩ := q
    dsimp only at HRC HCK
    obtain ⟨n, hln⟩ : ∃ n, l.length = n := ⟨_, rfl⟩
    rw [hln] at t1 HRC HCK HB0
    rw [hln]
    have HBX := Lib.hid (heap_alloc_new w (.cells #[.int .i64 id, .int .i64 fr, .slice P n pc, .slice C nn cc] 25))
    clear w0 w1 hacts hwide hfr hints hn hb0 hzl hids hln hbig hl hil hq
    go_enter Tryd.func3, Tryd.ntmps3
    go_wp2_with fail
    refine (HRC.out _ HB0.out).mono ?_
    rintro e w2 ⟨rfl, hb2⟩
    have HB2 := Lib.hid (HB0.out.trans (hb2.mono HB0.out.size))
    have hbx := (hb2.block _ (lt_of_block HBX.out)).trans HBX.out
    have y0 := cell_of_row _ _ 0 _ _ _ hbx
    have y1 := cell_of_row _ _ 1 _ _ _ hbx
    have y2 := cell_of_row _ _ 2 _ _ _ hbx
    have y3 := cell_of_row _ _ 3 _ _ _ hbx
    simp only [List.getElem?_toArray, List.getElem?_cons_zero, List.getElem?_cons_succ] at y0 y1 y2 y3
    clear hb2 hbx HBX HRC HB0
    go_wp2_with fail
    refine (HCK.out _ HB2.out).mono ?_
    rintro e w3 ⟨x, rfl, hx, hb3⟩
    have HX := Lib.hid hx
    have HB3 := Lib.hid (HB2.out.trans (hb3.mono HB2.out.size))
    clear hx hb3 y0 y1 y2 y3 HCK HB2
    have hb4 : Below w3.heap.size w3 (w3.alloc (.cells #[.int .i64 0, .int .i64 0, .int .i64 0] 35)) := (Below.refl _ _).alloc (Nat.le_refl _) _
    have HB4 := Lib.hid (HB3.out.trans (hb4.mono HB3.out.size))
    have HX4 := Lib.hid (HX.out.kept hb4)
    have HF4 := Lib.hid (heap_alloc_new w3 (.cells #[.int .i64 0, .int .i64 0, .int .i64 0] 35))
    clear hb4 HX
    by_cases hk : k = 0
    · subst hk
      have hx0 : a = 0 ∧ x = .nilIface := by
        rcases HX4.out with ⟨_, h1, h2⟩ | ⟨h1, _⟩
        · exact ⟨h1, h2⟩
        · omega
      obtain ⟨rfl, rfl⟩ := hx0
      have HP : Hid (PW w3.heap.size #[.int .i64 (0 : Nat), .int .i64 0, .int .i64 0] .nilIface 0 0 w (w3.alloc (.cells #[.int .i64 0, .int .i64 0, .int .i64 0] 35))) := ⟨HF4.out, HX4.out, HN.out.kept HB4.out, HB4.out⟩
      clear HX4 HF4 HB4 HB3
      have hz0 : ((0 : Nat) : Int) = 0 := rfl
      go_wp2_with fail
      obtain ⟨F, hF⟩ : ∃ F, w3.heap.size = F := ⟨_, rfl⟩
      obtain ⟨W, hW⟩ : ∃ W, w3.alloc (.cells #[.int .i64 0, .int .i64 0, .int .i64 0] 35) = W := ⟨_, rfl⟩
      rw [hW, hF] at HP
      rw [hW, hF]
      clear hF hW
      have HPD := Lib.hid HP.out.drew
      have HC0 := Lib.hid HP.out.cells
      obtain ⟨d0, d1, d2⟩ := HC0.out
      have hef : ∀ wx : World, (Op.equalIn 10000 35 (.agg #[.int .i64 ((0 : Nat) : Int), .int .i64 0, .int .i64 0]) (.agg #[.int .i64 ((0 : Nat) : Int), .int .i64 0, .int .i64 0])).run Tryd.prog wx = .ok true wx := eq_flt ((0 : Nat) : Int) 0 0
      go_region_held3 (fun wx => wx.cell? ⟨F, 0, none⟩ = some (.int .i64 ((0 : Nat) : Int)) ∧ wx.cell? ⟨F, 1, none⟩ = some (.int .i64 0) ∧ wx.cell? ⟨F, 2, none⟩ = some (.int .i64 0)) (first | (go_keep; done) | exact HC0.out | exact HKP.out | (refine ⟨?_, ?_, ?_⟩ <;> assumption))
        (first
          | (go_at_call 8; refine (of_wrongA _ HPD.out.wr).mono ?_; rintro e w5 ⟨rfl, hb5⟩; (try simp only [fltV, Int.natCast_zero]); have HP7 := Lib.hid (HPD.out.keep hb5); have HKP := Lib.hid HP7.out.cells; clear hb5)
          | (go_at_call 5; refine (awake13 _ HP7.out.names).mono ?_; rintro e w9 ⟨rfl, hb9⟩; have HP9 := Lib.hid (HP7.out.keep hb9); have HKP := Lib.hid HP9.out.cells; clear hb9)
          | fail)
      go_wp2
      go_ret
      exact ⟨rfl, HP9.out.below⟩
    · obtain ⟨u, y, rfl⟩ := wrongA_form HX4.out hk
      have tk : ((k : Int) != 0) = true := by simp; omega
      have tk2 : ((k : Int) == 0) = false := by simp; omega
      have HSF := Lib.hid size_flt
      have hset : Below w.heap.size w ((w3.alloc (.cells #[.int .i64 0, .int .i64 0, .int .i64 0] 35)).setRow w3.heap.size #[.int .i64 k, .int .i64 0, .int .i64 a]) := by
        have j := just_set (w3.alloc (.cells #[.int .i64 0, .int .i64 0, .int .i64 0] 35)) w3.heap.size #[.int .i64 k, .int .i64 0, .int .i64 a]
        exact ⟨HB4.out.os, HB4.out.tape, HB4.out.output, Nat.le_trans HB4.out.size j.size, fun q hq => (j.block q (Nat.lt_of_lt_of_le hq HB4.out.size) (by have := HB3.out.size; omega)).trans (HB4.out.block q hq)⟩
      have HP : Hid (PW w3.heap.size #[.int .i64 k, .int .i64 0, .int .i64 a] (.iface u y) k a w ((w3.alloc (.cells #[.int .i64 0, .int .i64 0, .int .i64 0] 35)).setRow w3.heap.size #[.int .i64 k, .int .i64 0, .int .i64 a])) := by
        refine ⟨setRow_heap _ _ _ _ _ _ HF4.out, ?_, HN.out.kept hset, hset⟩
        rcases HX4.out with ⟨h, _⟩ | ⟨h1, h2, h3⟩
        · exact absurd h hk
        · refine .inr ⟨h1, h2, h3.only fun g cs hg => ?_⟩
          refine setRow_other _ _ _ _ fun e => ?_
          rw [e, HF4.out] at hg
          simp only [Option.some.injEq, Obj.cells.injEq] at hg
          exact absurd hg.2.1 (by decide)
      clear hk hset HX4 HB4 HB3
      go_upto_region 8 with (first
        | ((with_reducible show wpList _ _ _ _ _ _); refine wpList_store_row rfl 35 (.tmp 8) (.tmp 33) rfl w3.heap.size #[.int .i64 k, .int .i64 0, .int .i64 a] rfl rfl 35 #[.int .i64 0, .int .i64 0, .int .i64 0] HF4.out (by rw [HSF.out]; rfl) rfl (one_flt3 k a) ?_))
      obtain ⟨F, hF⟩ : ∃ F, w3.heap.size = F := ⟨_, rfl⟩
      obtain ⟨W, hW⟩ : ∃ W, (w3.alloc (.cells #[.int .i64 0, .int .i64 0, .int .i64 0] 35)).setRow w3.heap.size #[.int .i64 k, .int .i64 0, .int .i64 a] = W := ⟨_, rfl⟩
      rw [hW, hF] at HP
      rw [hW, hF]
      clear hF hW
      have HPD := Lib.hid HP.out.drew
      have HC0 := Lib.hid HP.out.cells
      obtain ⟨d0, d1, d2⟩ := HC0.out
      have hef : ∀ wx : World, (Op.equalIn 10000 35 (.agg #[.int .i64 k, .int .i64 0, .int .i64 a]) (.agg #[.int .i64 k, .int .i64 0, .int .i64 a])).run Tryd.prog wx = .ok true wx := eq_flt k 0 a
      go_region_held3 (fun wx => wx.cell? ⟨F, 0, none⟩ = some (.int .i64 k) ∧ wx.cell? ⟨F, 1, none⟩ = some (.int .i64 0) ∧ wx.cell? ⟨F, 2, none⟩ = some (.int .i64 a)) (first | (go_keep; done) | exact HC0.out | exact HKP.out | (refine ⟨?_, ?_, ?_⟩ <;> assumption))
        (first
          | (go_at_call 8; refine (of_wrongA _ HPD.out.wr).mono ?_; rintro e w5 ⟨rfl, hb5⟩; (try simp only [fltV, Int.natCast_zero]); have HP7 := Lib.hid (HPD.out.keep hb5); have HKP := Lib.hid HP7.out.cells; clear hb5)
          | (go_at_call 5; refine (awake13 _ HP7.out.names).mono ?_; rintro e w9 ⟨rfl, hb9⟩; have HP9 := Lib.hid (HP7.out.keep hb9); have HKP := Lib.hid HP9.out.cells; clear hb9)
          | fail)
      go_wp2
      go_ret
      exact ⟨rfl, HP9.out.below⟩

end Go.Proofs.YtplllmfbpliciaaDoor.windowChecks
