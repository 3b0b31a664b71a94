
/- The function RelationChecks returns true for every slice of pairs, every slice of ids and every two numbers. Condition: the package-level variables hold what the program lays in them (the card ties that). This text: the walk through the Go text; the row is in the text without the W at its name's end. -/

import Derived.Test.YtfomkhhkcohdlaaDoorArgs

import Derived.Test.YtfomkhhkcohdlaaDoorRelK

import Derived.Deep.RegionHeld3

namespace Go.Proofs.YtfomkhhkcohdlaaDoor.relationChecks

open Go.RowKit Go.PlainAid Go.Proofs.YtfomkhhkcohdlaaDoor.Args

set_option linter.unusedVariables false

open Go.Proofs.YtfomkhhkcohdlaaDoor.Flt Go.Proofs.YtfomkhhkcohdlaaDoor.Rdr Go.Proofs.YtfomkhhkcohdlaaDoor.Oct Go.Proofs.YtfomkhhkcohdlaaDoor.Win Go.Proofs.YtfomkhhkcohdlaaDoor.Rel

open Go.Proofs.YtfomkhhkcohdlaaDoor.Pai (P2 PairsAt pairC pairs_of)

set_option linter.unusedSimpArgs false

theorem ints_in {w : World} {a : Option Addr} {len cap : Nat} {z : List Int} (h : IsRow .i64 w a len cap z) : (z.take len).length = len ∧ IntsBelow w.heap.size w (.slice a len cap) (z.take len) := by
  rcases h with ⟨rfl, rfl, rfl, rfl⟩ | ⟨y, rfl, h1, h2, h3, h4, _⟩
  · exact ⟨rfl, .inl ⟨rfl, rfl⟩⟩
  · have hl : (z.take len).length = len := by rw [List.length_take]; omega
    refine ⟨hl, ?_⟩
    refine .inr ⟨y, cap, by rw [hl], fun h0 => ?_, fun j hj => ?_⟩
    · have := Go.block_lt_of_cell (h4 0 (by rw [hl] at h0; omega))
      rw [add_block] at this
      exact this
    · rw [hl] at hj
      rw [h4 j (by omega)]
      simp [List.getD, List.getElem?_take_of_lt hj]
/-- What stands behind the document's Check and the program's. -/
structure PW (F : Nat) (fv : Array Value) (x : Value) (k : Nat) (a : Int) (P : Option Addr) (l : List P2) (w W : World) : Prop where
  flt : W.heap[F]? = some (.cells fv 32 (0, 0))
  wr : WrongA W x k a
  prs : PairsAt W P l
  below : Below w.heap.size w W
theorem PW.keep {F : Nat} {fv : Array Value} {x : Value} {k : Nat} {a : Int} {P : Option Addr} {l : List P2} {w W W' : World} (f : PW F fv x k a P l w W) (b : Below W.heap.size W W') : PW F fv x k a P l w W' :=
  ⟨(b.block _ (lt_of_block f.flt)).trans f.flt, f.wr.kept b, f.prs.kept b, f.below.trans (b.mono f.below.size)⟩
theorem PW.drew {F : Nat} {fv : Array Value} {x : Value} {k : Nat} {a : Int} {P : Option Addr} {l : List P2} {w W : World} (f : PW F fv x k a P l w W) : PW F fv x k a P l w W.drew := f.keep ⟨rfl, rfl, rfl, Nat.le_refl _, fun _ _ => rfl⟩
theorem PW.cells {F : Nat} {k : Nat} {a : Int} {x : Value} {P : Option Addr} {l : List P2} {w W : World} (f : PW F #[.int .i64 k, .int .i64 0, .int .i64 a] x k a P l w W) : W.cell? ⟨F, 0, none⟩ = some (.int .i64 k) ∧ W.cell? ⟨F, 1, none⟩ = some (.int .i64 0) ∧ W.cell? ⟨F, 2, none⟩ = some (.int .i64 a) := by
  refine ⟨?_, ?_, ?_⟩
  all_goals (rw [cell_of_row W _ _ _ _ _ f.flt]; rfl)
theorem wrongA_form {w : World} {x : Value} {k : Nat} {a : Int} (h : WrongA w x k a) (hk : k ≠ 0) : ∃ u y, x = .iface u y := by
  rcases h with ⟨h, _⟩ | ⟨_, _, g, y, rfl, _⟩
  · exact absurd h hk
  · exact ⟨_, _, rfl⟩
theorem size_flt : (Tryd.prog.info? 32).map (·.size) = some 3 := by kernel_rfl
theorem one_flt3 (k : Nat) (a : Int) : (#[.int .i64 k, .int .i64 0, .int .i64 a] : Array Value).all (·.oneCell') = true := by simp [Value.oneCell']
set_option maxRecDepth 8000 in
set_option maxHeartbeats 6400000 in
theorem walk (a0 : Option Addr) (len0 cap0 : Nat) (a1 : Option Addr) (len1 cap1 : Nat) (z1 : List Int) (a2 a3 : Int) (w : World) (w0 : IsRecs w a0 len0 cap0 [.int .i64, .int .i64]) (w1 : IsRow .i64 w a1 len1 cap1 z1) (w2 : (Lit.int .i64 a2).wf = true) (w3 : (Lit.int .i64 a3).wf = true) (hn : Go.Proofs.YtfomkhhkcohdlaaDoor.Flt.Names w) :
    Calls Tryd.prog 3 #[.slice a0 len0 cap0, .slice a1 len1 cap1, .int .i64 a2, .int .i64 a3] w fun e w' => e = .returned (.bool true) ∧ Below w.heap.size w w' := by
  obtain ⟨l, hln, hprs, hwide, _, _⟩ := pairs_of w0
  obtain ⟨hzl, hints⟩ := ints_in w1
  obtain ⟨ids, hids⟩ : ∃ ids, z1.take len1 = ids := ⟨_, rfl⟩
  rw [hids] at hzl hints
  have HN := Lib.hid hn
  by_cases hbig : 40 < len0 ∨ 40 < len1
  · clear w0 w1 w2 w3 hprs hwide hints hn hzl hids hln
    have hcase : decide ((40 : Int) < (len0 : Int)) = true ∨ (decide ((40 : Int) < (len0 : Int)) = false ∧ decide ((40 : Int) < (len1 : Int)) = true) := by
      rcases Nat.lt_or_ge 40 len0 with h | h
      · exact .inl (decide_eq_true (by omega))
      · exact .inr ⟨decide_eq_false (by omega), decide_eq_true (by omega)⟩
    clear hbig
    rcases hcase with t0 | ⟨t0, t1⟩
    all_goals
      go_enter Tryd.func3, Tryd.ntmps3
      go_wp2_with (go_at_call 4; refine (awake15 _).mono ?_; rintro e w' ⟨rfl, hbel⟩)
      go_ret
      exact ⟨rfl, hbel⟩
  · have t1 : decide ((40 : Int) < (len0 : Int)) = false := decide_eq_false (by omega)
    have t2 : decide ((40 : Int) < (len1 : Int)) = false := decide_eq_false (by omega)
    have hl : len0 ≤ 1000 := by omega
    have hl2 : len0 ≤ 1099511627776 := by omega
    have hil : ids.length ≤ 1099511627776 := by omega
    have HRC := Lib.hid (rchk15_any a0 cap0 len0 l a1 len1 cap1 ids w hprs hln hl hints hil)
    have HCK : Hid (∀ W, Below w.heap.size w W → _) := fun W b => rchk_any a0 cap0 len0 l a1 len1 cap1 ids W (hn.kept b) (hprs.kept b) hln hl ((hints.below b).mono b.size) hil
    have HPR := Lib.hid hprs
    have HMY : Hid (∀ W, PairsAt W a0 l → _) := fun W h => may_any a0 cap0 len0 l a2 a3 W h hln hl2
    have HHS : Hid (∀ W, PairsAt W a0 l → _) := fun W h => has10_any a0 cap0 len0 l ⟨a2, a3⟩ W h hln hl2
    obtain ⟨hb, hhb⟩ : ∃ b, hasB l ⟨a2, a3⟩ = b := ⟨_, rfl⟩
    rw [hhb] at HMY HHS
    obtain ⟨q, hq⟩ : ∃ q, badR ids l = q := ⟨_, rfl⟩
    rw [hq] at HRC HCK
    obtain ⟨k, a⟩ := q
    dsimp only at HRC HCK HMY HHS
    clear w0 w1 w2 w3 hprs hwide hints hn hzl hids hln hbig hl hl2 hil hq hhb
    go_enter Tryd.func3, Tryd.ntmps3
    go_wp2_with fail
    refine HRC.out.mono ?_
    rintro e w2 ⟨rfl, hb2⟩
    have HB2 := Lib.hid hb2
    clear hb2 HRC
    go_wp2_with fail
    refine (HCK.out _ HB2.out).mono ?_
    rintro e w3 ⟨x, rfl, hx, hb3⟩
    have HX := Lib.hid hx
    have HB3 := Lib.hid (HB2.out.trans (hb3.mono HB2.out.size))
    clear hx hb3 HCK HB2
    have hb4 : Below w3.heap.size w3 (w3.alloc (.cells #[.int .i64 0, .int .i64 0, .int .i64 0] 32)) := (Below.refl _ _).alloc (Nat.le_refl _) _
    have HB4 := Lib.hid (HB3.out.trans (hb4.mono HB3.out.size))
    have HX4 := Lib.hid (HX.out.kept hb4)
    have HF4 := Lib.hid (heap_alloc_new w3 (.cells #[.int .i64 0, .int .i64 0, .int .i64 0] 32))
    have HBB : Hid ((hb == hb) = true) := by show _ = _; simp
    clear hb4 HX
    by_cases hk : k = 0
    · subst hk
      have hx0 : a = 0 ∧ x = .nilIface := by
        rcases HX4.out with ⟨_, h1, h2⟩ | ⟨h1, _⟩
        · exact ⟨h1, h2⟩
        · omega
      obtain ⟨rfl, rfl⟩ := hx0
      have HP : Hid (PW w3.heap.size #[.int .i64 (0 : Nat), .int .i64 0, .int .i64 0] .nilIface 0 0 a0 l w (w3.alloc (.cells #[.int .i64 0, .int .i64 0, .int .i64 0] 32))) := ⟨HF4.out, HX4.out, HPR.out.kept HB4.out, HB4.out⟩
      clear HX4 HF4 HB4 HB3
      have hz0 : ((0 : Nat) : Int) = 0 := rfl
      go_wp2_with fail
      obtain ⟨F, hF⟩ : ∃ F, w3.heap.size = F := ⟨_, rfl⟩
      obtain ⟨W, hW⟩ : ∃ W, w3.alloc (.cells #[.int .i64 0, .int .i64 0, .int .i64 0] 32) = W := ⟨_, rfl⟩
      rw [hW, hF] at HP
      rw [hW, hF]
      clear hF hW
      have HPD := Lib.hid HP.out.drew
      have HC0 := Lib.hid HP.out.cells
      obtain ⟨d0, d1, d2⟩ := HC0.out
      have hbb := HBB.out
      have hef : ∀ wx : World, (Op.equalIn 10000 32 (.agg #[.int .i64 ((0 : Nat) : Int), .int .i64 0, .int .i64 0]) (.agg #[.int .i64 ((0 : Nat) : Int), .int .i64 0, .int .i64 0])).run Tryd.prog wx = .ok true wx := eq_flt ((0 : Nat) : Int) 0 0
      go_region_held3 (fun wx => wx.cell? ⟨F, 0, none⟩ = some (.int .i64 ((0 : Nat) : Int)) ∧ wx.cell? ⟨F, 1, none⟩ = some (.int .i64 0) ∧ wx.cell? ⟨F, 2, none⟩ = some (.int .i64 0)) (first | (go_keep; done) | exact HC0.out | exact HKP.out | (refine ⟨?_, ?_, ?_⟩ <;> assumption))
        (first
          | (go_at_call 7; refine (of_wrongA _ HPD.out.wr).mono ?_; rintro e w5 ⟨rfl, hb5⟩; (try simp only [fltV, Int.natCast_zero]); have HP5 := Lib.hid (HPD.out.keep hb5); have HKP := Lib.hid HP5.out.cells; clear hb5)
          | (go_at_call 8; refine (HMY.out _ HP5.out.prs).mono ?_; rintro e w6 ⟨rfl, hb6⟩; have HP6 := Lib.hid (HP5.out.keep hb6); have HKP := Lib.hid HP6.out.cells; clear hb6)
          | (go_at_call 9; refine (HHS.out _ HP6.out.prs).mono ?_; rintro e w7 ⟨rfl, hb7⟩; have HP7 := Lib.hid (HP6.out.keep hb7); have HKP := Lib.hid HP7.out.cells; clear hb7)
          | (go_at_call 4; refine (awake15 _).mono ?_; rintro e w9 ⟨rfl, hb9⟩; have HP9 := Lib.hid (HP7.out.keep hb9); have HKP := Lib.hid HP9.out.cells; clear hb9)
          | fail)
      go_wp2
      go_ret
      exact ⟨rfl, HP9.out.below⟩
    · obtain ⟨u, y, rfl⟩ := wrongA_form HX4.out hk
      have tk : ((k : Int) != 0) = true := by simp; omega
      have tk2 : ((k : Int) == 0) = false := by simp; omega
      have HSF := Lib.hid size_flt
      have hset : Below w.heap.size w ((w3.alloc (.cells #[.int .i64 0, .int .i64 0, .int .i64 0] 32)).setRow w3.heap.size #[.int .i64 k, .int .i64 0, .int .i64 a]) := by
        have j := just_set (w3.alloc (.cells #[.int .i64 0, .int .i64 0, .int .i64 0] 32)) w3.heap.size #[.int .i64 k, .int .i64 0, .int .i64 a]
        exact ⟨HB4.out.os, HB4.out.tape, HB4.out.output, Nat.le_trans HB4.out.size j.size, fun q hq => (j.block q (Nat.lt_of_lt_of_le hq HB4.out.size) (by have := HB3.out.size; omega)).trans (HB4.out.block q hq)⟩
      have HP : Hid (PW w3.heap.size #[.int .i64 k, .int .i64 0, .int .i64 a] (.iface u y) k a a0 l w ((w3.alloc (.cells #[.int .i64 0, .int .i64 0, .int .i64 0] 32)).setRow w3.heap.size #[.int .i64 k, .int .i64 0, .int .i64 a])) := by
        refine ⟨setRow_heap _ _ _ _ _ _ HF4.out, ?_, HPR.out.kept hset, hset⟩
        rcases HX4.out with ⟨h, _⟩ | ⟨h1, h2, h3⟩
        · exact absurd h hk
        · refine .inr ⟨h1, h2, h3.only fun g cs hg => ?_⟩
          refine setRow_other _ _ _ _ fun e => ?_
          rw [e, HF4.out] at hg
          simp only [Option.some.injEq, Obj.cells.injEq] at hg
          exact absurd hg.2.1 (by decide)
      clear hk hset HX4 HB4 HB3
      go_upto_region 8 with (first
        | ((with_reducible show wpList _ _ _ _ _ _); refine wpList_store_row rfl 32 (.tmp 12) (.tmp 36) rfl w3.heap.size #[.int .i64 k, .int .i64 0, .int .i64 a] rfl rfl 32 #[.int .i64 0, .int .i64 0, .int .i64 0] HF4.out (by rw [HSF.out]; rfl) rfl (one_flt3 k a) ?_))
      obtain ⟨F, hF⟩ : ∃ F, w3.heap.size = F := ⟨_, rfl⟩
      obtain ⟨W, hW⟩ : ∃ W, (w3.alloc (.cells #[.int .i64 0, .int .i64 0, .int .i64 0] 32)).setRow w3.heap.size #[.int .i64 k, .int .i64 0, .int .i64 a] = W := ⟨_, rfl⟩
      rw [hW, hF] at HP
      rw [hW, hF]
      clear hF hW
      have HPD := Lib.hid HP.out.drew
      have HC0 := Lib.hid HP.out.cells
      obtain ⟨d0, d1, d2⟩ := HC0.out
      have hbb := HBB.out
      have hef : ∀ wx : World, (Op.equalIn 10000 32 (.agg #[.int .i64 k, .int .i64 0, .int .i64 a]) (.agg #[.int .i64 k, .int .i64 0, .int .i64 a])).run Tryd.prog wx = .ok true wx := eq_flt k 0 a
      go_region_held3 (fun wx => wx.cell? ⟨F, 0, none⟩ = some (.int .i64 k) ∧ wx.cell? ⟨F, 1, none⟩ = some (.int .i64 0) ∧ wx.cell? ⟨F, 2, none⟩ = some (.int .i64 a)) (first | (go_keep; done) | exact HC0.out | exact HKP.out | (refine ⟨?_, ?_, ?_⟩ <;> assumption))
        (first
          | (go_at_call 7; refine (of_wrongA _ HPD.out.wr).mono ?_; rintro e w5 ⟨rfl, hb5⟩; (try simp only [fltV, Int.natCast_zero]); have HP5 := Lib.hid (HPD.out.keep hb5); have HKP := Lib.hid HP5.out.cells; clear hb5)
          | (go_at_call 8; refine (HMY.out _ HP5.out.prs).mono ?_; rintro e w6 ⟨rfl, hb6⟩; have HP6 := Lib.hid (HP5.out.keep hb6); have HKP := Lib.hid HP6.out.cells; clear hb6)
          | (go_at_call 9; refine (HHS.out _ HP6.out.prs).mono ?_; rintro e w7 ⟨rfl, hb7⟩; have HP7 := Lib.hid (HP6.out.keep hb7); have HKP := Lib.hid HP7.out.cells; clear hb7)
          | (go_at_call 4; refine (awake15 _).mono ?_; rintro e w9 ⟨rfl, hb9⟩; have HP9 := Lib.hid (HP7.out.keep hb9); have HKP := Lib.hid HP9.out.cells; clear hb9)
          | fail)
      go_wp2
      go_ret
      exact ⟨rfl, HP9.out.below⟩

end Go.Proofs.YtfomkhhkcohdlaaDoor.relationChecks
