
/- What package scheds' Read reads of numbers of ticks, and of counts. Condition: the variables hold what the program lays there; the reader stands within a text of at most 2 to the power 40 bytes. What package scheds reads of one schedule. Condition: the variables hold what the program lays there; the reader stands within a text of at most 2 to the power 40 bytes. What package scheds' Read reads. Condition: the variables hold what the program lays there; the reader stands within a text of at most 2 to the power 40 bytes; as many rounds go well at most. What is put as schedules is read as them. It says nothing of the program. No condition. -/

import Derived.Test.YtbcjkongcnpdlaaDoorScdA

import Derived.Test.YtbcjkongcnpdlaaDoorPrtI

import Derived.Test.YtbcjkongcnpdlaaDoorRdrR

namespace Go.Proofs.YtbcjkongcnpdlaaDoor.Scd

open Go.RowKit Go.PlainAid Go.Proofs.YtbcjkongcnpdlaaDoor.Oct Go.Proofs.YtbcjkongcnpdlaaDoor.Flt Go.Proofs.YtbcjkongcnpdlaaDoor.Rdr Go.Proofs.YtbcjkongcnpdlaaDoor.Act

set_option linter.unusedVariables false

set_option linter.unusedSimpArgs false

def tkS (t : St) (least : Int) : St := needS (tkB (numV t 4) least) (numS t 4) 18 t.p
theorem ok_tk {t : St} (h : Ok t) (least : Int) : Ok (tkS t least) := ok_need (ok_num h _) _ _ _
set_option maxRecDepth 4000 in
set_option maxHeartbeats 800000 in
theorem ticks_any (g : Nat) (t : St) (least : Int) (w : World) (hn : Names w) (h : IsRdr w g t) (ho : Ok t) :
    Calls Tryd.prog 61 #[.pointer (some ⟨g, 0, none⟩), .int .i64 least] w (IPost .i64 g (tkS t least) (numV t 4) w) := by
  have HN := Lib.hid hn
  have HR := Lib.hid h
  have HP := Lib.hid (place_any g t w h)
  have HU := Lib.hid (u32_any g t w hn h ho)
  have HT : Hid (needS (tkB (numV t 4) least) (numS t 4) 18 t.p = tkS t least) := rfl
  have hle := u32_le t
  have HI := Lib.hid (fun W => isTicks_any (numV t 4 : Int) least W)
  obtain ⟨T1, hT1⟩ : ∃ T1, numS t 4 = T1 := ⟨_, rfl⟩
  obtain ⟨V, hV⟩ : ∃ V, numV t 4 = V := ⟨_, rfl⟩
  obtain ⟨T2, hT2⟩ : ∃ T2, tkS t least = T2 := ⟨_, rfl⟩
  obtain ⟨P, hP⟩ : ∃ P, t.p = P := ⟨_, rfl⟩
  obtain ⟨D, hD⟩ : ∃ D, tkB (V : Int) least = D := ⟨_, rfl⟩
  rw [hT1, hV] at HU
  rw [hV, hD] at HI
  rw [hT1, hV, hT2, hP, hD] at HT
  rw [hV] at hle
  rw [hP] at HP
  rw [hT2, hV]
  have hwv : IntKind.i64.wrap (V : Int) = V := IntWalk.i64_in _ (by omega)
  have HNE := Lib.hid (fun W hn hr => need_any g D T1 18 P W hn (by omega) hr)
  rw [HT.out] at HNE
  clear hn h ho hT1 hV hT2 hP hD
  go_enter Tryd.func61, Tryd.ntmps61
  go_wp2_with (go_at_call 17; refine HP.out.mono ?_; rintro e w' ⟨rfl, rfl⟩)
  refine HU.out.mono ?_
  rintro e w1 ⟨rfl, hr1, hj1⟩
  have HR1 := Lib.hid hr1
  have HJ1 := Lib.hid hj1
  clear hr1 hj1
  go_wp2_with (go_at_call 43; refine (HI.out _).mono ?_; rintro e w' ⟨rfl, rfl⟩)
  refine (HNE.out _ (Rdr.Names.just HN.out HR.out HJ1.out) HR1.out).mono ?_
  rintro e w2 ⟨rfl, hr2, hj2⟩
  have HR2 := Lib.hid hr2
  have HJ2 := Lib.hid (HJ1.out.trans hj2)
  clear hr2 hj2
  go_wp2
  go_ret
  exact ⟨rfl, HR2.out, HJ2.out⟩
/-- How many come next, of n bytes, at most so many. -/
def cnS (t : St) (n : Nat) (most : Int) : St := needS (decide ((numV t n : Int) ≤ most)) (numS t n) 8 t.p
def cnV (t : St) (n : Nat) (most : Int) : Nat := if (cnS t n most).k = 0 then numV t n else 0
theorem ok_cn {t : St} (h : Ok t) (n : Nat) (most : Int) : Ok (cnS t n most) := ok_need (ok_num h _) _ _ _
set_option maxRecDepth 4000 in
set_option maxHeartbeats 800000 in
theorem count2_any (g : Nat) (t : St) (most : Int) (w : World) (hn : Names w) (h : IsRdr w g t) (ho : Ok t) :
    Calls Tryd.prog 63 #[.pointer (some ⟨g, 0, none⟩), .func (.func 64) #[.pointer (some ⟨g, 0, none⟩)] #[], .int .i64 most] w (IPost .i64 g (cnS t 2 most) (cnV t 2 most) w) := by
  have HN := Lib.hid hn
  have HR := Lib.hid h
  have HP := Lib.hid (place_any g t w h)
  have HU := Lib.hid (u16_any g t w hn h ho)
  have HT : Hid (needS (decide ((numV t 2 : Int) ≤ most)) (numS t 2) 8 t.p = cnS t 2 most) := rfl
  have HV : Hid (cnV t 2 most = if (cnS t 2 most).k = 0 then numV t 2 else 0) := rfl
  obtain ⟨T1, hT1⟩ : ∃ T1, numS t 2 = T1 := ⟨_, rfl⟩
  obtain ⟨V, hV⟩ : ∃ V, numV t 2 = V := ⟨_, rfl⟩
  obtain ⟨T2, hT2⟩ : ∃ T2, cnS t 2 most = T2 := ⟨_, rfl⟩
  obtain ⟨P, hP⟩ : ∃ P, t.p = P := ⟨_, rfl⟩
  obtain ⟨D, hD⟩ : ∃ D, decide ((V : Int) ≤ most) = D := ⟨_, rfl⟩
  rw [hT1, hV] at HU
  rw [hT1, hV, hT2, hP, hD] at HT
  rw [hT2, hV] at HV
  rw [hP] at HP
  rw [hT2, HV.out]
  have HNE := Lib.hid (fun W hn hr => need_any g D T1 8 P W hn (by omega) hr)
  rw [HT.out] at HNE
  clear hn h ho hT1 hV hT2 hP
  by_cases hk : T2.k = 0
  all_goals
    first
      | rw [if_pos hk]
      | rw [if_neg hk]
    obtain ⟨tb, htb⟩ : ∃ b, (T2.k == 0) = b := ⟨_, rfl⟩
    have htv : tb = decide (T2.k = 0) := by rw [← htb]; rfl
    first
      | rw [decide_eq_true hk] at htv
      | rw [decide_eq_false hk] at htv
    subst htv
    have HTB := Lib.hid htb
    clear hk htb
    go_enter Tryd.func63, Tryd.ntmps63
    go_wp2_with (go_at_call 17; refine HP.out.mono ?_; rintro e w' ⟨rfl, rfl⟩)
    refine HU.out.mono ?_
    rintro e w1 ⟨rfl, hr1, hj1⟩
    have HR1 := Lib.hid hr1
    have HJ1 := Lib.hid hj1
    clear hr1 hj1
    go_wp2_with fail
    refine (HNE.out _ (Rdr.Names.just HN.out HR.out HJ1.out) HR1.out).mono ?_
    rintro e w2 ⟨rfl, hr2, hj2⟩
    rw [HTB.out]
    have HR2 := Lib.hid hr2
    have HJ2 := Lib.hid (HJ1.out.trans hj2)
    clear hr2 hj2
    go_wp2
    go_ret
    exact ⟨rfl, HR2.out, HJ2.out⟩
set_option maxRecDepth 4000 in
set_option maxHeartbeats 800000 in
theorem count1_any (g : Nat) (t : St) (most : Int) (w : World) (hn : Names w) (h : IsRdr w g t) (ho : Ok t) :
    Calls Tryd.prog 63 #[.pointer (some ⟨g, 0, none⟩), .func (.func 59) #[.pointer (some ⟨g, 0, none⟩)] #[], .int .i64 most] w (IPost .i64 g (cnS t 1 most) (cnV t 1 most) w) := by
  have HN := Lib.hid hn
  have HR := Lib.hid h
  have HP := Lib.hid (place_any g t w h)
  have HU := Lib.hid (u8_any g t w hn h ho)
  have HT : Hid (needS (decide ((numV t 1 : Int) ≤ most)) (numS t 1) 8 t.p = cnS t 1 most) := rfl
  have HV : Hid (cnV t 1 most = if (cnS t 1 most).k = 0 then numV t 1 else 0) := rfl
  obtain ⟨T1, hT1⟩ : ∃ T1, numS t 1 = T1 := ⟨_, rfl⟩
  obtain ⟨V, hV⟩ : ∃ V, numV t 1 = V := ⟨_, rfl⟩
  obtain ⟨T2, hT2⟩ : ∃ T2, cnS t 1 most = T2 := ⟨_, rfl⟩
  obtain ⟨P, hP⟩ : ∃ P, t.p = P := ⟨_, rfl⟩
  obtain ⟨D, hD⟩ : ∃ D, decide ((V : Int) ≤ most) = D := ⟨_, rfl⟩
  rw [hT1, hV] at HU
  rw [hT1, hV, hT2, hP, hD] at HT
  rw [hT2, hV] at HV
  rw [hP] at HP
  rw [hT2, HV.out]
  have HNE := Lib.hid (fun W hn hr => need_any g D T1 8 P W hn (by omega) hr)
  rw [HT.out] at HNE
  clear hn h ho hT1 hV hT2 hP
  by_cases hk : T2.k = 0
  all_goals
    first
      | rw [if_pos hk]
      | rw [if_neg hk]
    obtain ⟨tb, htb⟩ : ∃ b, (T2.k == 0) = b := ⟨_, rfl⟩
    have htv : tb = decide (T2.k = 0) := by rw [← htb]; rfl
    first
      | rw [decide_eq_true hk] at htv
      | rw [decide_eq_false hk] at htv
    subst htv
    have HTB := Lib.hid htb
    clear hk htb
    go_enter Tryd.func63, Tryd.ntmps63
    go_wp2_with (go_at_call 17; refine HP.out.mono ?_; rintro e w' ⟨rfl, rfl⟩)
    refine HU.out.mono ?_
    rintro e w1 ⟨rfl, hr1, hj1⟩
    have HR1 := Lib.hid hr1
    have HJ1 := Lib.hid hj1
    clear hr1 hj1
    go_wp2_with fail
    refine (HNE.out _ (Rdr.Names.just HN.out HR.out HJ1.out) HR1.out).mono ?_
    rintro e w2 ⟨rfl, hr2, hj2⟩
    rw [HTB.out]
    have HR2 := Lib.hid hr2
    have HJ2 := Lib.hid (HJ1.out.trans hj2)
    clear hr2 hj2
    go_wp2
    go_ret
    exact ⟨rfl, HR2.out, HJ2.out⟩
/-- A row: an id, two numbers of ticks. -/
def rwS (t : St) : St := tkS (tkS (numS t 1) 0) 0
def rwV (t : St) : A3 := ⟨numV t 1, numV (numS t 1) 4, numV (tkS (numS t 1) 0) 4⟩
def rwN (t : St) : Nat → St × List A3
  | 0 => (t, [])
  | i + 1 => (rwS (rwN t i).1, (rwN t i).2 ++ [rwV (rwN t i).1])
theorem rwN_len (t : St) : ∀ i, (rwN t i).2.length = i
  | 0 => rfl
  | i + 1 => by rw [rwN]; simp [rwN_len t i]
theorem ok_rwN {t : St} (h : Ok t) : ∀ i, Ok (rwN t i).1
  | 0 => h
  | i + 1 => ok_tk (ok_tk (ok_num (ok_rwN h i) 1) 0) 0
structure RCW (g : Nat) (t : St) (l : List A3) (V : Value) (w wr : World) : Prop where
  rd : IsRdr wr g t
  own : wr.ownsRow w.heap.size 59 3 V l.length (flatA l)
  just : Just g w wr
  gl : g < w.heap.size
theorem RCW.rdr {g : Nat} {t t' : St} {l : List A3} {V : Value} {w wr w' : World} (f : RCW g t l V w wr) (hr : IsRdr w' g t') (j : Just g wr w') : RCW g t' l V w w' := by
  have h1 := f.gl
  exact ⟨hr, row_beside f.own j (fun k hk => by have := (f.own.lt k hk).1; omega), f.just.trans j, h1⟩
theorem RCW.keep {g : Nat} {t : St} {l : List A3} {V : Value} {w wr w' : World} (f : RCW g t l V w wr) (b : Below wr.heap.size wr w') : RCW g t l V w w' := f.rdr (f.rd.kept b) (Just.of_below b)
theorem RCW.grown {g : Nat} {t : St} {x : A3} {l : List A3} {V V' : Value} {w wr w' : World} (f : RCW g t l V w wr) (hg : wr.grownBy w' V.ownBlock) (n : Nat) (hn : n = (l ++ [x]).length) (ho : w'.ownsRow w.heap.size 59 3 V' n (flatA l ++ actL x)) : RCW g t (l ++ [x]) V' w w' := by
  have h1 := f.gl
  have hne : ∀ k, k < w.heap.size → some k ≠ V.ownBlock := fun k hk e => by have := (f.own.lt k e.symm).1; omega
  refine ⟨?_, by rw [← hn, flatA_snoc]; exact ho, ?_, h1⟩
  · obtain ⟨y, hy, hw⟩ := f.rd
    refine ⟨y, (hg.block g (lt_of_block hy) (hne g h1)).trans hy, hw.kept fun k cs hk => hg.block k (lt_of_block hk) fun e => ?_⟩
    obtain ⟨c2, e2⟩ := Prt.own_block f.own e.symm
    rw [hk] at e2
    simp only [Option.some.injEq, Obj.cells.injEq] at e2
    exact absurd e2.2.1 (by decide)
  · exact ⟨hg.os.trans f.just.os, hg.tape.trans f.just.tape, hg.output.trans f.just.output, Nat.le_trans f.just.size hg.size, fun k hk hkg => (hg.block k (Nat.lt_of_lt_of_le hk f.just.size) (hne k hk)).trans (f.just.block k hk hkg)⟩
def RPostW (g : Nat) (t : St) (l : List A3) (w : World) (e : Ending) (w' : World) : Prop := ∃ V, e = .returned V ∧ w'.ownsRow w.heap.size 59 3 V l.length (flatA l) ∧ IsRdr w' g t ∧ Just g w w'
theorem infoW : (Tryd.prog.info? 59).map (fun i => (i.zero, i.size, i.bytes)) = some (some (.agg #[.int .i64 0, .int .i64 0, .int .i64 0]), 3, 24) := by kernel_rfl
theorem ptWW (v : Value) (w : World) : (Instr.typeAssert (.iface 136 v) 20 136 true).run Tryd.prog w = .ok (.tuple #[v, .bool true]) w := by kernel_rfl
set_option maxRecDepth 8000 in
set_option maxHeartbeats 3200000 in
theorem rowsW_any (g : Nat) (t : St) (n : Nat) (w : World) (hn : Names w) (h : IsRdr w g t) (ho : Ok t) (hl : n ≤ 1000) :
    Calls Tryd.prog 62 #[.pointer (some ⟨g, 0, none⟩), .int .i64 n] w (RPostW g (rwN t n).1 (rwN t n).2 w) := by
  obtain ⟨i0, hi, hz0, hz1, hz2⟩ := info_parts infoW
  have HN := Lib.hid hn
  have HR := Lib.hid h
  have HGL : Hid (g < w.heap.size) := h.lt
  have HOK := Lib.hid (fun i => ok_rwN ho i)
  have hst : RCW g (rwN t 0).1 (rwN t 0).2 (.slice none 0 0) w w := ⟨h, World.ownsRow_nil _ _ _ _, Just.refl _ _, h.lt⟩
  have HST := Lib.hid hst
  clear hn h ho hst
  go_enter Tryd.func62, Tryd.ntmps62
  go_wp2
  go_loopw [5, 13] (fun v i wr => ∃ k : Nat, k ≤ n ∧ i = .int .i64 k ∧ RCW g (rwN t k).1 (rwN t k).2 v w wr) (fun _ i _ => n - (intOf i).toNat)
  case atStart => exact ⟨0, Nat.zero_le _, rfl, HST.out⟩
  case round =>
    obtain ⟨k, hk, rfl, hf⟩ := hrel
    have HF := Lib.hid hf
    clear hf HST
    by_cases hlt : k < n
    · have hkn : (k : Int) < n := by omega
      have HNX : Hid (rwN t (k + 1) = (rwS (rwN t k).1, (rwN t k).2 ++ [rwV (rwN t k).1])) := rfl
      have HLE : Hid ((rwN t k).2.length = k) := rwN_len t k
      have HOT := Lib.hid (HOK.out k)
      obtain ⟨tk, htk⟩ : ∃ x, (rwN t k).1 = x := ⟨_, rfl⟩
      obtain ⟨lk, hlk⟩ : ∃ x, (rwN t k).2 = x := ⟨_, rfl⟩
      rw [htk, hlk] at HF HNX
      rw [hlk] at HLE
      rw [htk] at HOT
      have HNK := Lib.hid (fun W (j : Just g w W) => Rdr.Names.just HN.out HR.out j)
      have HU1 := Lib.hid (fun W hn hr => u8_any g tk W hn hr HOT.out)
      have HU2 := Lib.hid (fun W hn hr => ticks_any g (numS tk 1) 0 W hn hr (ok_num HOT.out 1))
      have HU3 := Lib.hid (fun W hn hr => ticks_any g (tkS (numS tk 1) 0) 0 W hn hr (ok_tk (ok_num HOT.out 1) 0))
      have HV : Hid (rwV tk = ⟨numV tk 1, numV (numS tk 1) 4, numV (tkS (numS tk 1) 0) 4⟩) := rfl
      have HS : Hid (rwS tk = tkS (tkS (numS tk 1) 0) 0) := rfl
      rw [HV.out, HS.out] at HNX
      obtain ⟨t1, ht1⟩ : ∃ x, numS tk 1 = x := ⟨_, rfl⟩
      rw [ht1] at HU1 HU2 HU3 HNX
      obtain ⟨t2, ht2⟩ : ∃ x, tkS t1 0 = x := ⟨_, rfl⟩
      rw [ht2] at HU2 HU3 HNX
      obtain ⟨t3, ht3⟩ : ∃ x, tkS t2 0 = x := ⟨_, rfl⟩
      rw [ht3] at HU3 HNX
      obtain ⟨v1, hv1⟩ : ∃ x, numV tk 1 = x := ⟨_, rfl⟩
      obtain ⟨v2, hv2⟩ : ∃ x, numV t1 4 = x := ⟨_, rfl⟩
      obtain ⟨v3, hv3⟩ : ∃ x, numV t2 4 = x := ⟨_, rfl⟩
      rw [hv1] at HU1 HNX
      rw [hv2] at HU2 HNX
      rw [hv3] at HU3 HNX
      clear htk hlk HV HS ht1 ht2 ht3 hv1 hv2 hv3 HOT
      have q1 := ptWW
      go_wp2_with fail
      refine (HU1.out _ (HNK.out _ HF.out.just) HF.out.rd).mono ?_
      rintro e w3 ⟨rfl, hr3, hj3⟩
      have HF3 := Lib.hid (HF.out.rdr hr3 hj3)
      clear hr3 hj3
      go_wp2_with fail
      refine (HU2.out _ (HNK.out _ HF3.out.just) HF3.out.rd).mono ?_
      rintro e w4 ⟨rfl, hr4, hj4⟩
      have HF4 := Lib.hid (HF3.out.rdr hr4 hj4)
      clear hr4 hj4
      go_wp2_with fail
      refine (HU3.out _ (HNK.out _ HF4.out.just) HF4.out.rd).mono ?_
      rintro e w5 ⟨rfl, hr5, hj5⟩
      have HF5 := Lib.hid (HF4.out.rdr hr5 hj5)
      clear hr5 hj5
      have HRX := Lib.hid (HF5.out.keep (two_below w5 (.cells #[.int .i64 v1, .int .i64 v2, .int .i64 v3] 59) (.cells #[.int .i64 v1, .int .i64 v2, .int .i64 v3] 59)))
      go_wp2_with (at_builtin; refine wpList_append_own _ rfl _ _ 48 rfl w.heap.size 59 i0 (.agg #[.int .i64 0, .int .i64 0, .int .i64 0]) 3 24 Tryd.underlying48 hi hz0 hz1 hz2 rfl (by decide) _ lk.length _ rfl HRX.out.own ⟨w5.heap.size + 1, 0, none⟩ 1 1 [.int .i64 v1, .int .i64 v2, .int .i64 v3] rfl rfl ?c1 ?c2 ?c3 ?c4 ?c5 ?_)
      case c1 =>
        intro j u hj
        have hrow := Hdr.second_new w5 (.cells #[.int .i64 v1, .int .i64 v2, .int .i64 v3] 59) (.cells #[.int .i64 v1, .int .i64 v2, .int .i64 v3] 59)
        have e : (Addr.mk (w5.heap.size + 1) 0 none).add j = ⟨w5.heap.size + 1, j, none⟩ := by cases j <;> simp [Addr.add]
        rw [e, cell_of_row _ _ _ _ _ _ hrow, ← hj]
        simp
      case c2 => intro u hu; simp at hu; rcases hu with rfl | rfl | rfl <;> rfl
      case c3 => have := HLE.out; unfold maxLen; omega
      case c4 => have := HLE.out; omega
      case c5 => exact HRX.out.just.size
      intro v' w12 ho12 hg12 _
      have HF12 := Lib.hid (HRX.out.grown (x := ⟨v1, v2, v3⟩) hg12 (lk.length + 1) (by simp) ho12)
      clear ho12 hg12
      go_wp2
      go_roundw
      case rel => exact ⟨k + 1, by omega, by go_num, by rw [HNX.out]; exact HF12.out⟩
      case measure => simp [intOf]; omega
    · obtain rfl : k = n := by omega
      go_wp2
      go_ret
      exact ⟨_, rfl, HF.out.own, HF.out.rd, HF.out.just⟩
structure RCN (g : Nat) (t : St) (l : List A3) (V : Value) (w wr : World) : Prop where
  rd : IsRdr wr g t
  own : wr.ownsRow w.heap.size 68 3 V l.length (flatA l)
  just : Just g w wr
  gl : g < w.heap.size
theorem RCN.rdr {g : Nat} {t t' : St} {l : List A3} {V : Value} {w wr w' : World} (f : RCN g t l V w wr) (hr : IsRdr w' g t') (j : Just g wr w') : RCN g t' l V w w' := by
  have h1 := f.gl
  exact ⟨hr, row_beside f.own j (fun k hk => by have := (f.own.lt k hk).1; omega), f.just.trans j, h1⟩
theorem RCN.keep {g : Nat} {t : St} {l : List A3} {V : Value} {w wr w' : World} (f : RCN g t l V w wr) (b : Below wr.heap.size wr w') : RCN g t l V w w' := f.rdr (f.rd.kept b) (Just.of_below b)
theorem RCN.grown {g : Nat} {t : St} {x : A3} {l : List A3} {V V' : Value} {w wr w' : World} (f : RCN g t l V w wr) (hg : wr.grownBy w' V.ownBlock) (n : Nat) (hn : n = (l ++ [x]).length) (ho : w'.ownsRow w.heap.size 68 3 V' n (flatA l ++ actL x)) : RCN g t (l ++ [x]) V' w w' := by
  have h1 := f.gl
  have hne : ∀ k, k < w.heap.size → some k ≠ V.ownBlock := fun k hk e => by have := (f.own.lt k e.symm).1; omega
  refine ⟨?_, by rw [← hn, flatA_snoc]; exact ho, ?_, h1⟩
  · obtain ⟨y, hy, hw⟩ := f.rd
    refine ⟨y, (hg.block g (lt_of_block hy) (hne g h1)).trans hy, hw.kept fun k cs hk => hg.block k (lt_of_block hk) fun e => ?_⟩
    obtain ⟨c2, e2⟩ := Prt.own_block f.own e.symm
    rw [hk] at e2
    simp only [Option.some.injEq, Obj.cells.injEq] at e2
    exact absurd e2.2.1 (by decide)
  · exact ⟨hg.os.trans f.just.os, hg.tape.trans f.just.tape, hg.output.trans f.just.output, Nat.le_trans f.just.size hg.size, fun k hk hkg => (hg.block k (Nat.lt_of_lt_of_le hk f.just.size) (hne k hk)).trans (f.just.block k hk hkg)⟩
def RPostN (g : Nat) (t : St) (l : List A3) (w : World) (e : Ending) (w' : World) : Prop := ∃ V, e = .returned V ∧ w'.ownsRow w.heap.size 68 3 V l.length (flatA l) ∧ IsRdr w' g t ∧ Just g w w'
theorem infoN : (Tryd.prog.info? 68).map (fun i => (i.zero, i.size, i.bytes)) = some (some (.agg #[.int .i64 0, .int .i64 0, .int .i64 0]), 3, 24) := by kernel_rfl
theorem ptNW (v : Value) (w : World) : (Instr.typeAssert (.iface 137 v) 20 136 true).run Tryd.prog w = .ok (.tuple #[.pointer none, .bool false]) w := by kernel_rfl
theorem ptNN (v : Value) (w : World) : (Instr.typeAssert (.iface 137 v) 20 137 true).run Tryd.prog w = .ok (.tuple #[v, .bool true]) w := by kernel_rfl
set_option maxRecDepth 8000 in
set_option maxHeartbeats 3200000 in
theorem rowsN_any (g : Nat) (t : St) (n : Nat) (w : World) (hn : Names w) (h : IsRdr w g t) (ho : Ok t) (hl : n ≤ 1000) :
    Calls Tryd.prog 65 #[.pointer (some ⟨g, 0, none⟩), .int .i64 n] w (RPostN g (rwN t n).1 (rwN t n).2 w) := by
  obtain ⟨i0, hi, hz0, hz1, hz2⟩ := info_parts infoN
  have HN := Lib.hid hn
  have HR := Lib.hid h
  have HGL : Hid (g < w.heap.size) := h.lt
  have HOK := Lib.hid (fun i => ok_rwN ho i)
  have hst : RCN g (rwN t 0).1 (rwN t 0).2 (.slice none 0 0) w w := ⟨h, World.ownsRow_nil _ _ _ _, Just.refl _ _, h.lt⟩
  have HST := Lib.hid hst
  clear hn h ho hst
  go_enter Tryd.func65, Tryd.ntmps65
  go_wp2
  go_loopw [5, 13] (fun v i wr => ∃ k : Nat, k ≤ n ∧ i = .int .i64 k ∧ RCN g (rwN t k).1 (rwN t k).2 v w wr) (fun _ i _ => n - (intOf i).toNat)
  case atStart => exact ⟨0, Nat.zero_le _, rfl, HST.out⟩
  case round =>
    obtain ⟨k, hk, rfl, hf⟩ := hrel
    have HF := Lib.hid hf
    clear hf HST
    by_cases hlt : k < n
    · have hkn : (k : Int) < n := by omega
      have HNX : Hid (rwN t (k + 1) = (rwS (rwN t k).1, (rwN t k).2 ++ [rwV (rwN t k).1])) := rfl
      have HLE : Hid ((rwN t k).2.length = k) := rwN_len t k
      have HOT := Lib.hid (HOK.out k)
      obtain ⟨tk, htk⟩ : ∃ x, (rwN t k).1 = x := ⟨_, rfl⟩
      obtain ⟨lk, hlk⟩ : ∃ x, (rwN t k).2 = x := ⟨_, rfl⟩
      rw [htk, hlk] at HF HNX
      rw [hlk] at HLE
      rw [htk] at HOT
      have HNK := Lib.hid (fun W (j : Just g w W) => Rdr.Names.just HN.out HR.out j)
      have HU1 := Lib.hid (fun W hn hr => u8_any g tk W hn hr HOT.out)
      have HU2 := Lib.hid (fun W hn hr => ticks_any g (numS tk 1) 0 W hn hr (ok_num HOT.out 1))
      have HU3 := Lib.hid (fun W hn hr => ticks_any g (tkS (numS tk 1) 0) 0 W hn hr (ok_tk (ok_num HOT.out 1) 0))
      have HV : Hid (rwV tk = ⟨numV tk 1, numV (numS tk 1) 4, numV (tkS (numS tk 1) 0) 4⟩) := rfl
      have HS : Hid (rwS tk = tkS (tkS (numS tk 1) 0) 0) := rfl
      rw [HV.out, HS.out] at HNX
      obtain ⟨t1, ht1⟩ : ∃ x, numS tk 1 = x := ⟨_, rfl⟩
      rw [ht1] at HU1 HU2 HU3 HNX
      obtain ⟨t2, ht2⟩ : ∃ x, tkS t1 0 = x := ⟨_, rfl⟩
      rw [ht2] at HU2 HU3 HNX
      obtain ⟨t3, ht3⟩ : ∃ x, tkS t2 0 = x := ⟨_, rfl⟩
      rw [ht3] at HU3 HNX
      obtain ⟨v1, hv1⟩ : ∃ x, numV tk 1 = x := ⟨_, rfl⟩
      obtain ⟨v2, hv2⟩ : ∃ x, numV t1 4 = x := ⟨_, rfl⟩
      obtain ⟨v3, hv3⟩ : ∃ x, numV t2 4 = x := ⟨_, rfl⟩
      rw [hv1] at HU1 HNX
      rw [hv2] at HU2 HNX
      rw [hv3] at HU3 HNX
      clear htk hlk HV HS ht1 ht2 ht3 hv1 hv2 hv3 HOT
      have q1 := ptNW
      have q2 := ptNN
      go_wp2_with fail
      refine (HU1.out _ (HNK.out _ HF.out.just) HF.out.rd).mono ?_
      rintro e w3 ⟨rfl, hr3, hj3⟩
      have HF3 := Lib.hid (HF.out.rdr hr3 hj3)
      clear hr3 hj3
      go_wp2_with fail
      refine (HU2.out _ (HNK.out _ HF3.out.just) HF3.out.rd).mono ?_
      rintro e w4 ⟨rfl, hr4, hj4⟩
      have HF4 := Lib.hid (HF3.out.rdr hr4 hj4)
      clear hr4 hj4
      go_wp2_with fail
      refine (HU3.out _ (HNK.out _ HF4.out.just) HF4.out.rd).mono ?_
      rintro e w5 ⟨rfl, hr5, hj5⟩
      have HF5 := Lib.hid (HF4.out.rdr hr5 hj5)
      clear hr5 hj5
      have HRX := Lib.hid (HF5.out.keep (two_below w5 (.cells #[.int .i64 v1, .int .i64 v2, .int .i64 v3] 68) (.cells #[.int .i64 v1, .int .i64 v2, .int .i64 v3] 68)))
      go_wp2_with (at_builtin; refine wpList_append_own _ rfl _ _ 49 rfl w.heap.size 68 i0 (.agg #[.int .i64 0, .int .i64 0, .int .i64 0]) 3 24 Tryd.underlying49 hi hz0 hz1 hz2 rfl (by decide) _ lk.length _ rfl HRX.out.own ⟨w5.heap.size + 1, 0, none⟩ 1 1 [.int .i64 v1, .int .i64 v2, .int .i64 v3] rfl rfl ?c1 ?c2 ?c3 ?c4 ?c5 ?_)
      case c1 =>
        intro j u hj
        have hrow := Hdr.second_new w5 (.cells #[.int .i64 v1, .int .i64 v2, .int .i64 v3] 68) (.cells #[.int .i64 v1, .int .i64 v2, .int .i64 v3] 68)
        have e : (Addr.mk (w5.heap.size + 1) 0 none).add j = ⟨w5.heap.size + 1, j, none⟩ := by cases j <;> simp [Addr.add]
        rw [e, cell_of_row _ _ _ _ _ _ hrow, ← hj]
        simp
      case c2 => intro u hu; simp at hu; rcases hu with rfl | rfl | rfl <;> rfl
      case c3 => have := HLE.out; unfold maxLen; omega
      case c4 => have := HLE.out; omega
      case c5 => exact HRX.out.just.size
      intro v' w12 ho12 hg12 _
      have HF12 := Lib.hid (HRX.out.grown (x := ⟨v1, v2, v3⟩) hg12 (lk.length + 1) (by simp) ho12)
      clear ho12 hg12
      go_wp2
      go_roundw
      case rel => exact ⟨k + 1, by omega, by go_num, by rw [HNX.out]; exact HF12.out⟩
      case measure => simp [intOf]; omega
    · obtain rfl : k = n := by omega
      go_wp2
      go_ret
      exact ⟨_, rfl, HF.out.own, HF.out.rd, HF.out.just⟩
end Go.Proofs.YtbcjkongcnpdlaaDoor.Scd

namespace Go.Proofs.YtbcjkongcnpdlaaDoor.Scd

open Go.RowKit Go.PlainAid Go.Proofs.YtbcjkongcnpdlaaDoor.Oct Go.Proofs.YtbcjkongcnpdlaaDoor.Flt Go.Proofs.YtbcjkongcnpdlaaDoor.Rdr Go.Proofs.YtbcjkongcnpdlaaDoor.Act

set_option linter.unusedVariables false

set_option linter.unusedSimpArgs false

def s1S (t : St) (last : Int) : St := needS (decide (last < (numV t 1 : Int))) (numS t 1) 9 t.p
def s2S (t : St) (last : Int) : St := tkS (s1S t last) 1
def s3S (t : St) (last : Int) : St := cnS (s2S t last) 2 256
def s4S (t : St) (last : Int) : St × List A3 := rwN (s3S t last) (cnV (s2S t last) 2 256)
def s5S (t : St) (last : Int) : St := cnS (s4S t last).1 1 32
def s6S (t : St) (last : Int) : St × List A3 := rwN (s5S t last) (cnV (s4S t last).1 1 32)
def onV (t : St) (last : Int) : SC := ⟨numV t 1, numV (s1S t last) 4, (s4S t last).2, (s6S t last).2⟩
def onS (t : St) (last : Int) : St := (s6S t last).1
theorem ok_s1 {t : St} (h : Ok t) (last : Int) : Ok (s1S t last) := ok_need (ok_num h _) _ _ _
theorem ok_s2 {t : St} (h : Ok t) (last : Int) : Ok (s2S t last) := ok_tk (ok_s1 h last) _
theorem ok_s3 {t : St} (h : Ok t) (last : Int) : Ok (s3S t last) := ok_cn (ok_s2 h last) _ _
theorem ok_s4 {t : St} (h : Ok t) (last : Int) : Ok (s4S t last).1 := ok_rwN (ok_s3 h last) _
theorem ok_s5 {t : St} (h : Ok t) (last : Int) : Ok (s5S t last) := ok_cn (ok_s4 h last) _ _
theorem ok_on {t : St} (h : Ok t) (last : Int) : Ok (onS t last) := ok_rwN (ok_s5 h last) _
theorem need_k {t : St} {b : Bool} {k a : Int} (h1 : 1 ≤ k) (h2 : k ≤ 18) (h : (needS b t k a).k = 0) : b = true := by
  unfold needS at h
  split at h
  · rename_i hb; exact hb
  · exfalso
    by_cases h0 : t.k = 0
    · have e : k = ((k.toNat : Nat) : Int) := by omega
      rw [e, fail_yes h0 (by omega) (by omega)] at h
      dsimp only at h
      omega
    · rw [fail_had h0] at h
      exact h0 h
theorem cn_le (t : St) (n : Nat) (most : Nat) : cnV t n most ≤ most := by
  unfold cnV
  split
  · rename_i h
    unfold cnS at h
    have hb := need_k (by omega) (by omega) h
    have := of_decide_eq_true hb
    omega
  · omega
def scZ : Array Value := #[.int .i64 0, .int .i64 0, .slice none 0 0, .slice none 0 0]
structure PB (g : Nat) (t : St) (cs : Array Value) (w wr : World) : Prop where
  rd : IsRdr wr g t
  res : wr.heap[w.heap.size]? = some (.cells scZ 51 (0, 0))
  row : wr.heap[w.heap.size + 1]? = some (.cells cs 51 (0, 0))
  just : Just g w wr
  gl : g < w.heap.size
theorem PB.rdr {g : Nat} {t t' : St} {cs : Array Value} {w wr w' : World} (f : PB g t cs w wr) (hr : IsRdr w' g t') (j : Just g wr w') : PB g t' cs w w' := by
  have h1 := f.gl
  exact ⟨hr, (j.block _ (lt_of_block f.res) (by omega)).trans f.res, (j.block _ (lt_of_block f.row) (by omega)).trans f.row, f.just.trans j, h1⟩
theorem PB.set {g : Nat} {t : St} {cs : Array Value} {w wr : World} (f : PB g t cs w wr) (o : Nat) (v : Value) : PB g t (cs.setIfInBounds o v) w (wr.setCell ⟨w.heap.size + 1, o, none⟩ v) :=
  ⟨IsRdr.poke f.rd f.row (by decide) (by decide) o v, (heap_setCell_other wr _ _ v (by show w.heap.size ≠ w.heap.size + 1; omega)).trans f.res, heap_setCell_same wr _ _ _ _ _ f.row, Just.poke f.just _ o v (by omega), f.gl⟩
theorem PB.facts {g : Nat} {t : St} {cs : Array Value} {w wr : World} (f : PB g t cs w wr) (o : Nat) : wr.cell? ⟨w.heap.size + 1, o, none⟩ = cs[o]? ∧ wr.frozen? ⟨w.heap.size + 1, o, none⟩ = false := ⟨cell_of_row wr _ _ _ _ _ f.row, frozen_of_row wr _ o _ _ f.row⟩
theorem size_sc : (Tryd.prog.info? 51).map (·.size) = some 4 := by kernel_rfl
theorem just_set (w : World) (b o : Nat) (v : Value) : Just b w (w.setCell ⟨b, o, none⟩ v) := (Just.refl b w).setCell o v
theorem just_setRow (w : World) (c : Nat) (cs : Array Value) : Just c w (w.setRow c cs) := ⟨rfl, rfl, rfl, by simp, fun k hk hne => setRow_other _ _ _ _ hne⟩
theorem row_slice {w : World} {B n : Nat} {T : TypeId} {V : Value} {xs : List Value} (h : w.ownsRow B T 3 V n xs) : ∃ A c, V = .slice A n c := by
  rcases h.2 with ⟨rfl, h0⟩ | ⟨g', c', cur, rfl, _⟩
  · exact ⟨none, 0, by rw [h0]⟩
  · exact ⟨_, _, rfl⟩
/-- A row that lies above the two blocks stays. -/
theorem row_stays {w wr w' : World} {n : Nat} {T : TypeId} {V : Value} {xs : List Value} {b : Nat} (h : wr.ownsRow (w.heap.size + 2) T 3 V n xs) (j : Just b wr w') (hb : b ≤ w.heap.size + 1) : w'.ownsRow (w.heap.size + 2) T 3 V n xs :=
  row_beside h j fun k hk => by have := (h.lt k hk).1; omega
def OPost1 (g : Nat) (t : St) (x : SC) (w : World) (e : Ending) (w' : World) : Prop := ∃ V1 V2, e = .returned (.agg #[.int .i64 x.id, .int .i64 x.fr, V1, V2]) ∧ w'.ownsRow w.heap.size 59 3 V1 x.ws.length (flatA x.ws) ∧ w'.ownsRow w.heap.size 68 3 V2 x.ns.length (flatA x.ns) ∧ IsRdr w' g t ∧ Just g w w'
set_option maxRecDepth 8000 in
set_option maxHeartbeats 3200000 in
theorem one_any (g : Nat) (t : St) (last : Int) (w : World) (hn : Names w) (h : IsRdr w g t) (ho : Ok t) :
    Calls Tryd.prog 33 #[.pointer (some ⟨g, 0, none⟩), .int .i64 last] w (OPost1 g (onS t last) (onV t last) w) := by
  have HN := Lib.hid hn
  have HR := Lib.hid h
  have HNM : Hid (∀ W, Just g w W → Names W) := fun W j => Rdr.Names.just HN.out HR.out j
  have HP0 := Lib.hid (fun W hr => place_any g t W hr)
  have HU0 := Lib.hid (fun W hn hr => u8_any g t W hn hr ho)
  have HNE := Lib.hid (fun W hn hr => need_any g (decide (last < (numV t 1 : Int))) (numS t 1) 9 t.p W hn (by omega) hr)
  have HT1 : Hid (needS (decide (last < (numV t 1 : Int))) (numS t 1) 9 t.p = s1S t last) := rfl
  rw [HT1.out] at HNE
  have HTK : Hid (∀ W, Names W → IsRdr W g (s1S t last) → Calls Tryd.prog 61 #[.pointer (some ⟨g, 0, none⟩), .int .i64 1] W (IPost .i64 g (s2S t last) (numV (s1S t last) 4) W)) := fun W hn hr => ticks_any g _ 1 W hn hr (ok_s1 ho last)
  have HC2 : Hid (∀ W, Names W → IsRdr W g (s2S t last) → Calls Tryd.prog 63 #[.pointer (some ⟨g, 0, none⟩), .func (.func 64) #[.pointer (some ⟨g, 0, none⟩)] #[], .int .i64 256] W (IPost .i64 g (s3S t last) (cnV (s2S t last) 2 256) W)) := fun W hn hr => count2_any g _ 256 W hn hr (ok_s2 ho last)
  have HRW : Hid (∀ W, Names W → IsRdr W g (s3S t last) → Calls Tryd.prog 62 #[.pointer (some ⟨g, 0, none⟩), .int .i64 (cnV (s2S t last) 2 256)] W (RPostW g (s4S t last).1 (s4S t last).2 W)) := fun W hn hr => rowsW_any g _ _ W hn hr (ok_s3 ho last) (Nat.le_trans (cn_le _ 2 256) (by omega))
  have HC1 : Hid (∀ W, Names W → IsRdr W g (s4S t last).1 → Calls Tryd.prog 63 #[.pointer (some ⟨g, 0, none⟩), .func (.func 59) #[.pointer (some ⟨g, 0, none⟩)] #[], .int .i64 32] W (IPost .i64 g (s5S t last) (cnV (s4S t last).1 1 32) W)) := fun W hn hr => count1_any g _ 32 W hn hr (ok_s4 ho last)
  have HRN : Hid (∀ W, Names W → IsRdr W g (s5S t last) → Calls Tryd.prog 65 #[.pointer (some ⟨g, 0, none⟩), .int .i64 (cnV (s4S t last).1 1 32)] W (RPostN g (s6S t last).1 (s6S t last).2 W)) := fun W hn hr => rowsN_any g _ _ W hn hr (ok_s5 ho last) (Nat.le_trans (cn_le _ 1 32) (by omega))
  have HV : Hid (onV t last = ⟨numV t 1, numV (s1S t last) 4, (s4S t last).2, (s6S t last).2⟩) := rfl
  have HS : Hid (onS t last = (s6S t last).1) := rfl
  rw [HV.out, HS.out]
  obtain ⟨t1, ht1⟩ : ∃ x, s1S t last = x := ⟨_, rfl⟩
  obtain ⟨t2, ht2⟩ : ∃ x, s2S t last = x := ⟨_, rfl⟩
  obtain ⟨t3, ht3⟩ : ∃ x, s3S t last = x := ⟨_, rfl⟩
  obtain ⟨⟨t4, lw⟩, ht4⟩ : ∃ x, s4S t last = x := ⟨_, rfl⟩
  obtain ⟨t5, ht5⟩ : ∃ x, s5S t last = x := ⟨_, rfl⟩
  obtain ⟨⟨t6, ln⟩, ht6⟩ : ∃ x, s6S t last = x := ⟨_, rfl⟩
  rw [ht1] at HNE HTK
  rw [ht2] at HTK HC2 HRW
  rw [ht3] at HC2 HRW
  rw [ht4] at HRW HC1 HRN
  rw [ht5] at HC1 HRN
  rw [ht6] at HRN
  rw [ht1, ht4, ht6]
  dsimp only at HRW HC1 HRN ⊢
  obtain ⟨n0, hn0⟩ : ∃ x, numS t 1 = x := ⟨_, rfl⟩
  obtain ⟨id, hid⟩ : ∃ x, numV t 1 = x := ⟨_, rfl⟩
  obtain ⟨P, hP⟩ : ∃ x, t.p = x := ⟨_, rfl⟩
  obtain ⟨fr, hfr⟩ : ∃ x, numV t1 4 = x := ⟨_, rfl⟩
  obtain ⟨m1, hm1⟩ : ∃ x, cnV t2 2 256 = x := ⟨_, rfl⟩
  obtain ⟨m2, hm2⟩ : ∃ x, cnV t4 1 32 = x := ⟨_, rfl⟩
  rw [hn0, hid] at HU0
  rw [hn0, hid, hP] at HNE
  rw [hP] at HP0
  rw [hfr] at HTK ⊢
  rw [hm1] at HC2 HRW
  rw [hm2] at HC1 HRN
  rw [hid]
  obtain ⟨D, hD⟩ : ∃ x, decide (last < (id : Int)) = x := ⟨_, rfl⟩
  rw [hD] at HNE
  have HF0 : Hid (PB g t scZ w ((w.alloc (.cells scZ 51)).alloc (.cells scZ 51))) := by
    have hb := two_below w (.cells scZ 51) (.cells scZ 51)
    exact ⟨h.kept hb, (heap_alloc_old _ _ (by simp)).trans (heap_alloc_new _ _), Hdr.second_new _ _ _, Just.of_below hb, h.lt⟩
  have HSIZ := Lib.hid size_sc
  unfold scZ at HF0
  clear hn h ho HT1 HV HS ht1 ht2 ht3 ht4 ht5 ht6 hn0 hid hP hfr hm1 hm2
  go_enter Tryd.func33, Tryd.ntmps33
  go_wp2_with (go_at_call 17; refine (HP0.out _ HF0.out.rd).mono ?_; rintro e w' ⟨rfl, rfl⟩)
  refine (HU0.out _ (HNM.out _ HF0.out.just) HF0.out.rd).mono ?_
  rintro e w1 ⟨rfl, hr1, hj1⟩
  have f1 := HF0.out.rdr hr1 hj1
  obtain ⟨c1, z1⟩ := f1.facts 0
  have HF1 := Lib.hid (f1.set 0 (.int .i64 id))
  have d1 := (HF1.out.facts 0).1
  simp only [List.setIfInBounds_toArray, List.set_cons_zero, List.set_cons_succ, List.getElem?_toArray, List.getElem?_cons_zero, List.getElem?_cons_succ] at HF1 c1 d1
  clear hr1 hj1 f1 HU0 HP0
  go_wp2_with fail
  refine (HNE.out _ (HNM.out _ HF1.out.just) HF1.out.rd).mono ?_
  rintro e w2 ⟨rfl, hr2, hj2⟩
  have HF2 := Lib.hid (HF1.out.rdr hr2 hj2)
  clear hr2 hj2 c1 z1 d1 HF1
  go_wp2_with fail
  refine (HTK.out _ (HNM.out _ HF2.out.just) HF2.out.rd).mono ?_
  rintro e w3 ⟨rfl, hr3, hj3⟩
  have f3 := HF2.out.rdr hr3 hj3
  obtain ⟨c3, z3⟩ := f3.facts 1
  have HF3 := Lib.hid (f3.set 1 (.int .i64 fr))
  simp only [List.setIfInBounds_toArray, List.set_cons_zero, List.set_cons_succ, List.getElem?_toArray, List.getElem?_cons_zero, List.getElem?_cons_succ] at HF3 c3
  clear hr3 hj3 f3 HF2
  go_wp2_with fail
  refine (HC2.out _ (HNM.out _ HF3.out.just) HF3.out.rd).mono ?_
  rintro e w4 ⟨rfl, hr4, hj4⟩
  have HF4 := Lib.hid (HF3.out.rdr hr4 hj4)
  clear hr4 hj4 HF3 c3 z3
  go_wp2_with fail
  refine (HRW.out _ (HNM.out _ HF4.out.just) HF4.out.rd).mono ?_
  rintro e w5 ⟨V1, rfl, ho5, hr5, hj5⟩
  have f5 := HF4.out.rdr hr5 hj5
  have hl4 := lt_of_block HF4.out.row
  have ho5' := row_base ho5 (show w.heap.size + 2 ≤ w4.heap.size by omega)
  obtain ⟨A1, k1, rfl⟩ := row_slice ho5
  obtain ⟨c5, z5⟩ := f5.facts 2
  have HF5 := Lib.hid (f5.set 2 (.slice A1 lw.length k1))
  have HO5 := Lib.hid (row_stays ho5' (just_set w5 (w.heap.size + 1) 2 (.slice A1 lw.length k1)) (Nat.le_refl _))
  simp only [List.setIfInBounds_toArray, List.set_cons_zero, List.set_cons_succ, List.getElem?_toArray, List.getElem?_cons_zero, List.getElem?_cons_succ] at HF5 c5
  clear ho5 ho5' hr5 hj5 f5 HF4 hl4
  go_wp2_with fail
  refine (HC1.out _ (HNM.out _ HF5.out.just) HF5.out.rd).mono ?_
  rintro e w6 ⟨rfl, hr6, hj6⟩
  have HF6 := Lib.hid (HF5.out.rdr hr6 hj6)
  have HO6 := Lib.hid (row_stays HO5.out hj6 (by have := HF5.out.gl; omega))
  clear hr6 hj6 HF5 HO5 c5 z5
  go_wp2_with fail
  refine (HRN.out _ (HNM.out _ HF6.out.just) HF6.out.rd).mono ?_
  rintro e w7 ⟨V2, rfl, ho7, hr7, hj7⟩
  have f7 := HF6.out.rdr hr7 hj7
  have hl6 := lt_of_block HF6.out.row
  have ho7' := row_base ho7 (show w.heap.size + 2 ≤ w6.heap.size by omega)
  have hw7 := row_stays HO6.out hj7 (by have := HF6.out.gl; omega)
  obtain ⟨A2, k2, rfl⟩ := row_slice ho7
  obtain ⟨c7, z7⟩ := f7.facts 3
  have HF7 := Lib.hid (f7.set 3 (.slice A2 ln.length k2))
  have HO7 := Lib.hid (row_stays ho7' (just_set w7 (w.heap.size + 1) 3 (.slice A2 ln.length k2)) (Nat.le_refl _))
  have HW7 := Lib.hid (row_stays hw7 (just_set w7 (w.heap.size + 1) 3 (.slice A2 ln.length k2)) (Nat.le_refl _))
  simp only [List.setIfInBounds_toArray, List.set_cons_zero, List.set_cons_succ, List.getElem?_toArray, List.getElem?_cons_zero, List.getElem?_cons_succ] at HF7 c7
  have d0 := (HF7.out.facts 0).1
  have d1 := (HF7.out.facts 1).1
  have d2 := (HF7.out.facts 2).1
  have d3 := (HF7.out.facts 3).1
  simp only [List.getElem?_toArray, List.getElem?_cons_zero, List.getElem?_cons_succ] at d0 d1 d2 d3
  have HRES := Lib.hid HF7.out.res
  have HONE : Hid ((#[Value.int .i64 id, .int .i64 fr, .slice A1 lw.length k1, .slice A2 ln.length k2] : Array Value).all (·.oneCell') = true) := by show _ = _; simp [Value.oneCell']
  unfold scZ at HRES
  clear ho7 ho7' hw7 hr7 hj7 f7 HF6 HO6 hl6
  go_wp2_with ((with_reducible show wpList _ _ _ _ _ _); refine wpList_store_row rfl 51 (.tmp 4) (.tmp 36) rfl w.heap.size #[.int .i64 id, .int .i64 fr, .slice A1 lw.length k1, .slice A2 ln.length k2] rfl rfl 51 #[.int .i64 0, .int .i64 0, .slice none 0 0, .slice none 0 0] HRES.out (by rw [HSIZ.out]; rfl) rfl HONE.out ?_)
  refine bodyPost_ret (v := .agg #[.int .i64 id, .int .i64 fr, .slice A1 lw.length k1, .slice A2 ln.length k2]) (results_cell_row (by rfl) _ _ w.heap.size 51 _ (0, 0) _ rfl (setRow_heap _ _ _ _ _ _ HRES.out) Tryd.underlying51 rfl (by rw [HSIZ.out]; rfl)) rfl ?_
  exact ⟨_, _, rfl, row_base (row_stays HW7.out (just_setRow _ _ _) (by omega)) (by omega), row_base (row_stays HO7.out (just_setRow _ _ _) (by omega)) (by omega), IsRdr.pokeRow HF7.out.rd HRES.out (by decide) (by decide) _, Just.pokeRow HF7.out.just _ _ (Nat.le_refl _)⟩
end Go.Proofs.YtbcjkongcnpdlaaDoor.Scd

namespace Go.Proofs.YtbcjkongcnpdlaaDoor.Scd

open Go.RowKit Go.PlainAid Go.Proofs.YtbcjkongcnpdlaaDoor.Oct Go.Proofs.YtbcjkongcnpdlaaDoor.Flt Go.Proofs.YtbcjkongcnpdlaaDoor.Rdr Go.Proofs.YtbcjkongcnpdlaaDoor.Act

set_option linter.unusedVariables false

set_option linter.unusedSimpArgs false

/-- The reader, and what is read, behind so many rounds. -/
def itS (t : St) : Nat → St × List SC
  | 0 => (t, [])
  | i + 1 => if (itS t i).1.k = 0 then (onS (itS t i).1 (lastS (itS t i).2), (itS t i).2 ++ [onV (itS t i).1 (lastS (itS t i).2)]) else itS t i
theorem itS_stay (t : St) (i : Nat) (h : (itS t i).1.k ≠ 0) : ∀ j, itS t (i + j) = itS t i
  | 0 => rfl
  | j + 1 => by
    have := itS_stay t i h j
    rw [show i + (j + 1) = (i + j) + 1 by omega, itS, this, if_neg h]
theorem itS_len (t : St) : ∀ i, (itS t i).2.length ≤ i
  | 0 => Nat.le_refl _
  | i + 1 => by
    have := itS_len t i
    rw [itS]; split <;> (simp; try omega)
theorem ok_itS {t : St} (h : Ok t) : ∀ i, Ok (itS t i).1
  | 0 => h
  | i + 1 => by
    have h1 := ok_itS h i
    have h2 := ok_on h1 (lastS (itS t i).2)
    rw [itS]
    by_cases h0 : (itS t i).1.k = 0
    · rw [if_pos h0]
      with_reducible exact h2
    · rw [if_neg h0]
      with_reducible exact h1
def scL (q : SC × Value × Value) : List Value := [.int .i64 q.1.id, .int .i64 q.1.fr, q.2.1, q.2.2]
def flatS (L : List (SC × Value × Value)) : List Value := L.flatMap scL
theorem flatS_snoc (L : List (SC × Value × Value)) (q : SC × Value × Value) : flatS (L ++ [q]) = flatS L ++ scL q := by simp [flatS]
/-- Within Read: the reader, the row so far and the rows of its windows and needs. -/
structure RP (g : Nat) (t : St) (L : List (SC × Value × Value)) (V : Value) (w wr : World) : Prop where
  rd : IsRdr wr g t
  own : wr.ownsRow w.heap.size 51 4 V L.length (flatS L)
  subW : ∀ q ∈ L, wr.ownsRow w.heap.size 59 3 q.2.1 q.1.ws.length (flatA q.1.ws)
  subN : ∀ q ∈ L, wr.ownsRow w.heap.size 68 3 q.2.2 q.1.ns.length (flatA q.1.ns)
  just : Just g w wr
  gl : g < w.heap.size
theorem RP.rdr {g : Nat} {t t' : St} {L : List (SC × Value × Value)} {V : Value} {w wr w' : World} (f : RP g t L V w wr) (hr : IsRdr w' g t') (j : Just g wr w') : RP g t' L V w w' := by
  have h1 := f.gl
  exact ⟨hr, row_beside f.own j fun k hk => (by have := (f.own.lt k hk).1; omega), fun q hq => row_beside (f.subW q hq) j fun k hk => (by have := ((f.subW q hq).lt k hk).1; omega), fun q hq => row_beside (f.subN q hq) j fun k hk => (by have := ((f.subN q hq).lt k hk).1; omega), f.just.trans j, h1⟩
theorem RP.keep {g : Nat} {t : St} {L : List (SC × Value × Value)} {V : Value} {w wr w' : World} (f : RP g t L V w wr) (b : Below wr.heap.size wr w') : RP g t L V w w' := f.rdr (f.rd.kept b) (Just.of_below b)
theorem row_grown {w wr w' : World} {B n m : Nat} {T : TypeId} {V u : Value} {xs ys : List Value} (hT : T ≠ 51) (f : wr.ownsRow B 51 4 V n xs) (h : wr.ownsRow B T 3 u m ys) (hg : wr.grownBy w' V.ownBlock) : w'.ownsRow B T 3 u m ys := h.kept hg (by
  cases hu : u.ownBlock with
  | none => exact .inl rfl
  | some k =>
    refine .inr fun e => ?_
    obtain ⟨c1, e1⟩ := Prt.own_block h hu
    obtain ⟨c2, e2⟩ := Prt.own_block f e.symm
    rw [e1] at e2
    simp only [Option.some.injEq, Obj.cells.injEq] at e2
    exact absurd e2.2.1 hT)
theorem RP.grown {g : Nat} {t : St} {L : List (SC × Value × Value)} {q : SC × Value × Value} {V V' : Value} {w wr w' : World} {n : Nat} (f : RP g t L V w wr) (hW : wr.ownsRow w.heap.size 59 3 q.2.1 q.1.ws.length (flatA q.1.ws)) (hN : wr.ownsRow w.heap.size 68 3 q.2.2 q.1.ns.length (flatA q.1.ns)) (hg : wr.grownBy w' V.ownBlock) (hn : n = (L ++ [q]).length)
    (ho : w'.ownsRow w.heap.size 51 4 V' n (flatS L ++ scL q)) : RP g t (L ++ [q]) V' w w' := by
  have h1 := f.gl
  have hne : ∀ k, k < w.heap.size → some k ≠ V.ownBlock := fun k hk e => by have := (f.own.lt k e.symm).1; omega
  refine ⟨?_, by rw [← hn, flatS_snoc]; exact ho, fun p hp => ?_, fun p hp => ?_, ?_, h1⟩
  · obtain ⟨y, hy, hw⟩ := f.rd
    refine ⟨y, (hg.block g (lt_of_block hy) (hne g h1)).trans hy, hw.kept fun k cs hk => hg.block k (lt_of_block hk) fun e => ?_⟩
    obtain ⟨c2, e2⟩ := Prt.own_block f.own e.symm
    rw [hk] at e2
    simp only [Option.some.injEq, Obj.cells.injEq] at e2
    exact absurd e2.2.1 (by decide)
  · rcases List.mem_append.1 hp with h | h
    · exact row_grown (w := w) (by decide) f.own (f.subW p h) hg
    · obtain rfl : p = q := by simpa using h
      exact row_grown (w := w) (by decide) f.own hW hg
  · rcases List.mem_append.1 hp with h | h
    · exact row_grown (w := w) (by decide) f.own (f.subN p h) hg
    · obtain rfl : p = q := by simpa using h
      exact row_grown (w := w) (by decide) f.own hN hg
  · exact ⟨hg.os.trans f.just.os, hg.tape.trans f.just.tape, hg.output.trans f.just.output, Nat.le_trans f.just.size hg.size, fun k hk hkg => (hg.block k (Nat.lt_of_lt_of_le hk f.just.size) (hne k hk)).trans (f.just.block k hk hkg)⟩
def rdS (t : St) (n : Nat) : St := (itS (secS t 3) n).1
def rdL (t : St) (n : Nat) : List SC := (itS (secS t 3) n).2
def KPost (g : Nat) (t : St) (l : List SC) (w : World) (e : Ending) (w' : World) : Prop :=
  (t.k ≠ 0 ∧ ∃ x, e = .returned (.tuple #[.slice none 0 0, x]) ∧ Wrong w' x t.k t.fs t.fa ∧ IsRdr w' g t ∧ Just g w w') ∨ (t.k = 0 ∧ ∃ V L, e = .returned (.tuple #[V, .nilIface]) ∧ L.map Prod.fst = l ∧ RP g t L V w w')
def KRel (g : Nat) (t : St) (n : Nat) (w : World) (v last i : Value) (wr : World) : Prop :=
  ∃ (k : Nat) (L : List (SC × Value × Value)), k ≤ n ∧ i = .int .i64 k ∧ last = .int .i64 (lastS (itS t k).2) ∧ L.map Prod.fst = (itS t k).2 ∧ RP g (itS t k).1 L v w wr
theorem infoSc : (Tryd.prog.info? 51).map (fun i => (i.zero, i.size, i.bytes)) = some (some (.agg #[.int .i64 0, .int .i64 0, .slice none 0 0, .slice none 0 0]), 4, 64) := by kernel_rfl
set_option maxRecDepth 8000 in
set_option maxHeartbeats 3200000 in
theorem sread_any (g : Nat) (t : St) (n : Int) (w : World) (hn : Names w) (h : IsRdr w g t) (ho : Ok t) (hL : ∀ k, k ≤ n.toNat → (itS (secS t 3) k).1.k = 0 → k ≤ 1099511627776) :
    Calls Tryd.prog 13 #[.pointer (some ⟨g, 0, none⟩), .int .i64 n] w (KPost g (rdS t n.toNat) (rdL t n.toNat) w) := by
  obtain ⟨i0, hi, hz0, hz1, hz2⟩ := info_parts infoSc
  have HN := Lib.hid hn
  have HR := Lib.hid h
  have HGL : Hid (g < w.heap.size) := h.lt
  have HEN := Lib.hid (enter_any g t 3 w h)
  have ho2 : Ok (secS t 3) := ho
  have HP : Hid (rdS t n.toNat = (itS (secS t 3) n.toNat).1) := rfl
  have HL : Hid (rdL t n.toNat = (itS (secS t 3) n.toNat).2) := rfl
  obtain ⟨T, hT⟩ : ∃ x, secS t 3 = x := ⟨_, rfl⟩
  rw [hT] at HEN HP HL ho2 hL
  have HOK := Lib.hid (fun i => ok_itS ho2 i)
  rw [HP.out, HL.out]
  obtain ⟨N, hN⟩ : ∃ N, n.toNat = N := ⟨_, rfl⟩
  have HNN := Lib.hid hN
  rw [hN] at hL ⊢
  have HLL := Lib.hid hL
  have HSIZ := Lib.hid size_sc
  clear hT HP HL ho2 hn h ho hN hL
  go_enter Tryd.func13, Tryd.ntmps13
  go_wp2_with fail
  refine HEN.out.mono ?_
  rintro e w1 ⟨rfl, hr1, hj1⟩
  have hrp : RP g (itS T 0).1 [] (.slice none 0 0) w w1 := ⟨hr1, World.ownsRow_nil _ _ _ _, fun q hq => (by simp at hq), fun q hq => (by simp at hq), hj1, HGL.out⟩
  have HRP := Lib.hid hrp
  clear hrp hr1 hj1 HEN
  go_wp2_with fail
  go_loopw [6, 7, 8] (fun v last i wr => KRel g T N w v last i wr) (fun _ _ i _ => N - (intOf i).toNat)
  case atStart => exact ⟨0, [], Nat.zero_le _, rfl, rfl, rfl, HRP.out⟩
  case round =>
    obtain ⟨k, L, hk, rfl, rfl, hL, hf⟩ := hrel
    have HF := Lib.hid hf
    clear hf HRP
    have HLE : Hid (L.length ≤ k) := by show _ ≤ _; rw [← List.length_map (f := Prod.fst), hL]; exact itS_len T k
    by_cases hlt : k < N
    · have hkn : (k : Int) < n := by have := HNN.out; omega
      by_cases hk0 : (itS T k).1.k = 0
      · have HE := Lib.hid (err_ok g _ _ HF.out.rd hk0)
        have hkb := HLL.out k hk hk0
        have HNX : Hid (itS T (k + 1) = (onS (itS T k).1 (lastS (itS T k).2), (itS T k).2 ++ [onV (itS T k).1 (lastS (itS T k).2)])) := by show _ = _; rw [itS, if_pos hk0]
        have HO1 := Lib.hid (one_any g _ (lastS (itS T k).2) _ (Rdr.Names.just HN.out HR.out HF.out.just) HF.out.rd (HOK.out k))
        have HLS := Lib.hid hL
        obtain ⟨tk, htk⟩ : ∃ x, (itS T k).1 = x := ⟨_, rfl⟩
        obtain ⟨lk, hlk⟩ : ∃ x, (itS T k).2 = x := ⟨_, rfl⟩
        rw [htk] at HF
        rw [htk, hlk] at HNX HO1
        rw [hlk] at HLS ⊢
        obtain ⟨la, hla⟩ : ∃ x, lastS lk = x := ⟨_, rfl⟩
        rw [hla] at HNX HO1 ⊢
        obtain ⟨t1, ht1⟩ : ∃ x, onS tk la = x := ⟨_, rfl⟩
        obtain ⟨x, hx⟩ : ∃ x, onV tk la = x := ⟨_, rfl⟩
        rw [ht1, hx] at HNX HO1
        clear hL hk0 htk hlk hla ht1 hx
        go_wp2_with (first
          | (go_at_call 32; refine HE.out.mono ?_; rintro e w' ⟨rfl, rfl⟩))
        refine HO1.out.mono ?_
        rintro e w2 ⟨V1, V2, rfl, hoW, hoN, hr2, hj2⟩
        have f2 := HF.out.rdr hr2 hj2
        have hoW' := row_base hoW HF.out.just.size
        have hoN' := row_base hoN HF.out.just.size
        have hb8 : Below w2.heap.size w2 ((w2.alloc (.cells #[.int .i64 x.id, .int .i64 x.fr, V1, V2] 51)).alloc (.cells #[.int .i64 x.id, .int .i64 x.fr, V1, V2] 51)) := two_below w2 _ _
        obtain ⟨A1, k1, rfl⟩ := row_slice hoW
        obtain ⟨A2, k2, rfl⟩ := row_slice hoN
        have HRX := Lib.hid (f2.keep hb8)
        have HW8 := Lib.hid (row_beside hoW' (Just.of_below (g := w2.heap.size) hb8) fun k hk => by have := (hoW'.lt k hk).2; omega)
        have HN8 := Lib.hid (row_beside hoN' (Just.of_below (g := w2.heap.size) hb8) fun k hk => by have := (hoN'.lt k hk).2; omega)
        have HS2 := Lib.hid f2.just.size
        clear hr2 hj2 f2 hoW hoN hoW' hoN' hb8 HO1 HE
        go_wp2_with (at_builtin; refine wpList_append_own _ rfl _ _ 23 rfl w.heap.size 51 i0 (.agg #[.int .i64 0, .int .i64 0, .slice none 0 0, .slice none 0 0]) 4 64 Tryd.underlying23 hi hz0 hz1 hz2 rfl (by decide) _ L.length _ rfl HRX.out.own ⟨w2.heap.size + 1, 0, none⟩ 1 1 [.int .i64 x.id, .int .i64 x.fr, .slice A1 x.ws.length k1, .slice A2 x.ns.length k2] rfl rfl ?c1 ?c2 ?c3 ?c4 ?c5 ?_)
        case c1 =>
          intro j u hj
          have hrow := Hdr.second_new w2 (.cells #[.int .i64 x.id, .int .i64 x.fr, .slice A1 x.ws.length k1, .slice A2 x.ns.length k2] 51) (.cells #[.int .i64 x.id, .int .i64 x.fr, .slice A1 x.ws.length k1, .slice A2 x.ns.length k2] 51)
          have e : (Addr.mk (w2.heap.size + 1) 0 none).add j = ⟨w2.heap.size + 1, j, none⟩ := by cases j <;> simp [Addr.add]
          rw [e, cell_of_row _ _ _ _ _ _ hrow, ← hj]
          simp
        case c2 => intro u hu; simp at hu; rcases hu with rfl | rfl | rfl | rfl <;> rfl
        case c3 => have := HLE.out; unfold maxLen; omega
        case c4 => have := HLE.out; omega
        case c5 => exact HRX.out.just.size
        intro v' w7 ho7 hg7 _
        have HF9 := Lib.hid (HRX.out.grown (q := (x, .slice A1 x.ws.length k1, .slice A2 x.ns.length k2)) HW8.out HN8.out hg7 (by simp) ho7)
        clear ho7 hg7
        have hk1 : IntKind.i64.wrap ((k : Int) + 1) = (k : Int) + 1 := IntWalk.i64_in _ (by omega)
        go_wp2
        go_roundw
        case rel => exact ⟨k + 1, L ++ [(x, .slice A1 x.ws.length k1, .slice A2 x.ns.length k2)], by omega, by go_num, by rw [HNX.out, lastS_snoc], by rw [HNX.out, List.map_append, HLS.out]; rfl, by rw [HNX.out]; exact HF9.out⟩
        case measure => simp [intOf]; omega
      · have HB := Lib.hid (err_bad g _ _ HF.out.rd hk0)
        have HE := Lib.hid (err_any g _ _ HF.out.rd)
        have HST := Lib.hid (itS_stay T k hk0 (N - k))
        rw [show k + (N - k) = N by omega] at HST
        have HK := Lib.hid hk0
        clear hk0
        go_wp2_with fail
        refine HB.out.mono ?_
        rintro e w' ⟨u, y, rfl, rfl⟩
        go_wp2_with fail
        refine HE.out.mono ?_
        rintro e w' ⟨x, hw, rfl, rfl⟩
        obtain ⟨u, y, rfl⟩ : ∃ u y, x = .iface u y := by
          rcases hw with ⟨h1, _⟩ | ⟨_, _, h3⟩
          · exact absurd h1 HK.out
          · exact err_of h3
        have HW := Lib.hid hw
        clear hw
        go_wp2
        go_ret2
        rw [HST.out]
        exact .inl ⟨HK.out, _, rfl, HW.out, HF.out.rd, HF.out.just⟩
    · obtain rfl : k = N := by omega
      have hkn : ¬ (k : Int) < n := by have := HNN.out; omega
      by_cases hk0 : (itS T k).1.k = 0
      · have HE := Lib.hid (err_ok g _ _ HF.out.rd hk0)
        have HK := Lib.hid hk0
        have HLS := Lib.hid hL
        clear hk0 hL
        go_wp2_with (first
          | (go_at_call 32; refine HE.out.mono ?_; rintro e w' ⟨rfl, rfl⟩))
        go_ret2
        exact .inr ⟨HK.out, _, L, rfl, HLS.out, HF.out⟩
      · have HE := Lib.hid (err_any g _ _ HF.out.rd)
        have HK := Lib.hid hk0
        clear hk0
        go_wp2_with fail
        refine HE.out.mono ?_
        rintro e w' ⟨x, hw, rfl, rfl⟩
        obtain ⟨u, y, rfl⟩ : ∃ u y, x = .iface u y := by
          rcases hw with ⟨h1, _⟩ | ⟨_, _, h3⟩
          · exact absurd h1 HK.out
          · exact err_of h3
        have HW := Lib.hid hw
        clear hw
        go_wp2
        go_ret2
        exact .inl ⟨HK.out, _, rfl, HW.out, HF.out.rd, HF.out.just⟩
end Go.Proofs.YtbcjkongcnpdlaaDoor.Scd

namespace Go.Proofs.YtbcjkongcnpdlaaDoor.Scd

open Go.RowKit Go.PlainAid Go.Proofs.YtbcjkongcnpdlaaDoor.Oct Go.Proofs.YtbcjkongcnpdlaaDoor.Flt Go.Proofs.YtbcjkongcnpdlaaDoor.Rdr Go.Proofs.YtbcjkongcnpdlaaDoor.Act

open Go.Proofs.YtbcjkongcnpdlaaDoor.Prt (take_snoc fb_all)

set_option linter.unusedVariables false

set_option linter.unusedSimpArgs false

abbrev R3 (M : ByteArray) (p : Nat) : St := ⟨M, p, 3, 0, 0, 0⟩
theorem need_so (t : St) (k a : Int) {b : Bool} (h : b = true) : needS b t k a = t := by unfold needS; rw [if_pos h]
theorem small_tk (l : List Nat) : Small (tkBy l) := by
  intro y hy
  obtain ⟨x, _, hx⟩ := List.mem_flatMap.1 hy
  exact small_low _ _ y hx
theorem small_row (x : A3) : Small (rowBy x) := (small_low _ _).append (small_tk _)
theorem small_rows (l : List A3) : Small (rowsBy l) := by
  intro y hy
  obtain ⟨x, _, hx⟩ := List.mem_flatMap.1 hy
  exact small_row x y hx
theorem small_sch (x : SC) : Small (schBy x) := (((((small_low _ _).append (small_tk _)).append (small_low _ _)).append (small_rows _)).append (small_low _ _)).append (small_rows _)
theorem small_textS (l : List SC) : Small (textS l) := by
  intro y hy
  obtain ⟨x, _, hx⟩ := List.mem_flatMap.1 hy
  exact small_sch x y hx
theorem tk_read (pre post : List Int) (v : Nat) (least : Int) (hv : v < 256 ^ 4) (ht : tkB (v : Int) least = true) (h1 : Small pre) (h2 : Small post) (M : ByteArray) (hM : strOfNums (pre ++ low v 4 ++ post) = M) (p : Nat) (hp : p = pre.length) :
    tkS (R3 M p) least = R3 M (p + 4) ∧ numV (R3 M p) 4 = v := by
  obtain ⟨n1, n2⟩ := num_read pre post v 4 (by omega) hv h1 h2 M hM p hp 3 0 0
  refine ⟨?_, n2⟩
  unfold tkS
  rw [n1, n2, need_so _ _ _ ht]
theorem cn_read (pre post : List Int) (v n : Nat) (most : Int) (hn : n = 1 ∨ n = 2) (hv : v < 256 ^ n) (ht : (v : Int) ≤ most) (h1 : Small pre) (h2 : Small post) (M : ByteArray) (hM : strOfNums (pre ++ low v n ++ post) = M) (p : Nat) (hp : p = pre.length) :
    cnS (R3 M p) n most = R3 M (p + n) ∧ cnV (R3 M p) n most = v := by
  obtain ⟨n1, n2⟩ := num_read pre post v n (by omega) hv h1 h2 M hM p hp 3 0 0
  have e : cnS (R3 M p) n most = R3 M (p + n) := by
    unfold cnS
    rw [n1, n2, need_so _ _ _ (decide_eq_true ht)]
  refine ⟨e, ?_⟩
  unfold cnV
  rw [e, if_pos rfl, n2]
theorem rw_read (pre post : List Int) (x : A3) (hr : rowB x = true) (h1 : Small pre) (h2 : Small post) (M : ByteArray) (hM : strOfNums (pre ++ rowBy x ++ post) = M) (p : Nat) (hp : p = pre.length) :
    rwS (R3 M p) = R3 M (p + 9) ∧ rwV (R3 M p) = x := by
  obtain ⟨⟨s0, s1⟩, ⟨p0, p1⟩, ⟨a0, a1⟩⟩ := rowB_in hr
  have ht := hr
  unfold rowB at ht
  simp only [Bool.and_eq_true] at ht
  obtain ⟨n1, n2⟩ := num_read pre (low x.p.toNat 4 ++ low x.a.toNat 4 ++ post) x.s.toNat 1 (by omega) (by omega) h1 (((small_low _ _).append (small_low _ _)).append h2) M (by rw [← hM]; simp [rowBy, tkBy]) p hp 3 0 0
  obtain ⟨t1, t2⟩ := tk_read (pre ++ low x.s.toNat 1) (low x.a.toNat 4 ++ post) x.p.toNat 0 (by omega) (by rw [show ((x.p.toNat : Nat) : Int) = x.p by omega]; exact ht.1.2) (h1.append (small_low _ _)) ((small_low _ _).append h2) M (by rw [← hM]; simp [rowBy, tkBy]) (p + 1) (by rw [List.length_append, low_length, hp])
  obtain ⟨u1, u2⟩ := tk_read (pre ++ low x.s.toNat 1 ++ low x.p.toNat 4) post x.a.toNat 0 (by omega) (by rw [show ((x.a.toNat : Nat) : Int) = x.a by omega]; exact ht.2) ((h1.append (small_low _ _)).append (small_low _ _)) h2 M (by rw [← hM]; simp [rowBy, tkBy]) (p + 1 + 4) (by simp only [List.length_append, low_length, hp])
  constructor
  · unfold rwS
    rw [n1, t1, u1]
  · unfold rwV
    rw [n2, n1, t2, t1, u2]
    obtain ⟨xs, xp, xa⟩ := x
    dsimp only at s0 p0 a0 ⊢
    congr 1
    all_goals omega
theorem rows_read (pre post : List Int) (l : List A3) (hr : ∀ y ∈ l, rowB y = true) (h1 : Small pre) (h2 : Small post) (M : ByteArray) (hM : strOfNums (pre ++ rowsBy l ++ post) = M) (p : Nat) (hp : p = pre.length) :
    ∀ k, k ≤ l.length → rwN (R3 M p) k = (R3 M (p + k * 9), l.take k)
  | 0, _ => by simp [rwN]
  | k + 1, hk => by
    have ih := rows_read pre post l hr h1 h2 M hM p hp k (by omega)
    have hx : l[k]? = some l[k] := List.getElem?_eq_getElem (by omega)
    obtain ⟨x, hxx⟩ : ∃ x, l[k] = x := ⟨_, rfl⟩
    rw [hxx] at hx
    have e : rowsBy l = rowsBy (l.take k) ++ rowBy x ++ rowsBy (l.drop (k + 1)) := by
      have e0 : l = l.take k ++ x :: l.drop (k + 1) := by
        rw [← hxx, ← List.drop_eq_getElem_cons (by omega), List.take_append_drop]
      conv => lhs; rw [e0]
      simp [rowsBy]
    obtain ⟨o1, o2⟩ := rw_read (pre ++ rowsBy (l.take k)) (rowsBy (l.drop (k + 1)) ++ post) x (hr x (List.mem_of_getElem? hx)) (h1.append (small_rows _)) ((small_rows _).append h2) M (by rw [← hM, e]; simp) (p + k * 9) (by rw [List.length_append, rowsBy_len, List.length_take, hp]; omega)
    rw [rwN, ih]
    dsimp only
    rw [o1, o2, take_snoc l k x hx, show p + k * 9 + 9 = p + (k + 1) * 9 by omega]
set_option maxHeartbeats 1000000 in
theorem one_read (pre post : List Int) (x : SC) (last : Int) (hr : rgS x = 0) (hl : last < x.id) (h1 : Small pre) (h2 : Small post) (M : ByteArray) (hM : strOfNums (pre ++ schBy x ++ post) = M) (p : Nat) (hp : p = pre.length) :
    onS (R3 M p) last = R3 M (p + (schBy x).length) ∧ onV (R3 M p) last = x := by
  obtain ⟨⟨i0, i1⟩, ⟨f0, f1⟩, hw, hwr, hn, hnr⟩ := rgS_in hr
  have hlen : (schBy x).length = 8 + x.ws.length * 9 + x.ns.length * 9 := by
    unfold schBy
    simp only [List.length_append, low_length, tkBy_len, rowsBy_len]
    simp; omega
  have hs : schBy x = low x.id.toNat 1 ++ (low x.fr.toNat 4 ++ (low x.ws.length 2 ++ (rowsBy x.ws ++ (low x.ns.length 1 ++ rowsBy x.ns)))) := by unfold schBy; simp [tkBy]
  rw [hs] at hM
  obtain ⟨n1, n2⟩ := num_read pre (low x.fr.toNat 4 ++ (low x.ws.length 2 ++ (rowsBy x.ws ++ (low x.ns.length 1 ++ rowsBy x.ns))) ++ post) x.id.toNat 1 (by omega) (by omega) h1 (((small_low _ _).append ((small_low _ _).append ((small_rows _).append ((small_low _ _).append (small_rows _))))).append h2) M (by rw [← hM]; simp) p hp 3 0 0
  have e1 : s1S (R3 M p) last = R3 M (p + 1) := by
    unfold s1S
    rw [n1, n2]
    exact need_so _ _ _ (decide_eq_true (by omega))
  obtain ⟨t1, t2⟩ := tk_read (pre ++ low x.id.toNat 1) ((low x.ws.length 2 ++ (rowsBy x.ws ++ (low x.ns.length 1 ++ rowsBy x.ns))) ++ post) x.fr.toNat 1 (by omega) (by unfold tkB; simp; omega) (h1.append (small_low _ _)) (((small_low _ _).append ((small_rows _).append ((small_low _ _).append (small_rows _)))).append h2) M (by rw [← hM]; simp) (p + 1) (by rw [List.length_append, low_length, hp])
  have e2 : s2S (R3 M p) last = R3 M (p + 5) := by unfold s2S; rw [e1, t1]
  obtain ⟨c1, c2⟩ := cn_read (pre ++ low x.id.toNat 1 ++ low x.fr.toNat 4) ((rowsBy x.ws ++ (low x.ns.length 1 ++ rowsBy x.ns)) ++ post) x.ws.length 2 256 (by omega) (by omega) (by omega) ((h1.append (small_low _ _)).append (small_low _ _)) (((small_rows _).append ((small_low _ _).append (small_rows _))).append h2) M (by rw [← hM]; simp) (p + 5) (by simp only [List.length_append, low_length, hp])
  have e3 : s3S (R3 M p) last = R3 M (p + 7) := by unfold s3S; rw [e2, c1]
  have hr1 := rows_read (pre ++ low x.id.toNat 1 ++ low x.fr.toNat 4 ++ low x.ws.length 2) ((low x.ns.length 1 ++ rowsBy x.ns) ++ post) x.ws hwr (((h1.append (small_low _ _)).append (small_low _ _)).append (small_low _ _)) (((small_low _ _).append (small_rows _)).append h2) M (by rw [← hM]; simp) (p + 7) (by simp only [List.length_append, low_length, hp]) x.ws.length (Nat.le_refl _)
  rw [List.take_length] at hr1
  have e4 : s4S (R3 M p) last = (R3 M (p + 7 + x.ws.length * 9), x.ws) := by unfold s4S; rw [e3, e2, c2, hr1]
  obtain ⟨k1, k2⟩ := cn_read (pre ++ low x.id.toNat 1 ++ low x.fr.toNat 4 ++ low x.ws.length 2 ++ rowsBy x.ws) (rowsBy x.ns ++ post) x.ns.length 1 32 (by omega) (by omega) (by omega) ((((h1.append (small_low _ _)).append (small_low _ _)).append (small_low _ _)).append (small_rows _)) ((small_rows _).append h2) M (by rw [← hM]; simp) (p + 7 + x.ws.length * 9) (by simp only [List.length_append, low_length, rowsBy_len, hp])
  have e5 : s5S (R3 M p) last = R3 M (p + 7 + x.ws.length * 9 + 1) := by unfold s5S; rw [e4]; exact k1
  have hr2 := rows_read (pre ++ low x.id.toNat 1 ++ low x.fr.toNat 4 ++ low x.ws.length 2 ++ rowsBy x.ws ++ low x.ns.length 1) post x.ns hnr (((((h1.append (small_low _ _)).append (small_low _ _)).append (small_low _ _)).append (small_rows _)).append (small_low _ _)) h2 M (by rw [← hM]; simp) (p + 7 + x.ws.length * 9 + 1) (by simp only [List.length_append, low_length, rowsBy_len, hp]) x.ns.length (Nat.le_refl _)
  rw [List.take_length] at hr2
  have e6 : s6S (R3 M p) last = (R3 M (p + 7 + x.ws.length * 9 + 1 + x.ns.length * 9), x.ns) := by
    unfold s6S
    rw [e5, e4]
    dsimp only
    rw [k2, hr2]
  constructor
  · unfold onS
    rw [e6, hlen, show p + (8 + x.ws.length * 9 + x.ns.length * 9) = p + 7 + x.ws.length * 9 + 1 + x.ns.length * 9 by omega]
  · unfold onV
    rw [n2, e1, t2, e4, e6]
    obtain ⟨id, fr, ws, ns⟩ := x
    dsimp only at i0 f0 ⊢
    congr 1
    all_goals omega
theorem lastS_lt {l : List SC} (h : (badS l).1 = 0) (k : Nat) (x : SC) (hx : l[k]? = some x) : lastS (l.take k) < x.id := by
  have h0 := fb_all b1S l [] h k x hx
  rw [List.nil_append] at h0
  unfold b1S at h0
  split at h0
  · split at h0
    · cases h0
    · omega
  · rename_i h1; exact absurd h0 h1
theorem text_read (l : List SC) (hb : (badS l).1 = 0) (M : ByteArray) (hM : strOfNums (textS l) = M) :
    ∀ k, k ≤ l.length → itS (R3 M 0) k = (R3 M (textS (l.take k)).length, l.take k)
  | 0, _ => by simp [itS, textS]
  | k + 1, hk => by
    have ih := text_read l hb M hM k (by omega)
    have hx : l[k]? = some l[k] := List.getElem?_eq_getElem (by omega)
    obtain ⟨x, hxx⟩ : ∃ x, l[k] = x := ⟨_, rfl⟩
    rw [hxx] at hx
    have e : textS l = textS (l.take k) ++ schBy x ++ textS (l.drop (k + 1)) := by
      have e0 : l = l.take k ++ x :: l.drop (k + 1) := by
        rw [← hxx, ← List.drop_eq_getElem_cons (by omega), List.take_append_drop]
      conv => lhs; rw [e0]
      simp [textS]
    obtain ⟨o1, o2⟩ := one_read (textS (l.take k)) (textS (l.drop (k + 1))) x (lastS (l.take k)) (badS_rg hb x (List.mem_of_getElem? hx)) (lastS_lt hb k x hx) (small_textS _) (small_textS _) M (by rw [← hM, e]) (textS (l.take k)).length rfl
    rw [itS, ih]
    dsimp only
    rw [if_pos rfl, o1, o2, take_snoc l k x hx, textS_snoc, List.length_append]
theorem scheds_read (l : List SC) (hb : (badS l).1 = 0) (M : ByteArray) (hM : strOfNums (textS l) = M) :
    rdS ⟨M, 0, 0, 0, 0, 0⟩ l.length = R3 M M.size ∧ rdL ⟨M, 0, 0, 0, 0, 0⟩ l.length = l := by
  have h := text_read l hb M hM l.length (Nat.le_refl _)
  rw [List.take_length] at h
  have hs : M.size = (textS l).length := by rw [← hM, strOfNums_size]
  unfold rdS rdL
  rw [show secS ⟨M, 0, 0, 0, 0, 0⟩ 3 = R3 M 0 from rfl, h, hs]
  exact ⟨rfl, rfl⟩
end Go.Proofs.YtbcjkongcnpdlaaDoor.Scd
