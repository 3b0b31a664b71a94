
/- Acts: what is wrong with them, and their bytes. It says nothing of the program. No condition. The order of acts, as the program and the document tell it; what an act may do, and what may be an id. No condition. What package acts' closure tells, what acts' numbers may be, and what is wrong first with acts. Condition: the variables hold what the program lays there; at most 1,000 acts. What is wrong first with acts, as the program tells it. Condition: the variables hold what the program lays there; at most 1,000 acts. What package acts' Put lays behind bytes. Condition: the variables hold what the program lays there; at most 1,000 acts, at most 2 to the power 30 bytes come in. What the document says of acts: their order, what is wrong with them, their bytes, and whether two rows are one. Condition: at most 1,000 acts. -/

import Derived.Test.YtlbpmbdogkfecaaDoorPrtF

import Derived.Test.YtlbpmbdogkfecaaDoorActR

import Derived.Test.YtlbpmbdogkfecaaDoorRdrR

import Derived.Test.YtlbpmbdogkfecaaDoorHdrC

import Derived.Test.YtlbpmbdogkfecaaDoorShelf

import Derived.Deep.RegionHeld3

import Derived.Test.YtlbpmbdogkfecaaDoorCnv

import Derived.BigQuiet

import Derived.BigRegion

namespace Go.Proofs.YtlbpmbdogkfecaaDoor.Act

open Go.RowKit Go.PlainAid Go.Proofs.YtlbpmbdogkfecaaDoor.Oct Go.Proofs.YtlbpmbdogkfecaaDoor.Flt Go.Proofs.YtlbpmbdogkfecaaDoor.Rdr Go.Proofs.YtlbpmbdogkfecaaDoor.Args

set_option linter.unusedVariables false

set_option linter.unusedSimpArgs false

/-- What is wrong first: its class, its place. -/
def b1A (pre : List A3) (x : A3) : Nat := bad1 (lastOf pre) x
def badA (l : List A3) : Nat × Int := Prt.fb b1A [] l
theorem b1_le (pre : List A3) (x : A3) : b1A pre x ≤ 18 := by
  unfold b1A bad1; repeat' split
  all_goals omega
def sec5 (k : Nat) : Int := if k = 0 then 0 else 5
/-- Acts' bytes. -/
def act1 (x : A3) : List Int := (low x.s.toNat 1 ++ low x.p.toNat 1) ++ low x.a.toNat 1
def actB (l : List A3) : List Int := l.flatMap act1
theorem actB_snoc (l : List A3) (x : A3) : actB (l ++ [x]) = actB l ++ act1 x := by simp [actB]
theorem act1_len (x : A3) : (act1 x).length = 3 := by unfold act1; simp [low_length]
theorem actB_len (l : List A3) : (actB l).length = l.length * 3 := by
  induction l with
  | nil => rfl
  | cons x l ih =>
    have : actB (x :: l) = act1 x ++ actB l := rfl
    rw [this, List.length_append, ih, act1_len, List.length_cons]
    omega
theorem small_act (x : A3) : Small (act1 x) := ((small_low _ _).append (small_low _ _)).append (small_low _ _)
theorem small_acts (l : List A3) : Small (actB l) := by
  intro y hy
  obtain ⟨x, _, hx⟩ := List.mem_flatMap.1 hy
  exact small_act x y hx
/-- What a right act is like. -/
theorem bad1_right {last x : A3} (h : bad1 last x = 0) : (0 ≤ x.s ∧ x.s ≤ 255) ∧ (0 ≤ x.p ∧ x.p ≤ 255) ∧ (x.a = 1 ∨ x.a = 2) ∧ lessB last x = true := by
  unfold bad1 at h
  split at h
  · cases h
  · rename_i h1
    split at h
    · cases h
    · rename_i h2
      split at h
      · cases h
      · rename_i h3
        simp [idB, formB] at h1 h2 h3
        refine ⟨by omega, by omega, by omega, h3⟩
theorem bad_right {l : List A3} (h : (badA l).1 = 0) (i : Nat) (x : A3) (hx : l[i]? = some x) : bad1 (lastOf (l.take i)) x = 0 := by
  have := Prt.fb_all b1A l [] h i x hx
  rw [List.nil_append] at this
  exact this
/-- What acts' bytes are read as. -/
abbrev RA5 (M : ByteArray) (p : Nat) : St := ⟨M, p, 5, 0, 0, 0⟩
theorem need_yes (t : St) (k a : Int) {b : Bool} (h : b = true) : needS b t k a = t := by unfold needS; rw [if_pos h]
theorem one_read (pre post : List Int) (x last : A3) (hr : bad1 last x = 0) (h1 : Small pre) (h2 : Small post) (M : ByteArray) (hM : strOfNums (pre ++ act1 x ++ post) = M) (p : Nat) (hp : p = pre.length) :
    aS (RA5 M p) last = RA5 M (p + 3) ∧ aV (RA5 M p) = x := by
  obtain ⟨⟨s0, s1⟩, ⟨p0, p1⟩, ha, hl⟩ := bad1_right hr
  obtain ⟨n1, n2⟩ := num_read pre (low x.p.toNat 1 ++ low x.a.toNat 1 ++ post) x.s.toNat 1 (by omega) (by omega) h1 (((small_low _ _).append (small_low _ _)).append h2) M (by rw [← hM]; simp [act1]) p hp 5 0 0
  obtain ⟨n3, n4⟩ := num_read (pre ++ low x.s.toNat 1) (low x.a.toNat 1 ++ post) x.p.toNat 1 (by omega) (by omega) (h1.append (small_low _ _)) ((small_low _ _).append h2) M (by rw [← hM]; simp [act1]) (p + 1) (by rw [List.length_append, low_length, hp]) 5 0 0
  obtain ⟨n5, n6⟩ := num_read (pre ++ low x.s.toNat 1 ++ low x.p.toNat 1) post x.a.toNat 1 (by omega) (by omega) ((h1.append (small_low _ _)).append (small_low _ _)) h2 M (by rw [← hM]; simp [act1]) (p + 1 + 1) (by simp only [List.length_append, low_length, hp]) 5 0 0
  have e2 : aS2 (RA5 M p) = RA5 M (p + 1 + 1) := by unfold aS2; rw [n1, n3]
  have ev : aV (RA5 M p) = x := by
    unfold aV
    rw [e2, n2, n1, n4, n6]
    obtain ⟨xs, xp, xa⟩ := x
    dsimp only at s0 p0 ha ⊢
    congr 1
    all_goals omega
  refine ⟨?_, ev⟩
  unfold aS
  rw [ev, hl, need_yes _ _ _ rfl]
  have hf : formB x.a = true := by unfold formB; rcases ha with h | h <;> simp [h]
  rw [hf, need_yes _ _ _ rfl]
  unfold aS3
  rw [e2, n5]
theorem text_read (l : List A3) (hb : (badA l).1 = 0) (M : ByteArray) (hM : strOfNums (actB l) = M) :
    ∀ k, k ≤ l.length → itA (RA5 M 0) k = (RA5 M (k * 3), l.take k)
  | 0, _ => by simp [itA]
  | k + 1, hk => by
    have ih := text_read l hb M hM k (by omega)
    have hx : l[k]? = some l[k] := List.getElem?_eq_getElem (by omega)
    obtain ⟨x, hxx⟩ : ∃ x, l[k] = x := ⟨_, rfl⟩
    rw [hxx] at hx
    have e : actB l = actB (l.take k) ++ act1 x ++ actB (l.drop (k + 1)) := by
      have e0 : l = l.take k ++ x :: l.drop (k + 1) := by
        rw [← hxx, ← List.drop_eq_getElem_cons (by omega), List.take_append_drop]
      conv => lhs; rw [e0]
      simp [actB]
    obtain ⟨o1, o2⟩ := one_read (actB (l.take k)) (actB (l.drop (k + 1))) x (lastOf (l.take k)) (bad_right hb k x hx) (small_acts _) (small_acts _) M (by rw [← hM, e]) (k * 3) (by rw [actB_len, List.length_take]; omega)
    rw [itA, ih]
    dsimp only
    rw [if_pos rfl, o1, o2, Prt.take_snoc l k x hx, show (k + 1) * 3 = k * 3 + 3 by omega]
def rdA (t : St) (n : Nat) : St := (itA (secS t 5) n).1
def rdL (t : St) (n : Nat) : List A3 := (itA (secS t 5) n).2
theorem acts_read (l : List A3) (hb : (badA l).1 = 0) (M : ByteArray) (hM : strOfNums (actB l) = M) :
    rdA ⟨M, 0, 0, 0, 0, 0⟩ l.length = RA5 M M.size ∧ rdL ⟨M, 0, 0, 0, 0, 0⟩ l.length = l := by
  have h := text_read l hb M hM l.length (Nat.le_refl _)
  rw [List.take_length] at h
  have hs : M.size = l.length * 3 := by rw [← hM, strOfNums_size, actB_len]
  unfold rdA rdL
  rw [show secS ⟨M, 0, 0, 0, 0, 0⟩ 5 = RA5 M 0 from rfl, h, hs]
  exact ⟨rfl, rfl⟩
end Go.Proofs.YtlbpmbdogkfecaaDoor.Act

namespace Go.Proofs.YtlbpmbdogkfecaaDoor.Act

open Go.RowKit Go.PlainAid Go.Proofs.YtlbpmbdogkfecaaDoor.Oct Go.Proofs.YtlbpmbdogkfecaaDoor.Flt Go.Proofs.YtlbpmbdogkfecaaDoor.Rdr Go.Proofs.YtlbpmbdogkfecaaDoor.Args

set_option linter.unusedVariables false

set_option linter.unusedSimpArgs false

theorem or_any (x y : Int) (g : Nat) (w : World) (h : w.heap[g]? = some (.cells #[.int .i64 x, .int .i64 y] 3 (0, 0))) :
    Calls Tryd.prog 30 #[.slice (some ⟨g, 0, none⟩) 2 2] w fun e w' => e = .returned (.int .i64 (if x = 0 then y else x)) ∧ w = w' := by
  have hc0 : w.cell? ⟨g, 0, none⟩ = some (.int .i64 x) := by rw [cell_of_row w _ _ _ _ _ h]; rfl
  have hc1 : w.cell? ⟨g, 1, none⟩ = some (.int .i64 y) := by rw [cell_of_row w _ _ _ _ _ h]; rfl
  clear h
  by_cases hx : x = 0
  · subst hx
    rw [if_pos rfl]
    by_cases hy : y = 0
    · subst hy
      go_enter Tryd.func30, Tryd.ntmps30
      go_wp2
      go_loop [8] (fun i => ∃ k : Nat, k ≤ 2 ∧ i = .int .i64 k) (fun i => 2 - (intOf i).toNat)
      case atStart => exact ⟨0, by omega, rfl⟩
      case round =>
        obtain ⟨k, hk, rfl⟩ := hrel
        rcases (show k = 0 ∨ k = 1 ∨ k = 2 by omega) with rfl | rfl | rfl
        · clear hk
          go_wp2
          go_round
          case rel => exact ⟨1, by omega, rfl⟩
          case measure => simp [intOf]
        · clear hk
          go_wp2
          go_round
          case rel => exact ⟨2, by omega, rfl⟩
          case measure => simp [intOf]
        · clear hk
          go_wp2
          go_ret
          exact ⟨rfl, rfl⟩
    · have t1 : (y != 0) = true := by simp; exact hy
      clear hy
      go_enter Tryd.func30, Tryd.ntmps30
      go_wp2
      go_loop [8] (fun i => ∃ k : Nat, k ≤ 1 ∧ i = .int .i64 k) (fun i => 2 - (intOf i).toNat)
      case atStart => exact ⟨0, by omega, rfl⟩
      case round =>
        obtain ⟨k, hk, rfl⟩ := hrel
        rcases (show k = 0 ∨ k = 1 by omega) with rfl | rfl
        · clear hk
          go_wp2
          go_round
          case rel => exact ⟨1, by omega, rfl⟩
          case measure => simp [intOf]
        · clear hk
          go_wp2
          go_ret
          exact ⟨rfl, rfl⟩
  · rw [if_neg hx]
    have t1 : (x != 0) = true := by simp; exact hx
    clear hx
    go_enter Tryd.func30, Tryd.ntmps30
    go_wp2
    go_loop [8] (fun i => i = .int .i64 0) (fun i => 2 - (intOf i).toNat)
    case atStart => rfl
    case round =>
      obtain rfl := hrel
      go_wp2
      go_ret
      exact ⟨rfl, rfl⟩

def actC (t : A3) : Array Value := #[.int .i64 t.s, .int .i64 t.p, .int .i64 t.a]
def cmpA (x y : A3) : Int := if Lib.compareInt x.s y.s = 0 then Lib.compareInt x.p y.p else Lib.compareInt x.s y.s
theorem cmp_less (x y : A3) : decide (cmpA x y < 0) = lessB x y := by
  unfold cmpA Lib.compareInt lessB
  rw [Bool.eq_iff_iff]
  simp only [decide_eq_true_eq, Bool.or_eq_true, Bool.and_eq_true, beq_iff_eq]
  split <;> (repeat' split at *) <;> omega
set_option maxRecDepth 4000 in
theorem compare_any (x y : A3) (w : World) :
    Calls Tryd.prog 17 #[.agg (actC x), .agg (actC y)] w fun e w' => e = .returned (.int .i64 (cmpA x y)) ∧ Below w.heap.size w w' := by
  unfold cmpA actC
  have H1 := Lib.hid (fun w => Tryd.cmp_Compare_int x.s y.s w)
  have H2 := Lib.hid (fun w => Tryd.cmp_Compare_int x.p y.p w)
  obtain ⟨a, ha⟩ : ∃ a, Lib.compareInt x.s y.s = a := ⟨_, rfl⟩
  obtain ⟨b, hb⟩ : ∃ b, Lib.compareInt x.p y.p = b := ⟨_, rfl⟩
  rw [ha] at H1 ⊢
  rw [hb] at H2 ⊢
  clear ha hb
  have HB := Lib.hid (fun o1 o2 => two_below w o1 o2)
  have HO : Hid (∀ (W : World) (g : Nat), W.heap[g]? = some (.cells #[.int .i64 a, .int .i64 b] 3 (0, 0)) → Calls Tryd.prog 30 #[.slice (some ⟨g, 0, none⟩) 2 2] W fun e w' => e = .returned (.int .i64 (if a = 0 then b else a)) ∧ W = w') := fun W g h => or_any a b g W h
  obtain ⟨z, hz⟩ : ∃ z, (if a = 0 then b else a) = z := ⟨_, rfl⟩
  rw [hz] at HO ⊢
  clear hz
  go_enter Tryd.func17, Tryd.ntmps17
  go_wp2_with fail
  generalize hW : ((w.alloc (.cells #[.int .i64 x.s, .int .i64 x.p, .int .i64 x.a] 30)).alloc (.cells #[.int .i64 y.s, .int .i64 y.p, .int .i64 y.a] 30)) = W
  have hra : W.heap[w.heap.size]? = some (.cells #[.int .i64 x.s, .int .i64 x.p, .int .i64 x.a] 30 (0, 0)) := by rw [← hW]; exact (heap_alloc_old _ _ (by simp)).trans (heap_alloc_new _ _)
  have hrb : W.heap[w.heap.size + 1]? = some (.cells #[.int .i64 y.s, .int .i64 y.p, .int .i64 y.a] 30 (0, 0)) := by rw [← hW]; exact Hdr.second_new w _ _
  have HBW : Hid (Below w.heap.size w W) := by show Below _ _ _; rw [← hW]; exact HB.out _ _
  have HCE : Hid (W.cell? ⟨w.heap.size, 0, none⟩ = some (.int .i64 x.s) ∧ W.cell? ⟨w.heap.size, 1, none⟩ = some (.int .i64 x.p) ∧ W.cell? ⟨w.heap.size + 1, 0, none⟩ = some (.int .i64 y.s) ∧ W.cell? ⟨w.heap.size + 1, 1, none⟩ = some (.int .i64 y.p)) := by
    refine ⟨?_, ?_, ?_, ?_⟩
    all_goals first
      | (rw [cell_of_row W _ _ _ _ _ hra]; rfl)
      | (rw [cell_of_row W _ _ _ _ _ hrb]; rfl)
  obtain ⟨q0, q1, q2, q3⟩ := HCE.out
  clear hW hra hrb
  go_region_held3 (fun wx => wx.cell? ⟨w.heap.size, 0, none⟩ = some (.int .i64 x.s) ∧ wx.cell? ⟨w.heap.size, 1, none⟩ = some (.int .i64 x.p) ∧ wx.cell? ⟨w.heap.size + 1, 0, none⟩ = some (.int .i64 y.s) ∧ wx.cell? ⟨w.heap.size + 1, 1, none⟩ = some (.int .i64 y.p)) (first | (go_keep; done) | exact HCE.out | (refine ⟨?_, ?_, ?_, ?_⟩ <;> assumption))
    (first
      | (go_at_call 31; (with_reducible first | (refine (H1.out _).mono ?_) | (refine (H2.out _).mono ?_)); rintro e w' ⟨rfl, rfl⟩)
      | (go_at_call 30; refine (HO.out ((W.alloc (.cells #[.int .i64 a, .int .i64 b] 3)).drew) W.heap.size (by exact heap_alloc_new W _)).mono ?_; rintro e w' ⟨rfl, rfl⟩))
  go_wp2
  go_ret
  exact ⟨rfl, HBW.out.trans ((Below.drew ((Below.refl _ _).alloc (Nat.le_refl _) (.cells #[.int .i64 a, .int .i64 b] 3))).mono HBW.out.size)⟩
end Go.Proofs.YtlbpmbdogkfecaaDoor.Act

namespace Go.Proofs.YtlbpmbdogkfecaaDoor.Act

open Go.RowKit Go.PlainAid Go.Proofs.YtlbpmbdogkfecaaDoor.Oct Go.Proofs.YtlbpmbdogkfecaaDoor.Flt Go.Proofs.YtlbpmbdogkfecaaDoor.Rdr Go.Proofs.YtlbpmbdogkfecaaDoor.Args

open Go.Proofs.YtlbpmbdogkfecaaDoor.Prt (fb fb_step fb_end take_snoc)

set_option linter.unusedVariables false

set_option linter.unusedSimpArgs false

theorem less_any (x y : A3) (w : World) :
    Calls Tryd.prog 9 #[.agg (actC x), .agg (actC y)] w fun e w' => e = .returned (.bool (lessB x y)) ∧ Below w.heap.size w w' := by
  have H1 := Lib.hid (fun w => compare_any x y w)
  have HL := Lib.hid (cmp_less x y)
  obtain ⟨c, hc⟩ : ∃ c, cmpA x y = c := ⟨_, rfl⟩
  rw [hc] at H1 HL
  obtain ⟨b, hb⟩ : ∃ b, lessB x y = b := ⟨_, rfl⟩
  rw [hb] at HL ⊢
  have HB := Lib.hid (fun o1 o2 => two_below w o1 o2)
  have ht := HL.out
  unfold actC at H1 ⊢
  clear hc hb
  go_enter Tryd.func9, Tryd.ntmps9
  go_wp2_with (go_at_call 17; refine (H1.out _).mono ?_; rintro e w' ⟨rfl, hb2⟩; have HB2 := Lib.hid ((HB.out _ _).trans (hb2.mono (HB.out _ _).size)); clear hb2)
  go_ret
  exact ⟨rfl, HB2.out⟩
theorem size_act : (Tryd.prog.info? 30).map (·.size) = some 3 := by kernel_rfl
theorem one_act (x y z : Int) : (#[Value.int .i64 x, .int .i64 y, .int .i64 z] : Array Value).all (·.oneCell') = true := by simp [Value.oneCell']
def CV (L : Nat) : Value := .func (.func 33) #[] #[.pointer (some ⟨L, 0, none⟩)]
theorem rising_any (w : World) :
    Calls Tryd.prog 23 #[] w fun e w' => e = .returned (CV w.heap.size) ∧ w'.heap[w.heap.size]? = some (.cells (actC a0) 30 (0, 0)) ∧ Below w.heap.size w w' := by
  unfold CV
  have HN := Lib.hid (heap_alloc_new w (.cells #[.int .i64 0, .int .i64 0, .int .i64 0] 30))
  have HB : Hid (∀ o, Below w.heap.size w (w.alloc o)) := fun o => (Below.refl _ _).alloc (Nat.le_refl _) o
  go_enter Tryd.func23, Tryd.ntmps23
  go_wp2
  go_ret
  exact ⟨rfl, heap_alloc_new _ _, HB.out _⟩
theorem above_any (L : Nat) (last x : A3) (w : World) (h : w.heap[L]? = some (.cells (actC last) 30 (0, 0))) :
    Calls Tryd.prog 33 #[.agg (actC x), .pointer (some ⟨L, 0, none⟩)] w fun e w' => e = .returned (.bool (lessB last x)) ∧ w'.heap[L]? = some (.cells (actC x) 30 (0, 0)) ∧ Just L w w' := by
  have H1 := Lib.hid (fun w => less_any last x w)
  obtain ⟨b, hb⟩ : ∃ b, lessB last x = b := ⟨_, rfl⟩
  rw [hb] at H1 ⊢
  have HH := Lib.hid ((heap_alloc_old w (.cells (actC x) 30) (lt_of_block h)).trans h)
  have HX := Lib.hid (heap_alloc_new w (.cells (actC x) 30))
  have HB : Hid (Below w.heap.size w (w.alloc (.cells (actC x) 30))) := (Below.refl w.heap.size w).alloc (Nat.le_refl _) _
  have HSIZ := Lib.hid size_act
  have HLT : Hid (L < w.heap.size) := lt_of_block h
  have HONE := Lib.hid (one_act x.s x.p x.a)
  unfold actC at H1 HH HX HB ⊢
  clear hb h
  go_enter Tryd.func33, Tryd.ntmps33
  go_wp2_with (first
    | ((with_reducible show wpList _ _ _ _ _ _); refine wpList_load_row rfl 30 (.tmp 1) rfl L rfl 30 _ (0, 0) _ HH.out Tryd.underlying30 rfl (by rw [HSIZ.out]; rfl) ?_)
    | ((with_reducible show wpList _ _ _ _ _ _); refine wpList_store_row rfl 30 (.tmp 1) (.tmp 8) rfl L #[.int .i64 x.s, .int .i64 x.p, .int .i64 x.a] rfl rfl 30 #[.int .i64 last.s, .int .i64 last.p, .int .i64 last.a] HH2.out (by rw [HSIZ.out]; rfl) rfl HONE.out ?_)
    | (go_at_call 9; refine (H1.out _).mono ?_; rintro e w' ⟨rfl, hb2⟩; have HB2 := Lib.hid (HB.out.trans (hb2.mono HB.out.size)); have HH2 := Lib.hid ((hb2.block _ (lt_of_block HH.out)).trans HH.out); have HX2 := Lib.hid ((hb2.block _ (lt_of_block HX.out)).trans HX.out); have hx := HX2.out; have e0 := cell_of_row w' _ 0 _ _ _ hx; have e1 := cell_of_row w' _ 1 _ _ _ hx; have e2 := cell_of_row w' _ 2 _ _ _ hx; simp only [List.getElem?_toArray, List.getElem?_cons_zero, List.getElem?_cons_succ] at e0 e1 e2; clear hb2 hx))
  go_ret
  exact ⟨rfl, setRow_heap _ _ _ _ _ _ HH2.out, (Just.of_below HB2.out).trans ⟨rfl, rfl, rfl, (by simp), fun k hk hne => setRow_other _ _ _ _ hne⟩⟩
theorem isAction_any (n : Int) (w : World) : Calls Tryd.prog 28 #[.int .i64 n] w fun e w' => e = .returned (.bool (formB n)) ∧ w = w' := by
  unfold formB
  cases h1 : (n == 1)
  · cases h2 : (n == 2)
    all_goals
      go_enter Tryd.func28, Tryd.ntmps28
      go_wp2
      go_ret
      exact ⟨rfl, rfl⟩
  · go_enter Tryd.func28, Tryd.ntmps28
    go_wp2
    go_ret
    exact ⟨rfl, rfl⟩
end Go.Proofs.YtlbpmbdogkfecaaDoor.Act

namespace Go.Proofs.YtlbpmbdogkfecaaDoor.Act

open Go.RowKit Go.PlainAid Go.Proofs.YtlbpmbdogkfecaaDoor.Oct Go.Proofs.YtlbpmbdogkfecaaDoor.Flt Go.Proofs.YtlbpmbdogkfecaaDoor.Rdr Go.Proofs.YtlbpmbdogkfecaaDoor.Args

open Go.Proofs.YtlbpmbdogkfecaaDoor.Prt (fb fb_step fb_end take_snoc)

set_option linter.unusedVariables false

set_option linter.unusedSimpArgs false

theorem below_just {B L : Nat} {a w w' : World} (h : Below B a w) (j : Just L w w') (hl : B ≤ L ∧ L < w.heap.size) : Below B a w' := h.trans (j.below hl.1 hl.2)
def WPost (q : Nat × Int) (w : World) (e : Ending) (w' : World) : Prop := ∃ x, e = .returned x ∧ Wrong w' x q.1 (sec5 q.1) q.2 ∧ Below w.heap.size w w'
def WRel (l : List A3) (w : World) (i : Value) (wr : World) : Prop := ∃ k : Nat, k ≤ l.length ∧ i = .int .i64 k ∧ wr.heap[w.heap.size]? = some (.cells (actC (lastOf (l.take k))) 30 (0, 0)) ∧ badA l = fb b1A (l.take k) (l.drop k) ∧ Below w.heap.size w wr
end Go.Proofs.YtlbpmbdogkfecaaDoor.Act

namespace Go.Proofs.YtlbpmbdogkfecaaDoor.Act

open Go.RowKit Go.PlainAid Go.Proofs.YtlbpmbdogkfecaaDoor.Oct Go.Proofs.YtlbpmbdogkfecaaDoor.Flt Go.Proofs.YtlbpmbdogkfecaaDoor.Rdr Go.Proofs.YtlbpmbdogkfecaaDoor.Args

open Go.Proofs.YtlbpmbdogkfecaaDoor.Prt (fb fb_step fb_end take_snoc QPost)

open Go.Proofs.YtlbpmbdogkfecaaDoor.Hdr (own_bytes owns_base iface_of_wrong)

open Go.Proofs.YtlbpmbdogkfecaaDoor.Byt (bytes_kept own_open)

set_option linter.unusedVariables false

set_option linter.unusedSimpArgs false

def OPost (x : A3) (w : World) (e : Ending) (w' : World) : Prop := ∃ V, e = .returned V ∧ w'.ownsRow w.heap.size 5 1 V 3 ((act1 x).map (Value.int .u8)) ∧ Below w.heap.size w w'
def PNo (l : List A3) (w : World) (n : Nat) (xs : List Int) (e : Ending) (w' : World) : Prop :=
  ∃ V x, e = .returned (.tuple #[V, x]) ∧ w'.ownsRow w.heap.size 5 1 V n (xs.map (Value.int .u8)) ∧ Wrong w' x (badA l).1 (sec5 (badA l).1) (badA l).2 ∧ Below w.heap.size w w'
def PYes (l : List A3) (w : World) (xs : List Int) (e : Ending) (w' : World) : Prop :=
  ∃ V n, e = .returned (.tuple #[V, .nilIface]) ∧ w'.ownsRow w.heap.size 5 1 V n ((xs ++ actB l).map (Value.int .u8)) ∧ Below w.heap.size w w'
def GRel (l : List A3) (len : Nat) (xs : List Int) (w : World) (v i : Value) (wr : World) : Prop :=
  ∃ k : Nat, k ≤ l.length ∧ i = .int .i64 k ∧ wr.ownsRow w.heap.size 5 1 v (len + k * 3) ((xs ++ actB (l.take k)).map (Value.int .u8)) ∧ Below w.heap.size w wr
theorem right_all {l : List A3} (h : (badA l).1 = 0) : ∀ x ∈ l, (0 ≤ x.s ∧ x.s ≤ 255) ∧ (0 ≤ x.p ∧ x.p ≤ 255) ∧ (0 ≤ x.a ∧ x.a ≤ 255) := by
  intro x hx
  obtain ⟨i, hi, rfl⟩ := List.mem_iff_getElem.1 hx
  obtain ⟨h1, h2, h3, _⟩ := bad1_right (bad_right h i _ (List.getElem?_eq_getElem hi))
  exact ⟨h1, h2, by omega⟩
end Go.Proofs.YtlbpmbdogkfecaaDoor.Act

namespace Go.Proofs.YtlbpmbdogkfecaaDoor.Act

open Go.RowKit Go.PlainAid Go.Proofs.YtlbpmbdogkfecaaDoor.Oct Go.Proofs.YtlbpmbdogkfecaaDoor.Flt Go.Proofs.YtlbpmbdogkfecaaDoor.Rdr Go.Proofs.YtlbpmbdogkfecaaDoor.Args

open Go.Proofs.YtlbpmbdogkfecaaDoor.Prt (fb fb_step fb_end take_snoc below_drewN)

open Go.Proofs.YtlbpmbdogkfecaaDoor.Hdr (below_set2)

set_option linter.unusedVariables false

set_option linter.unusedSimpArgs false

theorem lessB_open (x y : A3) : lessB x y = (decide (x.s < y.s) || ((x.s == y.s) && decide (x.p < y.p))) := rfl
set_option maxRecDepth 4000 in
theorem less11_any (x y : A3) (w : World) :
    Calls Tryd.prog 10 #[.agg (actC x), .agg (actC y)] w fun e w' => e = .returned (.bool (lessB x y)) ∧ Below w.heap.size w w' := by
  have HB := Lib.hid (fun o1 o2 => two_below w o1 o2)
  rw [lessB_open]
  unfold actC
  cases h1 : decide (x.s < y.s)
  · cases h2 : (x.s == y.s)
    · go_enter Tryd.func10, Tryd.ntmps10
      go_wp2
      go_ret
      exact ⟨rfl, HB.out _ _⟩
    · cases h3 : decide (x.p < y.p)
      all_goals
        go_enter Tryd.func10, Tryd.ntmps10
        go_wp2
        go_ret
        exact ⟨rfl, HB.out _ _⟩
  · go_enter Tryd.func10, Tryd.ntmps10
    go_wp2
    go_ret
    exact ⟨rfl, HB.out _ _⟩
theorem ActsAt.drewN {w : World} {A : Option Addr} {l : List A3} (h : ActsAt w A l) (n : Nat) : ActsAt (w.drewN n) A l := h
theorem eq_act (a b c : Int) (w : World) : (Op.equalIn 10000 30 (.agg #[.int .i64 a, .int .i64 b, .int .i64 c]) (.agg #[.int .i64 a, .int .i64 b, .int .i64 c])).run Tryd.prog w = .ok true w := by
  have hS : Tryd.prog.underlying 30 = some (.struct (Tryd.prog.fieldsOf 30)) := by kernel_rfl
  rw [show (10000 : Nat) = 9999 + 1 from rfl, run_equalIn_agg w 9999 30 _ _ hS (by kernel_rfl)]
  simp only [Program.fieldsOf, Tryd.underlying30]
  go_simp
set_option maxRecDepth 4000 in
set_option maxHeartbeats 1600000 in
theorem same_any (A B : Option Addr) (ca cb : Nat) (l : List A3) (w : World) (h1 : ActsAt w A l) (h2 : ActsAt w B l) (hl : l.length ≤ maxLen) :
    Calls Tryd.prog 6 #[.slice A l.length ca, .slice B l.length cb] w fun e w' => e = .returned (.bool true) ∧ ∃ n, w' = w.drewN n := by
  unfold maxLen at hl
  obtain ⟨a, ha⟩ : ∃ a, l.length = a := ⟨_, rfl⟩
  have HA := Lib.hid ha
  rw [ha] at hl
  rw [ha]
  have H1 := Lib.hid h1
  have H2 := Lib.hid h2
  clear h1 h2 ha
  have tne : ((a : Int) != (a : Int)) = false := by simp
  go_enter Tryd.func6, Tryd.ntmps6
  go_wp2
  go_loopw [5] (fun i wr => ∃ k n : Nat, k ≤ a ∧ i = .int .i64 k ∧ wr = w.drewN n) (fun i _ => a - (intOf i).toNat)
  case atStart => exact ⟨0, 0, Nat.zero_le _, rfl, rfl⟩
  case round =>
    obtain ⟨k, n, hk, rfl, hw⟩ := hrel
    have HW := Lib.hid hw
    by_cases hlt : k < a
    · obtain ⟨x, hx⟩ : ∃ x, l[k]? = some x := ⟨_, List.getElem?_eq_getElem (by rw [HA.out]; exact hlt)⟩
      obtain ⟨ax, rfl, c1, c2, c3⟩ := H1.out k x hx
      obtain ⟨ay, rfl, c4, c5, c6⟩ := H2.out k x hx
      have c1' : wr.cell? (ax.add (k * 3)) = some (.int .i64 x.s) := by rw [hw]; exact c1
      have c2' : wr.cell? ⟨(ax.add (k * 3)).block, (ax.add (k * 3)).off + 1, none⟩ = some (.int .i64 x.p) := by rw [hw]; exact c2
      have c3' : wr.cell? ⟨(ax.add (k * 3)).block, (ax.add (k * 3)).off + 2, none⟩ = some (.int .i64 x.a) := by rw [hw]; exact c3
      have c4' : wr.cell? (ay.add (k * 3)) = some (.int .i64 x.s) := by rw [hw]; exact c4
      have c5' : wr.cell? ⟨(ay.add (k * 3)).block, (ay.add (k * 3)).off + 1, none⟩ = some (.int .i64 x.p) := by rw [hw]; exact c5
      have c6' : wr.cell? ⟨(ay.add (k * 3)).block, (ay.add (k * 3)).off + 2, none⟩ = some (.int .i64 x.a) := by rw [hw]; exact c6
      have heq : ∀ wx : World, (Op.equalIn 10000 30 (.agg #[.int .i64 x.s, .int .i64 x.p, .int .i64 x.a]) (.agg #[.int .i64 x.s, .int .i64 x.p, .int .i64 x.a])).run Tryd.prog wx = .ok true wx := fun wx => eq_act _ _ _ wx
      have hki : (0 : Int) ≤ k := by omega
      have hka : (k : Int) < a := by omega
      clear hw hx c1 c2 c3 c4 c5 c6 H1 H2
      go_wp2
      go_quiet (fail)
      go_wp2
      go_roundw
      case rel => exact ⟨k + 1, n + nq, by omega, by go_num, by rw [HW.out, World.drewN_drewN]⟩
      case measure => simp [intOf]; omega
    · obtain rfl : k = a := by omega
      clear hw
      go_wp2
      go_ret
      exact ⟨rfl, n, HW.out⟩
theorem low_1 {n : Int} (h0 : 0 ≤ n) (h1 : n ≤ 255) : low n.toNat 1 = [n] := by
  simp [low]; omega
theorem idB_lo {n : Int} (h : decide (n < 0) = true) : idB n = false := by have := of_decide_eq_true h; unfold idB; simp; omega
theorem idB_hi {n : Int} (h : decide (255 < n) = true) : idB n = false := by have := of_decide_eq_true h; unfold idB; simp; omega
theorem idB_in {n : Int} (h : decide (n < 0) = false) (h2 : decide (255 < n) = false) : idB n = true := by have := of_decide_eq_false h; have := of_decide_eq_false h2; unfold idB; simp; omega
theorem form_no {n : Int} (h : (n != 1) = true) (h2 : (n != 2) = true) : formB n = false := by simp at h h2; unfold formB; simp [h, h2]
theorem form_1 {n : Int} (h : (n != 1) = false) : formB n = true := by simp at h; unfold formB; simp [h]
theorem form_2 {n : Int} (h : (n != 2) = false) : formB n = true := by simp at h; unfold formB; simp [h]
theorem kept6 {W w2 : World} {a b c d e f : Addr} {va vb vc vd ve vf : Value} (h : W.cell? a = some va ∧ W.cell? b = some vb ∧ W.cell? c = some vc ∧ W.cell? d = some vd ∧ W.cell? e = some ve ∧ W.cell? f = some vf) (hb : Below W.heap.size W w2) : w2.cell? a = some va ∧ w2.cell? b = some vb ∧ w2.cell? c = some vc ∧ w2.cell? d = some vd ∧ w2.cell? e = some ve ∧ w2.cell? f = some vf := by
  obtain ⟨h1, h2, h3, h4, h5, h6⟩ := h
  exact ⟨(hb.cell (Go.block_lt_of_cell h1)).trans h1, (hb.cell (Go.block_lt_of_cell h2)).trans h2, (hb.cell (Go.block_lt_of_cell h3)).trans h3, (hb.cell (Go.block_lt_of_cell h4)).trans h4, (hb.cell (Go.block_lt_of_cell h5)).trans h5, (hb.cell (Go.block_lt_of_cell h6)).trans h6⟩
def ERel (l : List A3) (w : World) (i : Value) (wr : World) : Prop :=
  ∃ k : Nat, k ≤ l.length ∧ i = .int .i64 k ∧ badA l = fb b1A (l.take k) (l.drop k) ∧ wr.heap[w.heap.size]? = some (.cells #[.int .i64 0, .int .i64 0, .int .i64 0] 41 (0, 0)) ∧ Below w.heap.size w wr
def TRel (l : List A3) (w : World) (v i : Value) (wr : World) : Prop := ∃ k : Nat, k ≤ l.length ∧ i = .int .i64 k ∧ v = .string (strOfNums (actB (l.take k))) ∧ Below w.heap.size w wr
end Go.Proofs.YtlbpmbdogkfecaaDoor.Act
