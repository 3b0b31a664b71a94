
/- Acts: what is wrong with them, and their bytes. It says nothing of the program. No condition. The order of acts, as the program and the document tell it; what an act may do, and what may be an id. No condition. What package acts' closure tells, what acts' numbers may be, and what is wrong first with acts. Condition: the variables hold what the program lays there; at most 1,000 acts. What is wrong first with acts, as the program tells it. Condition: the variables hold what the program lays there; at most 1,000 acts. What package acts' Put lays behind bytes. Condition: the variables hold what the program lays there; at most 1,000 acts, at most 2 to the power 30 bytes come in. What the document says of acts: their order, what is wrong with them, their bytes, and whether two rows are one. Condition: at most 1,000 acts. -/

import Derived.Test.YtpdoihndpnpifaaDoorPrtF

import Derived.Test.YtpdoihndpnpifaaDoorActR

import Derived.Test.YtpdoihndpnpifaaDoorRdrR

import Derived.Test.YtpdoihndpnpifaaDoorHdrC

import Derived.Test.YtpdoihndpnpifaaDoorShelf

import Derived.Deep.RegionHeld3

import Derived.Test.YtpdoihndpnpifaaDoorCnv

import Derived.BigQuiet

import Derived.BigRegion

namespace Go.Proofs.YtpdoihndpnpifaaDoor.Act

open Go.RowKit Go.PlainAid Go.Proofs.YtpdoihndpnpifaaDoor.Oct Go.Proofs.YtpdoihndpnpifaaDoor.Flt Go.Proofs.YtpdoihndpnpifaaDoor.Rdr Go.Proofs.YtpdoihndpnpifaaDoor.Args

set_option linter.unusedVariables false

set_option linter.unusedSimpArgs false

/-- What is wrong first: its class, its place. -/
def b1A (pre : List A3) (x : A3) : Nat := bad1 (lastOf pre) x
def badA (l : List A3) : Nat × Int := Prt.fb b1A [] l
theorem b1_le (pre : List A3) (x : A3) : b1A pre x ≤ 18 := by
  unfold b1A bad1; repeat' split
  all_goals omega
def sec5 (k : Nat) : Int := if k = 0 then 0 else 5
/-- Acts' bytes. -/
def act1 (x : A3) : List Int := (low x.s.toNat 1 ++ low x.p.toNat 1) ++ low x.a.toNat 1
def actB (l : List A3) : List Int := l.flatMap act1
theorem actB_snoc (l : List A3) (x : A3) : actB (l ++ [x]) = actB l ++ act1 x := by simp [actB]
theorem act1_len (x : A3) : (act1 x).length = 3 := by unfold act1; simp [low_length]
theorem actB_len (l : List A3) : (actB l).length = l.length * 3 := by
  induction l with
  | nil => rfl
  | cons x l ih =>
    have : actB (x :: l) = act1 x ++ actB l := rfl
    rw [this, List.length_append, ih, act1_len, List.length_cons]
    omega
theorem small_act (x : A3) : Small (act1 x) := ((small_low _ _).append (small_low _ _)).append (small_low _ _)
theorem small_acts (l : List A3) : Small (actB l) := by
  intro y hy
  obtain ⟨x, _, hx⟩ := List.mem_flatMap.1 hy
  exact small_act x y hx
/-- What a right act is like. -/
theorem bad1_right {last x : A3} (h : bad1 last x = 0) : (0 ≤ x.s ∧ x.s ≤ 255) ∧ (0 ≤ x.p ∧ x.p ≤ 255) ∧ (x.a = 1 ∨ x.a = 2) ∧ lessB last x = true := by
  unfold bad1 at h
  split at h
  · cases h
  · rename_i h1
    split at h
    · cases h
    · rename_i h2
      split at h
      · cases h
      · rename_i h3
        simp [idB, formB] at h1 h2 h3
        refine ⟨by omega, by omega, by omega, h3⟩
theorem bad_right {l : List A3} (h : (badA l).1 = 0) (i : Nat) (x : A3) (hx : l[i]? = some x) : bad1 (lastOf (l.take i)) x = 0 := by
  have := Prt.fb_all b1A l [] h i x hx
  rw [List.nil_append] at this
  exact this
/-- What acts' bytes are read as. -/
abbrev RA5 (M : ByteArray) (p : Nat) : St := ⟨M, p, 5, 0, 0, 0⟩
theorem need_yes (t : St) (k a : Int) {b : Bool} (h : b = true) : needS b t k a = t := by unfold needS; rw [if_pos h]
theorem one_read (pre post : List Int) (x last : A3) (hr : bad1 last x = 0) (h1 : Small pre) (h2 : Small post) (M : ByteArray) (hM : strOfNums (pre ++ act1 x ++ post) = M) (p : Nat) (hp : p = pre.length) :
    aS (RA5 M p) last = RA5 M (p + 3) ∧ aV (RA5 M p) = x := by
  obtain ⟨⟨s0, s1⟩, ⟨p0, p1⟩, ha, hl⟩ := bad1_right hr
  obtain ⟨n1, n2⟩ := num_read pre (low x.p.toNat 1 ++ low x.a.toNat 1 ++ post) x.s.toNat 1 (by omega) (by omega) h1 (((small_low _ _).append (small_low _ _)).append h2) M (by rw [← hM]; simp [act1]) p hp 5 0 0
  obtain ⟨n3, n4⟩ := num_read (pre ++ low x.s.toNat 1) (low x.a.toNat 1 ++ post) x.p.toNat 1 (by omega) (by omega) (h1.append (small_low _ _)) ((small_low _ _).append h2) M (by rw [← hM]; simp [act1]) (p + 1) (by rw [List.length_append, low_length, hp]) 5 0 0
  obtain ⟨n5, n6⟩ := num_read (pre ++ low x.s.toNat 1 ++ low x.p.toNat 1) post x.a.toNat 1 (by omega) (by omega) ((h1.append (small_low _ _)).append (small_low _ _)) h2 M (by rw [← hM]; simp [act1]) (p + 1 + 1) (by simp only [List.length_append, low_length, hp]) 5 0 0
  have e2 : aS2 (RA5 M p) = RA5 M (p + 1 + 1) := by unfold aS2; rw [n1, n3]
  have ev : aV (RA5 M p) = x := by
    unfold aV
    rw [e2, n2, n1, n4, n6]
    obtain ⟨xs, xp, xa⟩ := x
    dsimp only at s0 p0 ha ⊢
    congr 1
    all_goals omega
  refine ⟨?_, ev⟩
  unfold aS
  rw [ev, hl, need_yes _ _ _ rfl]
  have hf : formB x.a = true := by unfold formB; rcases ha with h | h <;> simp [h]
  rw [hf, need_yes _ _ _ rfl]
  unfold aS3
  rw [e2, n5]
theorem text_read (l : List A3) (hb : (badA l).1 = 0) (M : ByteArray) (hM : strOfNums (actB l) = M) :
    ∀ k, k ≤ l.length → itA (RA5 M 0) k = (RA5 M (k * 3), l.take k)
  | 0, _ => by simp [itA]
  | k + 1, hk => by
    have ih := text_read l hb M hM k (by omega)
    have hx : l[k]? = some l[k] := List.getElem?_eq_getElem (by omega)
    obtain ⟨x, hxx⟩ : ∃ x, l[k] = x := ⟨_, rfl⟩
    rw [hxx] at hx
    have e : actB l = actB (l.take k) ++ act1 x ++ actB (l.drop (k + 1)) := by
      have e0 : l = l.take k ++ x :: l.drop (k + 1) := by
        rw [← hxx, ← List.drop_eq_getElem_cons (by omega), List.take_append_drop]
      conv => lhs; rw [e0]
      simp [actB]
    obtain ⟨o1, o2⟩ := one_read (actB (l.take k)) (actB (l.drop (k + 1))) x (lastOf (l.take k)) (bad_right hb k x hx) (small_acts _) (small_acts _) M (by rw [← hM, e]) (k * 3) (by rw [actB_len, List.length_take]; omega)
    rw [itA, ih]
    dsimp only
    rw [if_pos rfl, o1, o2, Prt.take_snoc l k x hx, show (k + 1) * 3 = k * 3 + 3 by omega]
def rdA (t : St) (n : Nat) : St := (itA (secS t 5) n).1
def rdL (t : St) (n : Nat) : List A3 := (itA (secS t 5) n).2
theorem acts_read (l : List A3) (hb : (badA l).1 = 0) (M : ByteArray) (hM : strOfNums (actB l) = M) :
    rdA ⟨M, 0, 0, 0, 0, 0⟩ l.length = RA5 M M.size ∧ rdL ⟨M, 0, 0, 0, 0, 0⟩ l.length = l := by
  have h := text_read l hb M hM l.length (Nat.le_refl _)
  rw [List.take_length] at h
  have hs : M.size = l.length * 3 := by rw [← hM, strOfNums_size, actB_len]
  unfold rdA rdL
  rw [show secS ⟨M, 0, 0, 0, 0, 0⟩ 5 = RA5 M 0 from rfl, h, hs]
  exact ⟨rfl, rfl⟩
end Go.Proofs.YtpdoihndpnpifaaDoor.Act

namespace Go.Proofs.YtpdoihndpnpifaaDoor.Act

open Go.RowKit Go.PlainAid Go.Proofs.YtpdoihndpnpifaaDoor.Oct Go.Proofs.YtpdoihndpnpifaaDoor.Flt Go.Proofs.YtpdoihndpnpifaaDoor.Rdr Go.Proofs.YtpdoihndpnpifaaDoor.Args

set_option linter.unusedVariables false

set_option linter.unusedSimpArgs false

theorem or_any (x y : Int) (g : Nat) (w : World) (h : w.heap[g]? = some (.cells #[.int .i64 x, .int .i64 y] 3 (0, 0))) :
    Calls Tryd.prog 131 #[.slice (some ⟨g, 0, none⟩) 2 2] w fun e w' => e = .returned (.int .i64 (if x = 0 then y else x)) ∧ w = w' := by
  have hc0 : w.cell? ⟨g, 0, none⟩ = some (.int .i64 x) := by rw [cell_of_row w _ _ _ _ _ h]; rfl
  have hc1 : w.cell? ⟨g, 1, none⟩ = some (.int .i64 y) := by rw [cell_of_row w _ _ _ _ _ h]; rfl
  clear h
  by_cases hx : x = 0
  · subst hx
    rw [if_pos rfl]
    by_cases hy : y = 0
    · subst hy
      go_enter Tryd.func131, Tryd.ntmps131
      go_wp2
      go_loop [8] (fun i => ∃ k : Nat, k ≤ 2 ∧ i = .int .i64 k) (fun i => 2 - (intOf i).toNat)
      case atStart => exact ⟨0, by omega, rfl⟩
      case round =>
        obtain ⟨k, hk, rfl⟩ := hrel
        rcases (show k = 0 ∨ k = 1 ∨ k = 2 by omega) with rfl | rfl | rfl
        · clear hk
          go_wp2
          go_round
          case rel => exact ⟨1, by omega, rfl⟩
          case measure => simp [intOf]
        · clear hk
          go_wp2
          go_round
          case rel => exact ⟨2, by omega, rfl⟩
          case measure => simp [intOf]
        · clear hk
          go_wp2
          go_ret
          exact ⟨rfl, rfl⟩
    · have t1 : (y != 0) = true := by simp; exact hy
      clear hy
      go_enter Tryd.func131, Tryd.ntmps131
      go_wp2
      go_loop [8] (fun i => ∃ k : Nat, k ≤ 1 ∧ i = .int .i64 k) (fun i => 2 - (intOf i).toNat)
      case atStart => exact ⟨0, by omega, rfl⟩
      case round =>
        obtain ⟨k, hk, rfl⟩ := hrel
        rcases (show k = 0 ∨ k = 1 by omega) with rfl | rfl
        · clear hk
          go_wp2
          go_round
          case rel => exact ⟨1, by omega, rfl⟩
          case measure => simp [intOf]
        · clear hk
          go_wp2
          go_ret
          exact ⟨rfl, rfl⟩
  · rw [if_neg hx]
    have t1 : (x != 0) = true := by simp; exact hx
    clear hx
    go_enter Tryd.func131, Tryd.ntmps131
    go_wp2
    go_loop [8] (fun i => i = .int .i64 0) (fun i => 2 - (intOf i).toNat)
    case atStart => rfl
    case round =>
      obtain rfl := hrel
      go_wp2
      go_ret
      exact ⟨rfl, rfl⟩

def actC (t : A3) : Array Value := #[.int .i64 t.s, .int .i64 t.p, .int .i64 t.a]
def cmpA (x y : A3) : Int := if Lib.compareInt x.s y.s = 0 then Lib.compareInt x.p y.p else Lib.compareInt x.s y.s
theorem cmp_less (x y : A3) : decide (cmpA x y < 0) = lessB x y := by
  unfold cmpA Lib.compareInt lessB
  rw [Bool.eq_iff_iff]
  simp only [decide_eq_true_eq, Bool.or_eq_true, Bool.and_eq_true, beq_iff_eq]
  split <;> (repeat' split at *) <;> omega
set_option maxRecDepth 4000 in
theorem compare_any (x y : A3) (w : World) :
    Calls Tryd.prog 124 #[.agg (actC x), .agg (actC y)] w fun e w' => e = .returned (.int .i64 (cmpA x y)) ∧ Below w.heap.size w w' := by
  unfold cmpA actC
  have H1 := Lib.hid (fun w => Tryd.cmp_Compare_int x.s y.s w)
  have H2 := Lib.hid (fun w => Tryd.cmp_Compare_int x.p y.p w)
  obtain ⟨a, ha⟩ : ∃ a, Lib.compareInt x.s y.s = a := ⟨_, rfl⟩
  obtain ⟨b, hb⟩ : ∃ b, Lib.compareInt x.p y.p = b := ⟨_, rfl⟩
  rw [ha] at H1 ⊢
  rw [hb] at H2 ⊢
  clear ha hb
  have HB := Lib.hid (fun o1 o2 => two_below w o1 o2)
  have HO : Hid (∀ (W : World) (g : Nat), W.heap[g]? = some (.cells #[.int .i64 a, .int .i64 b] 3 (0, 0)) → Calls Tryd.prog 131 #[.slice (some ⟨g, 0, none⟩) 2 2] W fun e w' => e = .returned (.int .i64 (if a = 0 then b else a)) ∧ W = w') := fun W g h => or_any a b g W h
  obtain ⟨z, hz⟩ : ∃ z, (if a = 0 then b else a) = z := ⟨_, rfl⟩
  rw [hz] at HO ⊢
  clear hz
  go_enter Tryd.func124, Tryd.ntmps124
  go_wp2_with fail
  generalize hW : ((w.alloc (.cells #[.int .i64 x.s, .int .i64 x.p, .int .i64 x.a] 138)).alloc (.cells #[.int .i64 y.s, .int .i64 y.p, .int .i64 y.a] 138)) = W
  have hra : W.heap[w.heap.size]? = some (.cells #[.int .i64 x.s, .int .i64 x.p, .int .i64 x.a] 138 (0, 0)) := by rw [← hW]; exact (heap_alloc_old _ _ (by simp)).trans (heap_alloc_new _ _)
  have hrb : W.heap[w.heap.size + 1]? = some (.cells #[.int .i64 y.s, .int .i64 y.p, .int .i64 y.a] 138 (0, 0)) := by rw [← hW]; exact Hdr.second_new w _ _
  have HBW : Hid (Below w.heap.size w W) := by show Below _ _ _; rw [← hW]; exact HB.out _ _
  have HCE : Hid (W.cell? ⟨w.heap.size, 0, none⟩ = some (.int .i64 x.s) ∧ W.cell? ⟨w.heap.size, 1, none⟩ = some (.int .i64 x.p) ∧ W.cell? ⟨w.heap.size + 1, 0, none⟩ = some (.int .i64 y.s) ∧ W.cell? ⟨w.heap.size + 1, 1, none⟩ = some (.int .i64 y.p)) := by
    refine ⟨?_, ?_, ?_, ?_⟩
    all_goals first
      | (rw [cell_of_row W _ _ _ _ _ hra]; rfl)
      | (rw [cell_of_row W _ _ _ _ _ hrb]; rfl)
  obtain ⟨q0, q1, q2, q3⟩ := HCE.out
  clear hW hra hrb
  go_region_held3 (fun wx => wx.cell? ⟨w.heap.size, 0, none⟩ = some (.int .i64 x.s) ∧ wx.cell? ⟨w.heap.size, 1, none⟩ = some (.int .i64 x.p) ∧ wx.cell? ⟨w.heap.size + 1, 0, none⟩ = some (.int .i64 y.s) ∧ wx.cell? ⟨w.heap.size + 1, 1, none⟩ = some (.int .i64 y.p)) (first | (go_keep; done) | exact HCE.out | (refine ⟨?_, ?_, ?_, ?_⟩ <;> assumption))
    (first
      | (go_at_call 132; (with_reducible first | (refine (H1.out _).mono ?_) | (refine (H2.out _).mono ?_)); rintro e w' ⟨rfl, rfl⟩)
      | (go_at_call 131; refine (HO.out ((W.alloc (.cells #[.int .i64 a, .int .i64 b] 3)).drew) W.heap.size (by exact heap_alloc_new W _)).mono ?_; rintro e w' ⟨rfl, rfl⟩))
  go_wp2
  go_ret
  exact ⟨rfl, HBW.out.trans ((Below.drew ((Below.refl _ _).alloc (Nat.le_refl _) (.cells #[.int .i64 a, .int .i64 b] 3))).mono HBW.out.size)⟩
end Go.Proofs.YtpdoihndpnpifaaDoor.Act

namespace Go.Proofs.YtpdoihndpnpifaaDoor.Act

open Go.RowKit Go.PlainAid Go.Proofs.YtpdoihndpnpifaaDoor.Oct Go.Proofs.YtpdoihndpnpifaaDoor.Flt Go.Proofs.YtpdoihndpnpifaaDoor.Rdr Go.Proofs.YtpdoihndpnpifaaDoor.Args

open Go.Proofs.YtpdoihndpnpifaaDoor.Prt (fb fb_step fb_end take_snoc)

set_option linter.unusedVariables false

set_option linter.unusedSimpArgs false

theorem less_any (x y : A3) (w : World) :
    Calls Tryd.prog 112 #[.agg (actC x), .agg (actC y)] w fun e w' => e = .returned (.bool (lessB x y)) ∧ Below w.heap.size w w' := by
  have H1 := Lib.hid (fun w => compare_any x y w)
  have HL := Lib.hid (cmp_less x y)
  obtain ⟨c, hc⟩ : ∃ c, cmpA x y = c := ⟨_, rfl⟩
  rw [hc] at H1 HL
  obtain ⟨b, hb⟩ : ∃ b, lessB x y = b := ⟨_, rfl⟩
  rw [hb] at HL ⊢
  have HB := Lib.hid (fun o1 o2 => two_below w o1 o2)
  have ht := HL.out
  unfold actC at H1 ⊢
  clear hc hb
  go_enter Tryd.func112, Tryd.ntmps112
  go_wp2_with (go_at_call 124; refine (H1.out _).mono ?_; rintro e w' ⟨rfl, hb2⟩; have HB2 := Lib.hid ((HB.out _ _).trans (hb2.mono (HB.out _ _).size)); clear hb2)
  go_ret
  exact ⟨rfl, HB2.out⟩
theorem size_act : (Tryd.prog.info? 138).map (·.size) = some 3 := by kernel_rfl
theorem one_act (x y z : Int) : (#[Value.int .i64 x, .int .i64 y, .int .i64 z] : Array Value).all (·.oneCell') = true := by simp [Value.oneCell']
def CV (L : Nat) : Value := .func (.func 111) #[] #[.pointer (some ⟨L, 0, none⟩)]
theorem rising_any (w : World) :
    Calls Tryd.prog 84 #[] w fun e w' => e = .returned (CV w.heap.size) ∧ w'.heap[w.heap.size]? = some (.cells (actC a0) 138 (0, 0)) ∧ Below w.heap.size w w' := by
  unfold CV
  have HN := Lib.hid (heap_alloc_new w (.cells #[.int .i64 0, .int .i64 0, .int .i64 0] 138))
  have HB : Hid (∀ o, Below w.heap.size w (w.alloc o)) := fun o => (Below.refl _ _).alloc (Nat.le_refl _) o
  go_enter Tryd.func84, Tryd.ntmps84
  go_wp2
  go_ret
  exact ⟨rfl, heap_alloc_new _ _, HB.out _⟩
theorem above_any (L : Nat) (last x : A3) (w : World) (h : w.heap[L]? = some (.cells (actC last) 138 (0, 0))) :
    Calls Tryd.prog 111 #[.agg (actC x), .pointer (some ⟨L, 0, none⟩)] w fun e w' => e = .returned (.bool (lessB last x)) ∧ w'.heap[L]? = some (.cells (actC x) 138 (0, 0)) ∧ Just L w w' := by
  have H1 := Lib.hid (fun w => less_any last x w)
  obtain ⟨b, hb⟩ : ∃ b, lessB last x = b := ⟨_, rfl⟩
  rw [hb] at H1 ⊢
  have HH := Lib.hid ((heap_alloc_old w (.cells (actC x) 138) (lt_of_block h)).trans h)
  have HX := Lib.hid (heap_alloc_new w (.cells (actC x) 138))
  have HB : Hid (Below w.heap.size w (w.alloc (.cells (actC x) 138))) := (Below.refl w.heap.size w).alloc (Nat.le_refl _) _
  have HSIZ := Lib.hid size_act
  have HLT : Hid (L < w.heap.size) := lt_of_block h
  have HONE := Lib.hid (one_act x.s x.p x.a)
  unfold actC at H1 HH HX HB ⊢
  clear hb h
  go_enter Tryd.func111, Tryd.ntmps111
  go_wp2_with (first
    | ((with_reducible show wpList _ _ _ _ _ _); refine wpList_load_row rfl 138 (.tmp 1) rfl L rfl 138 _ (0, 0) _ HH.out Tryd.underlying138 rfl (by rw [HSIZ.out]; rfl) ?_)
    | ((with_reducible show wpList _ _ _ _ _ _); refine wpList_store_row rfl 138 (.tmp 1) (.tmp 8) rfl L #[.int .i64 x.s, .int .i64 x.p, .int .i64 x.a] rfl rfl 138 #[.int .i64 last.s, .int .i64 last.p, .int .i64 last.a] HH2.out (by rw [HSIZ.out]; rfl) rfl HONE.out ?_)
    | (go_at_call 112; refine (H1.out _).mono ?_; rintro e w' ⟨rfl, hb2⟩; have HB2 := Lib.hid (HB.out.trans (hb2.mono HB.out.size)); have HH2 := Lib.hid ((hb2.block _ (lt_of_block HH.out)).trans HH.out); have HX2 := Lib.hid ((hb2.block _ (lt_of_block HX.out)).trans HX.out); have hx := HX2.out; have e0 := cell_of_row w' _ 0 _ _ _ hx; have e1 := cell_of_row w' _ 1 _ _ _ hx; have e2 := cell_of_row w' _ 2 _ _ _ hx; simp only [List.getElem?_toArray, List.getElem?_cons_zero, List.getElem?_cons_succ] at e0 e1 e2; clear hb2 hx))
  go_ret
  exact ⟨rfl, setRow_heap _ _ _ _ _ _ HH2.out, (Just.of_below HB2.out).trans ⟨rfl, rfl, rfl, (by simp), fun k hk hne => setRow_other _ _ _ _ hne⟩⟩
theorem isId_any (n : Int) (hn : I64 n) (w : World) : Calls Tryd.prog 110 #[.int .i64 n] w fun e w' => e = .returned (.bool (idB n)) ∧ w = w' := by
  have HF := Lib.hid (fun w => Hdr.fits_first hn w)
  unfold idB
  obtain ⟨b, hb⟩ : ∃ b, (decide (0 ≤ n) && decide (n ≤ 255)) = b := ⟨_, rfl⟩
  rw [hb] at HF ⊢
  clear hb hn
  go_enter Tryd.func110, Tryd.ntmps110
  go_wp2_with (go_at_call 46; refine (HF.out _).mono ?_; rintro e w' ⟨rfl, rfl⟩)
  go_ret
  exact ⟨rfl, rfl⟩
theorem isAction_any (n : Int) (w : World) : Calls Tryd.prog 87 #[.int .i64 n] w fun e w' => e = .returned (.bool (formB n)) ∧ w = w' := by
  unfold formB
  cases h1 : (n == 1)
  · cases h2 : (n == 2)
    all_goals
      go_enter Tryd.func87, Tryd.ntmps87
      go_wp2
      go_ret
      exact ⟨rfl, rfl⟩
  · go_enter Tryd.func87, Tryd.ntmps87
    go_wp2
    go_ret
    exact ⟨rfl, rfl⟩
end Go.Proofs.YtpdoihndpnpifaaDoor.Act

namespace Go.Proofs.YtpdoihndpnpifaaDoor.Act

open Go.RowKit Go.PlainAid Go.Proofs.YtpdoihndpnpifaaDoor.Oct Go.Proofs.YtpdoihndpnpifaaDoor.Flt Go.Proofs.YtpdoihndpnpifaaDoor.Rdr Go.Proofs.YtpdoihndpnpifaaDoor.Args

open Go.Proofs.YtpdoihndpnpifaaDoor.Prt (fb fb_step fb_end take_snoc)

set_option linter.unusedVariables false

set_option linter.unusedSimpArgs false

theorem below_just {B L : Nat} {a w w' : World} (h : Below B a w) (j : Just L w w') (hl : B ≤ L ∧ L < w.heap.size) : Below B a w' := h.trans (j.below hl.1 hl.2)
def WPost (q : Nat × Int) (w : World) (e : Ending) (w' : World) : Prop := ∃ x, e = .returned x ∧ Wrong w' x q.1 (sec5 q.1) q.2 ∧ Below w.heap.size w w'
def WRel (l : List A3) (w : World) (i : Value) (wr : World) : Prop := ∃ k : Nat, k ≤ l.length ∧ i = .int .i64 k ∧ wr.heap[w.heap.size]? = some (.cells (actC (lastOf (l.take k))) 138 (0, 0)) ∧ badA l = fb b1A (l.take k) (l.drop k) ∧ Below w.heap.size w wr
set_option maxRecDepth 8000 in
set_option maxHeartbeats 3200000 in
theorem wrong_any (A : Option Addr) (cap : Nat) (l : List A3) (w : World) (hn : Names w) (h1 : ActsAt w A l) (hw : ∀ x ∈ l, Wide x) (hl : l.length ≤ 1000) :
    Calls Tryd.prog 81 #[.slice A l.length cap] w (WPost (badA l) w) := by
  have HN := Lib.hid hn
  have H1 := Lib.hid h1
  have HW := Lib.hid hw
  have HRI := Lib.hid (rising_any w)
  obtain ⟨a, ha⟩ : ∃ a, l.length = a := ⟨_, rfl⟩
  have HA := Lib.hid ha
  rw [ha] at hl
  rw [ha]
  obtain ⟨q, hq⟩ : ∃ q, badA l = q := ⟨_, rfl⟩
  have HQ := Lib.hid hq
  rw [hq]
  unfold CV at HRI
  clear hn h1 hw ha hq
  go_enter Tryd.func81, Tryd.ntmps81
  go_wp2_with fail
  refine HRI.out.mono ?_
  rintro e w1 ⟨rfl, hl1, hb1⟩
  have HB1 := Lib.hid hb1
  have HL1 := Lib.hid hl1
  clear hb1 hl1 HRI
  go_wp2
  go_loopw [10] (fun i wr => WRel l w i wr) (fun i _ => a - (intOf i).toNat)
  case atStart => exact ⟨0, Nat.zero_le _, rfl, HL1.out, by simp [badA], HB1.out⟩
  case round =>
    obtain ⟨k, hk, rfl, hl1, hb, hbel⟩ := hrel
    have HB := Lib.hid hb
    have HE := Lib.hid hbel
    have hka : k ≤ a := by rw [← HA.out]; exact hk
    clear hb hk hbel HB1 HL1
    by_cases hlt : k < a
    · obtain ⟨x, hx⟩ : ∃ x, l[k]? = some x := ⟨_, List.getElem?_eq_getElem (by rw [HA.out]; exact hlt)⟩
      obtain ⟨ax, rfl, c1, c2, c3⟩ := (H1.out.kept HE.out) k x hx
      have hwx := HW.out x (List.mem_of_getElem? hx)
      have HS := Lib.hid (fun w => isId_any x.s hwx.1 w)
      have HP := Lib.hid (fun w => isId_any x.p hwx.2.1 w)
      have HA3 := Lib.hid (fun w => isAction_any x.a w)
      have HC := Lib.hid (fun W => above_any w.heap.size (lastOf (l.take k)) x W)
      have HT : Hid (lastOf (l.take (k + 1)) = x) := last_take l k x hx
      have hst := (HB.out.symm.trans HQ.out).symm.trans (fb_step b1A l k x hx)
      have hbd : b1A (l.take k) x = if (idB x.s && idB x.p) = false then 18 else if formB x.a = false then 6 else if lessB (lastOf (l.take k)) x = false then 9 else 0 := rfl
      rw [hbd] at hst
      have HB5 : Hid (Below w.heap.size w (wr.alloc (.cells (actC x) 138))) := HE.out.alloc HE.out.size _
      have hlz := lt_of_block hl1
      have HLS : Hid (w.heap.size ≤ w.heap.size ∧ w.heap.size < (wr.alloc (.cells (actC x) 138)).heap.size) := ⟨Nat.le_refl _, by simp; omega⟩
      have HL5 : Hid ((wr.alloc (.cells (actC x) 138)).heap[w.heap.size]? = some (.cells (actC (lastOf (l.take k))) 138 (0, 0))) := (heap_alloc_old _ _ hlz).trans hl1
      have HX5 := Lib.hid (heap_alloc_new wr (.cells (actC x) 138))
      obtain ⟨s, p, ac⟩ := x
      unfold actC at HC HB5 HLS HL5 HX5
      dsimp only at c1 c2 c3 HS HP HA3 HC HT hst HB5 HLS HL5 HX5
      obtain ⟨⟨l1, l2, l3⟩, hla⟩ : ∃ la, lastOf (l.take k) = la := ⟨_, rfl⟩
      rw [hla] at HC HL5 hst
      dsimp only at HC HL5
      have hki : (0 : Int) ≤ k := by omega
      have hkb : (k : Int) < a := by omega
      clear hx hwx hbd hl1 hlz hla
      cases hs : idB s with
      | false =>
        rw [hs] at HS hst
        have HS2 : Hid (q = if (18 : Nat) = 0 then fb b1A (l.take (k + 1)) (l.drop (k + 1)) else (18, (k : Int))) := by show _ = _; simpa using hst
        clear hst hs
        obtain rfl : q = (18, (k : Int)) := by
          have h := HS2.out
          rw [if_neg (by omega)] at h
          exact h
        clear HS2 HQ
        go_wp2_with (first
          | (go_at_call 110; (with_reducible first | (refine (HS.out _).mono ?_) | (refine (HP.out _).mono ?_)); rintro e w' ⟨rfl, rfl⟩)
          | (go_at_call 87; refine (HA3.out _).mono ?_; rintro e w' ⟨rfl, rfl⟩)
          | (go_at_call 111; refine (HC.out _ HL5.out).mono ?_; rintro e w2 ⟨rfl, hl2, hj2⟩; have HB2 := Lib.hid (below_just HB5.out hj2 HLS.out); have HL2 := Lib.hid hl2; clear hl2 hj2)
          | (go_at_call 96; refine (new_yes 18 (by omega) (by omega) _ (HN.out.kept HB5.out)).mono ?_; rintro e w' ⟨rfl, rfl⟩)
          | (go_at_call 95; refine (at_any (k : Int) _ [] 18 _ rfl).mono ?_; rintro e w3 ⟨y, rfl, hy, hb3⟩; have HY := Lib.hid hy; have HB3 := Lib.hid (HB5.out.trans (hb3.mono HB5.out.size)); clear hy hb3)
          | (go_at_call 94; refine (in_any 5 _ _ 18 _ HY.out).mono ?_; rintro e w4 ⟨z, rfl, hz, hb4⟩; have HZ := Lib.hid hz; have HB4 := Lib.hid (HB3.out.trans (hb4.mono HB3.out.size)); clear hz hb4))
        go_ret
        exact ⟨z, rfl, .inr ⟨by omega, by omega, HZ.out⟩, HB4.out⟩
      | true =>
        rw [hs] at HS hst
        cases hp : idB p with
        | false =>
          rw [hp] at HP hst
          have HS2 : Hid (q = if (18 : Nat) = 0 then fb b1A (l.take (k + 1)) (l.drop (k + 1)) else (18, (k : Int))) := by show _ = _; simpa using hst
          clear hst hs hp
          obtain rfl : q = (18, (k : Int)) := by
            have h := HS2.out
            rw [if_neg (by omega)] at h
            exact h
          clear HS2 HQ
          go_wp2_with (first
            | (go_at_call 110; (with_reducible first | (refine (HS.out _).mono ?_) | (refine (HP.out _).mono ?_)); rintro e w' ⟨rfl, rfl⟩)
            | (go_at_call 87; refine (HA3.out _).mono ?_; rintro e w' ⟨rfl, rfl⟩)
            | (go_at_call 111; refine (HC.out _ HL5.out).mono ?_; rintro e w2 ⟨rfl, hl2, hj2⟩; have HB2 := Lib.hid (below_just HB5.out hj2 HLS.out); have HL2 := Lib.hid hl2; clear hl2 hj2)
            | (go_at_call 96; refine (new_yes 18 (by omega) (by omega) _ (HN.out.kept HB5.out)).mono ?_; rintro e w' ⟨rfl, rfl⟩)
            | (go_at_call 95; refine (at_any (k : Int) _ [] 18 _ rfl).mono ?_; rintro e w3 ⟨y, rfl, hy, hb3⟩; have HY := Lib.hid hy; have HB3 := Lib.hid (HB5.out.trans (hb3.mono HB5.out.size)); clear hy hb3)
            | (go_at_call 94; refine (in_any 5 _ _ 18 _ HY.out).mono ?_; rintro e w4 ⟨z, rfl, hz, hb4⟩; have HZ := Lib.hid hz; have HB4 := Lib.hid (HB3.out.trans (hb4.mono HB3.out.size)); clear hz hb4))
          go_ret
          exact ⟨z, rfl, .inr ⟨by omega, by omega, HZ.out⟩, HB4.out⟩
        | true =>
          rw [hp] at HP hst
          cases hf : formB ac with
          | false =>
            rw [hf] at HA3 hst
            have HS2 : Hid (q = if (6 : Nat) = 0 then fb b1A (l.take (k + 1)) (l.drop (k + 1)) else (6, (k : Int))) := by show _ = _; simpa using hst
            clear hst hs hp hf
            obtain rfl : q = (6, (k : Int)) := by
              have h := HS2.out
              rw [if_neg (by omega)] at h
              exact h
            clear HS2 HQ
            go_wp2_with (first
              | (go_at_call 110; (with_reducible first | (refine (HS.out _).mono ?_) | (refine (HP.out _).mono ?_)); rintro e w' ⟨rfl, rfl⟩)
              | (go_at_call 87; refine (HA3.out _).mono ?_; rintro e w' ⟨rfl, rfl⟩)
              | (go_at_call 111; refine (HC.out _ HL5.out).mono ?_; rintro e w2 ⟨rfl, hl2, hj2⟩; have HB2 := Lib.hid (below_just HB5.out hj2 HLS.out); have HL2 := Lib.hid hl2; clear hl2 hj2)
              | (go_at_call 96; refine (new_yes 6 (by omega) (by omega) _ (HN.out.kept HB5.out)).mono ?_; rintro e w' ⟨rfl, rfl⟩)
              | (go_at_call 95; refine (at_any (k : Int) _ [] 6 _ rfl).mono ?_; rintro e w3 ⟨y, rfl, hy, hb3⟩; have HY := Lib.hid hy; have HB3 := Lib.hid (HB5.out.trans (hb3.mono HB5.out.size)); clear hy hb3)
              | (go_at_call 94; refine (in_any 5 _ _ 6 _ HY.out).mono ?_; rintro e w4 ⟨z, rfl, hz, hb4⟩; have HZ := Lib.hid hz; have HB4 := Lib.hid (HB3.out.trans (hb4.mono HB3.out.size)); clear hz hb4))
            go_ret
            exact ⟨z, rfl, .inr ⟨by omega, by omega, HZ.out⟩, HB4.out⟩
          | true =>
            rw [hf] at HA3 hst
            cases hle : lessB ⟨l1, l2, l3⟩ ⟨s, p, ac⟩ with
            | false =>
              rw [hle] at HC hst
              have HS2 : Hid (q = if (9 : Nat) = 0 then fb b1A (l.take (k + 1)) (l.drop (k + 1)) else (9, (k : Int))) := by show _ = _; simpa using hst
              clear hst hs hp hf hle
              obtain rfl : q = (9, (k : Int)) := by
                have h := HS2.out
                rw [if_neg (by omega)] at h
                exact h
              clear HS2 HQ
              go_wp2_with (first
                | (go_at_call 110; (with_reducible first | (refine (HS.out _).mono ?_) | (refine (HP.out _).mono ?_)); rintro e w' ⟨rfl, rfl⟩)
                | (go_at_call 87; refine (HA3.out _).mono ?_; rintro e w' ⟨rfl, rfl⟩)
                | (go_at_call 111; refine (HC.out _ HL5.out).mono ?_; rintro e w2 ⟨rfl, hl2, hj2⟩; have HB2 := Lib.hid (below_just HB5.out hj2 HLS.out); have HL2 := Lib.hid hl2; clear hl2 hj2)
                | (go_at_call 96; refine (new_yes 9 (by omega) (by omega) _ (HN.out.kept HB2.out)).mono ?_; rintro e w' ⟨rfl, rfl⟩)
                | (go_at_call 95; refine (at_any (k : Int) _ [] 9 _ rfl).mono ?_; rintro e w3 ⟨y, rfl, hy, hb3⟩; have HY := Lib.hid hy; have HB3 := Lib.hid (HB2.out.trans (hb3.mono HB2.out.size)); clear hy hb3)
                | (go_at_call 94; refine (in_any 5 _ _ 9 _ HY.out).mono ?_; rintro e w4 ⟨z, rfl, hz, hb4⟩; have HZ := Lib.hid hz; have HB4 := Lib.hid (HB3.out.trans (hb4.mono HB3.out.size)); clear hz hb4))
              go_ret
              exact ⟨z, rfl, .inr ⟨by omega, by omega, HZ.out⟩, HB4.out⟩
            | true =>
              rw [hle] at HC hst
              have HS2 : Hid (q = fb b1A (l.take (k + 1)) (l.drop (k + 1))) := by show _ = _; simpa using hst
              clear hst hs hp hf hle
              go_wp2_with (first
                | (go_at_call 110; (with_reducible first | (refine (HS.out _).mono ?_) | (refine (HP.out _).mono ?_)); rintro e w' ⟨rfl, rfl⟩)
                | (go_at_call 87; refine (HA3.out _).mono ?_; rintro e w' ⟨rfl, rfl⟩)
                | (go_at_call 111; refine (HC.out _ HL5.out).mono ?_; rintro e w2 ⟨rfl, hl2, hj2⟩; have HB2 := Lib.hid (below_just HB5.out hj2 HLS.out); have HL2 := Lib.hid hl2; clear hl2 hj2))
              go_roundw
              case rel => exact ⟨k + 1, by rw [HA.out]; omega, by go_num, by rw [HT.out]; exact HL2.out, HQ.out.trans HS2.out, HB2.out⟩
              case measure => simp [intOf]; omega
    · obtain rfl : k = a := by omega
      have HQ2 : Hid (q = (0, 0)) := by
        show _ = _
        have h := HQ.out.symm.trans HB.out
        rw [← HA.out, fb_end] at h
        exact h
      obtain rfl := HQ2.out
      clear HQ2 HQ HB
      go_wp2
      go_ret
      exact ⟨.nilIface, rfl, .inl ⟨rfl, rfl, rfl, rfl⟩, HE.out⟩
end Go.Proofs.YtpdoihndpnpifaaDoor.Act

namespace Go.Proofs.YtpdoihndpnpifaaDoor.Act

open Go.RowKit Go.PlainAid Go.Proofs.YtpdoihndpnpifaaDoor.Oct Go.Proofs.YtpdoihndpnpifaaDoor.Flt Go.Proofs.YtpdoihndpnpifaaDoor.Rdr Go.Proofs.YtpdoihndpnpifaaDoor.Args

open Go.Proofs.YtpdoihndpnpifaaDoor.Prt (fb fb_step fb_end take_snoc put1q QPost)

open Go.Proofs.YtpdoihndpnpifaaDoor.Hdr (own_bytes owns_base iface_of_wrong)

open Go.Proofs.YtpdoihndpnpifaaDoor.Byt (bytes_kept own_open clone_any)

set_option linter.unusedVariables false

set_option linter.unusedSimpArgs false

def OPost (x : A3) (w : World) (e : Ending) (w' : World) : Prop := ∃ V, e = .returned V ∧ w'.ownsRow w.heap.size 5 1 V 3 ((act1 x).map (Value.int .u8)) ∧ Below w.heap.size w w'
set_option maxRecDepth 8000 in
set_option maxHeartbeats 1600000 in
theorem bytesOf_any (x : A3) (w : World) (hs : 0 ≤ x.s ∧ x.s ≤ 255) (hp : 0 ≤ x.p ∧ x.p ≤ 255) (ha : 0 ≤ x.a ∧ x.a ≤ 255) :
    Calls Tryd.prog 82 #[.agg (actC x)] w (OPost x w) := by
  have HX : Hid (act1 x = (low x.s.toNat 1 ++ low x.p.toNat 1) ++ low x.a.toNat 1) := rfl
  unfold OPost
  rw [HX.out]
  obtain ⟨s, p, ac⟩ := x
  dsimp only at hs hp ha ⊢
  obtain ⟨s, rfl⟩ := Int.eq_ofNat_of_zero_le hs.1
  obtain ⟨p, rfl⟩ := Int.eq_ofNat_of_zero_le hp.1
  obtain ⟨ac, rfl⟩ := Int.eq_ofNat_of_zero_le ha.1
  have hs1 : s ≤ 255 := by omega
  have hp1 : p ≤ 255 := by omega
  have ha1 : ac ≤ 255 := by omega
  have hw1 : IntKind.u64.wrap (s : Int) = s := by rw [IntKind.wrap_u64]; omega
  have hw2 : IntKind.u64.wrap (p : Int) = p := by rw [IntKind.wrap_u64]; omega
  have hw3 : IntKind.u64.wrap (ac : Int) = ac := by rw [IntKind.wrap_u64]; omega
  have HB0 : Hid (Below w.heap.size w (w.alloc (.cells #[.int .i64 s, .int .i64 p, .int .i64 ac] 138))) := (Below.refl _ _).alloc (Nat.le_refl _) _
  have HR0 := Lib.hid (heap_alloc_new w (.cells #[.int .i64 s, .int .i64 p, .int .i64 ac] 138))
  simp only [Int.toNat_natCast]
  unfold actC
  dsimp only
  clear hs hp ha HX
  go_enter Tryd.func82, Tryd.ntmps82
  go_wp2_with fail
  refine (put1q none 0 0 [] s _ ⟨rfl, fun h => absurd h (by omega)⟩ (by omega) hs1).mono ?_
  rintro e w1 ⟨G1, n1, k1, rfl, hn1, hg1, ho1, hb1⟩
  rw [List.nil_append] at hn1 ho1
  have HX1 := Lib.hid (own_bytes ho1)
  have HB1 := Lib.hid (HB0.out.trans (hb1.mono HB0.out.size))
  have hr1 := (hb1.block _ (lt_of_block HR0.out)).trans HR0.out
  have HR1 := Lib.hid hr1
  have HN1 : Hid (n1 = 1) := by show _ = _; rw [hn1, low_length]
  have e2 := cell_of_row w1 _ 1 _ _ _ hr1
  simp only [List.getElem?_toArray, List.getElem?_cons_zero, List.getElem?_cons_succ] at e2
  clear hb1 ho1 hr1 hn1 hg1 HR0 HB0
  go_wp2_with fail
  refine (put1q (some ⟨G1, 0, none⟩) n1 k1 (low s 1) p _ HX1.out (by have := HN1.out; omega) hp1).mono ?_
  rintro e w2 ⟨G2, n2, k2, rfl, hn2, hg2, ho2, hb2⟩
  have HX2 := Lib.hid (own_bytes ho2)
  have HB2 := Lib.hid (HB1.out.trans (hb2.mono HB1.out.size))
  have hr2 := (hb2.block _ (lt_of_block HR1.out)).trans HR1.out
  have HN2 : Hid (n2 = 2) := by show _ = _; rw [hn2]; simp [low_length]
  have e1 := cell_of_row w2 _ 2 _ _ _ hr2
  simp only [List.getElem?_toArray, List.getElem?_cons_zero, List.getElem?_cons_succ] at e1
  clear hb2 ho2 hr2 hn2 hg2 HR1 HX1 e2
  go_wp2_with fail
  refine (put1q (some ⟨G2, 0, none⟩) n2 k2 _ ac _ HX2.out (by have := HN2.out; omega) ha1).mono ?_
  rintro e w3 ⟨G3, n3, k3, rfl, hn3, hg3, ho3, hb3⟩
  have hn3' : n3 = 3 := by rw [hn3]; simp [low_length]
  subst hn3'
  have HB3 := Lib.hid (HB2.out.trans (hb3.mono HB2.out.size))
  have HO3 := Lib.hid (owns_base ho3 HB2.out.size)
  clear hb3 ho3 hn3 hg3 HX2 e1
  go_wp2
  go_ret
  exact ⟨_, rfl, HO3.out, HB3.out⟩
def PNo (l : List A3) (w : World) (n : Nat) (xs : List Int) (e : Ending) (w' : World) : Prop :=
  ∃ V x, e = .returned (.tuple #[V, x]) ∧ w'.ownsRow w.heap.size 5 1 V n (xs.map (Value.int .u8)) ∧ Wrong w' x (badA l).1 (sec5 (badA l).1) (badA l).2 ∧ Below w.heap.size w w'
def PYes (l : List A3) (w : World) (xs : List Int) (e : Ending) (w' : World) : Prop :=
  ∃ V n, e = .returned (.tuple #[V, .nilIface]) ∧ w'.ownsRow w.heap.size 5 1 V n ((xs ++ actB l).map (Value.int .u8)) ∧ Below w.heap.size w w'
set_option maxRecDepth 8000 in
set_option maxHeartbeats 800000 in
theorem aput_no (l : List A3) (P : Option Addr) (pc : Nat) (A : Option Addr) (len cap : Nat) (xs : List Int) (w : World) (hb : (badA l).1 ≠ 0) (hn : Names w) (h1 : ActsAt w P l) (hw : ∀ x ∈ l, Wide x) (hl : l.length ≤ 1000) (hx : IsBytes w A len xs) (hnil : A = none → len = 0 ∧ cap = 0) (hlen : len ≤ 1073741824) :
    Calls Tryd.prog 36 #[.slice A len cap, .slice P l.length pc] w (PNo l w len xs) := by
  have HC := Lib.hid (clone_any A len cap xs w hx hnil (by omega))
  have HN := Lib.hid hn
  have H1 := Lib.hid h1
  have HWR : Hid (∀ w1, Below w.heap.size w w1 → Calls Tryd.prog 81 #[.slice P l.length pc] w1 (WPost (badA l) w1)) := fun w1 b => wrong_any P pc l w1 (hn.kept b) (h1.kept b) hw hl
  have HB := Lib.hid hb
  obtain ⟨a, ha⟩ : ∃ a, l.length = a := ⟨_, rfl⟩
  rw [ha] at HWR
  rw [ha]
  clear hn h1 hw hl hx hnil hb ha
  go_enter Tryd.func36, Tryd.ntmps36
  go_wp2_with (go_at_call 51; refine HC.out.mono ?_; rintro e w1 ⟨V, rfl, ho, hb1⟩; have HO := Lib.hid ho; have HB1 := Lib.hid hb1; clear ho hb1)
  refine (HWR.out _ HB1.out).mono ?_
  rintro e w2 ⟨x, rfl, hw, hb2⟩
  obtain ⟨u, y, rfl⟩ := iface_of_wrong hw HB.out
  have HW := Lib.hid hw
  have HB2 := Lib.hid hb2
  clear hw hb2
  go_wp2
  go_ret2
  exact ⟨V, _, rfl, Byt.owns_kept HO.out HB2.out, HW.out, HB1.out.trans (HB2.out.mono HB1.out.size)⟩
def GRel (l : List A3) (len : Nat) (xs : List Int) (w : World) (v i : Value) (wr : World) : Prop :=
  ∃ k : Nat, k ≤ l.length ∧ i = .int .i64 k ∧ wr.ownsRow w.heap.size 5 1 v (len + k * 3) ((xs ++ actB (l.take k)).map (Value.int .u8)) ∧ Below w.heap.size w wr
theorem right_all {l : List A3} (h : (badA l).1 = 0) : ∀ x ∈ l, (0 ≤ x.s ∧ x.s ≤ 255) ∧ (0 ≤ x.p ∧ x.p ≤ 255) ∧ (0 ≤ x.a ∧ x.a ≤ 255) := by
  intro x hx
  obtain ⟨i, hi, rfl⟩ := List.mem_iff_getElem.1 hx
  obtain ⟨h1, h2, h3, _⟩ := bad1_right (bad_right h i _ (List.getElem?_eq_getElem hi))
  exact ⟨h1, h2, by omega⟩
set_option maxRecDepth 8000 in
set_option maxHeartbeats 3200000 in
theorem aput_yes (l : List A3) (P : Option Addr) (pc : Nat) (A : Option Addr) (len cap : Nat) (xs : List Int) (w : World) (hb : (badA l).1 = 0) (hn : Names w) (h1 : ActsAt w P l) (hw : ∀ x ∈ l, Wide x) (hl : l.length ≤ 1000) (hx : IsBytes w A len xs) (hnil : A = none → len = 0 ∧ cap = 0) (hlen : len ≤ 1073741824) :
    Calls Tryd.prog 36 #[.slice A len cap, .slice P l.length pc] w (PYes l w xs) := by
  obtain ⟨i0, hi, hz0, hz1, hz2⟩ := info_parts infoU8
  have HC := Lib.hid (clone_any A len cap xs w hx hnil (by omega))
  have H1 := Lib.hid h1
  have HWR : Hid (∀ w1, Below w.heap.size w w1 → Calls Tryd.prog 81 #[.slice P l.length pc] w1 fun e w' => e = .returned .nilIface ∧ Below w1.heap.size w1 w') := fun w1 b => by
    refine (wrong_any P pc l w1 (hn.kept b) (h1.kept b) hw hl).mono ?_
    rintro e w' ⟨x, rfl, hx, hb'⟩
    rw [hb] at hx
    rcases hx with ⟨_, _, _, rfl⟩ | ⟨h, _⟩
    · exact ⟨rfl, hb'⟩
    · omega
  have HRG := Lib.hid (right_all hb)
  obtain ⟨a, ha⟩ : ∃ a, l.length = a := ⟨_, rfl⟩
  have HA := Lib.hid ha
  rw [ha] at HWR hl
  rw [ha]
  clear hn h1 hw hx hnil hb ha
  go_enter Tryd.func36, Tryd.ntmps36
  go_wp2_with (go_at_call 51; refine HC.out.mono ?_; rintro e w1 ⟨V, rfl, ho, hb1⟩; have HO := Lib.hid ho; have HB1 := Lib.hid hb1; clear ho hb1)
  refine (HWR.out _ HB1.out).mono ?_
  rintro e w2 ⟨rfl, hb2⟩
  have HO2 : Hid (w2.ownsRow w.heap.size 5 1 V (len + 0 * 3) ((xs ++ actB (l.take 0)).map (Value.int .u8))) := by
    have h := Byt.owns_kept HO.out hb2
    show World.ownsRow _ _ _ _ _ _ _
    simpa [actB] using h
  have HB2 := Lib.hid (HB1.out.trans (hb2.mono HB1.out.size))
  clear hb2
  go_wp2
  go_loopw [6, 20] (fun v i wr => GRel l len xs w v i wr) (fun _ i _ => a - (intOf i).toNat)
  case atStart => exact ⟨0, Nat.zero_le _, rfl, HO2.out, HB2.out⟩
  case round =>
    obtain ⟨k, hk, rfl, ho, hbel⟩ := hrel
    have hka : k ≤ a := by rw [← HA.out]; exact hk
    have HOO := Lib.hid ho
    have HE := Lib.hid hbel
    clear hk ho hbel HO2 HB2 HO HB1 HC HWR
    by_cases hlt : k < a
    · obtain ⟨x, hx⟩ : ∃ x, l[k]? = some x := ⟨_, List.getElem?_eq_getElem (by rw [HA.out]; exact hlt)⟩
      obtain ⟨ax, rfl, c1, c2, c3⟩ := (H1.out.kept HE.out) k x hx
      obtain ⟨r1, r2, r3⟩ := HRG.out x (List.mem_of_getElem? hx)
      have HBO := Lib.hid (fun w1 => bytesOf_any x w1 r1 r2 r3)
      have HT : Hid (actB (l.take (k + 1)) = actB (l.take k) ++ act1 x) := by show _ = _; rw [take_snoc l k x hx, actB_snoc]
      have hb5 : ∀ o, Below wr.heap.size wr (wr.alloc o) := fun o => (Below.refl _ _).alloc (Nat.le_refl _) o
      have HB5 := Lib.hid hb5
      obtain ⟨PB, hPB⟩ : ∃ PB, act1 x = PB := ⟨_, rfl⟩
      have HPL : Hid (PB.length = 3) := by show _ = _; rw [← hPB]; exact act1_len x
      unfold OPost at HBO
      rw [hPB] at HT HBO
      obtain ⟨s, p, ac⟩ := x
      unfold actC at HBO
      dsimp only at c1 c2 c3 HBO
      have hki : (0 : Int) ≤ k := by omega
      have hkb : (k : Int) < a := by omega
      clear hx hb5 hPB r1 r2 r3
      go_wp2_with fail
      refine (HBO.out _).mono ?_
      rintro e w3 ⟨V3, rfl, ho3, hb3⟩
      obtain ⟨G3, k3, rfl, hg3, hgl3, hk3⟩ := own_open ho3 (by omega)
      have hbb := HE.out.trans (((HB5.out _).trans (hb3.mono (HB5.out _).size)).mono HE.out.size)
      have HB6 := Lib.hid hbb
      have HO6 := Lib.hid (Byt.owns_kept HOO.out ((HB5.out _).trans (hb3.mono (HB5.out _).size)))
      have HAT := Lib.hid (Byt.bytes_at (own_bytes ho3))
      clear ho3 hb3 hbb hg3 hgl3 hk3
      go_wp2_with (at_builtin; refine wpList_append_own _ rfl _ _ 41 rfl w.heap.size 5 i0 (.int .u8 0) 1 1 underU8 hi hz0 hz1 hz2 rfl (by decide) _ (len + k * 3) _ rfl HO6.out ⟨G3, 0, none⟩ 3 k3 (PB.map (Value.int .u8)) rfl ?c1 ?c2 ?c3 ?c4 ?c5 ?c6 ?_)
      case c1 => rw [List.length_map, HPL.out]
      case c2 => exact HAT.out
      case c3 => exact ints_oneCell _ _
      case c4 => unfold maxLen; omega
      case c5 => omega
      case c6 => exact HB6.out.size
      intro v' w7 ho7 hg7 _
      have HB7 := Lib.hid (HB6.out.grown hg7 HB6.out.size (fun j hj => (HO6.out.lt j hj).1))
      have HO7 : Hid (w7.ownsRow w.heap.size 5 1 v' (len + (k + 1) * 3) ((xs ++ actB (l.take (k + 1))).map (Value.int .u8))) := by
        rw [HT.out]
        show World.ownsRow _ _ _ _ _ _ _
        rw [show len + (k + 1) * 3 = len + k * 3 + 3 by omega]
        simpa [List.append_assoc] using ho7
      clear ho7 hg7
      go_wp2
      go_roundw
      case rel => exact ⟨k + 1, by rw [HA.out]; omega, by go_num, HO7.out, HB7.out⟩
      case measure => simp [intOf]; omega
    · obtain rfl : k = a := by omega
      have HT : Hid (l.take k = l) := by show _ = _; rw [List.take_of_length_le (by rw [HA.out]; omega)]
      go_wp2
      go_ret2
      exact ⟨_, _, rfl, by have h := HOO.out; rw [HT.out] at h; exact h, HE.out⟩
end Go.Proofs.YtpdoihndpnpifaaDoor.Act

namespace Go.Proofs.YtpdoihndpnpifaaDoor.Act

open Go.RowKit Go.PlainAid Go.Proofs.YtpdoihndpnpifaaDoor.Oct Go.Proofs.YtpdoihndpnpifaaDoor.Flt Go.Proofs.YtpdoihndpnpifaaDoor.Rdr Go.Proofs.YtpdoihndpnpifaaDoor.Args

open Go.Proofs.YtpdoihndpnpifaaDoor.Prt (fb fb_step fb_end take_snoc below_drewN)

open Go.Proofs.YtpdoihndpnpifaaDoor.Hdr (below_set2)

set_option linter.unusedVariables false

set_option linter.unusedSimpArgs false

theorem lessB_open (x y : A3) : lessB x y = (decide (x.s < y.s) || ((x.s == y.s) && decide (x.p < y.p))) := rfl
set_option maxRecDepth 4000 in
theorem less11_any (x y : A3) (w : World) :
    Calls Tryd.prog 83 #[.agg (actC x), .agg (actC y)] w fun e w' => e = .returned (.bool (lessB x y)) ∧ Below w.heap.size w w' := by
  have HB := Lib.hid (fun o1 o2 => two_below w o1 o2)
  rw [lessB_open]
  unfold actC
  cases h1 : decide (x.s < y.s)
  · cases h2 : (x.s == y.s)
    · go_enter Tryd.func83, Tryd.ntmps83
      go_wp2
      go_ret
      exact ⟨rfl, HB.out _ _⟩
    · cases h3 : decide (x.p < y.p)
      all_goals
        go_enter Tryd.func83, Tryd.ntmps83
        go_wp2
        go_ret
        exact ⟨rfl, HB.out _ _⟩
  · go_enter Tryd.func83, Tryd.ntmps83
    go_wp2
    go_ret
    exact ⟨rfl, HB.out _ _⟩
theorem ActsAt.drewN {w : World} {A : Option Addr} {l : List A3} (h : ActsAt w A l) (n : Nat) : ActsAt (w.drewN n) A l := h
theorem eq_act (a b c : Int) (w : World) : (Op.equalIn 10000 138 (.agg #[.int .i64 a, .int .i64 b, .int .i64 c]) (.agg #[.int .i64 a, .int .i64 b, .int .i64 c])).run Tryd.prog w = .ok true w := by
  have hS : Tryd.prog.underlying 138 = some (.struct (Tryd.prog.fieldsOf 138)) := by kernel_rfl
  rw [show (10000 : Nat) = 9999 + 1 from rfl, run_equalIn_agg w 9999 138 _ _ hS (by kernel_rfl)]
  simp only [Program.fieldsOf, Tryd.underlying138]
  go_simp
set_option maxRecDepth 4000 in
set_option maxHeartbeats 1600000 in
theorem same_any (A B : Option Addr) (ca cb : Nat) (l : List A3) (w : World) (h1 : ActsAt w A l) (h2 : ActsAt w B l) (hl : l.length ≤ maxLen) :
    Calls Tryd.prog 40 #[.slice A l.length ca, .slice B l.length cb] w fun e w' => e = .returned (.bool true) ∧ ∃ n, w' = w.drewN n := by
  unfold maxLen at hl
  obtain ⟨a, ha⟩ : ∃ a, l.length = a := ⟨_, rfl⟩
  have HA := Lib.hid ha
  rw [ha] at hl
  rw [ha]
  have H1 := Lib.hid h1
  have H2 := Lib.hid h2
  clear h1 h2 ha
  have tne : ((a : Int) != (a : Int)) = false := by simp
  go_enter Tryd.func40, Tryd.ntmps40
  go_wp2
  go_loopw [5] (fun i wr => ∃ k n : Nat, k ≤ a ∧ i = .int .i64 k ∧ wr = w.drewN n) (fun i _ => a - (intOf i).toNat)
  case atStart => exact ⟨0, 0, Nat.zero_le _, rfl, rfl⟩
  case round =>
    obtain ⟨k, n, hk, rfl, hw⟩ := hrel
    have HW := Lib.hid hw
    by_cases hlt : k < a
    · obtain ⟨x, hx⟩ : ∃ x, l[k]? = some x := ⟨_, List.getElem?_eq_getElem (by rw [HA.out]; exact hlt)⟩
      obtain ⟨ax, rfl, c1, c2, c3⟩ := H1.out k x hx
      obtain ⟨ay, rfl, c4, c5, c6⟩ := H2.out k x hx
      have c1' : wr.cell? (ax.add (k * 3)) = some (.int .i64 x.s) := by rw [hw]; exact c1
      have c2' : wr.cell? ⟨(ax.add (k * 3)).block, (ax.add (k * 3)).off + 1, none⟩ = some (.int .i64 x.p) := by rw [hw]; exact c2
      have c3' : wr.cell? ⟨(ax.add (k * 3)).block, (ax.add (k * 3)).off + 2, none⟩ = some (.int .i64 x.a) := by rw [hw]; exact c3
      have c4' : wr.cell? (ay.add (k * 3)) = some (.int .i64 x.s) := by rw [hw]; exact c4
      have c5' : wr.cell? ⟨(ay.add (k * 3)).block, (ay.add (k * 3)).off + 1, none⟩ = some (.int .i64 x.p) := by rw [hw]; exact c5
      have c6' : wr.cell? ⟨(ay.add (k * 3)).block, (ay.add (k * 3)).off + 2, none⟩ = some (.int .i64 x.a) := by rw [hw]; exact c6
      have heq : ∀ wx : World, (Op.equalIn 10000 138 (.agg #[.int .i64 x.s, .int .i64 x.p, .int .i64 x.a]) (.agg #[.int .i64 x.s, .int .i64 x.p, .int .i64 x.a])).run Tryd.prog wx = .ok true wx := fun wx => eq_act _ _ _ wx
      have hki : (0 : Int) ≤ k := by omega
      have hka : (k : Int) < a := by omega
      clear hw hx c1 c2 c3 c4 c5 c6 H1 H2
      go_wp2
      go_quiet (fail)
      go_wp2
      go_roundw
      case rel => exact ⟨k + 1, n + nq, by omega, by go_num, by rw [HW.out, World.drewN_drewN]⟩
      case measure => simp [intOf]; omega
    · obtain rfl : k = a := by omega
      clear hw
      go_wp2
      go_ret
      exact ⟨rfl, n, HW.out⟩
theorem low_1 {n : Int} (h0 : 0 ≤ n) (h1 : n ≤ 255) : low n.toNat 1 = [n] := by
  simp [low]; omega
theorem idB_lo {n : Int} (h : decide (n < 0) = true) : idB n = false := by have := of_decide_eq_true h; unfold idB; simp; omega
theorem idB_hi {n : Int} (h : decide (255 < n) = true) : idB n = false := by have := of_decide_eq_true h; unfold idB; simp; omega
theorem idB_in {n : Int} (h : decide (n < 0) = false) (h2 : decide (255 < n) = false) : idB n = true := by have := of_decide_eq_false h; have := of_decide_eq_false h2; unfold idB; simp; omega
theorem form_no {n : Int} (h : (n != 1) = true) (h2 : (n != 2) = true) : formB n = false := by simp at h h2; unfold formB; simp [h, h2]
theorem form_1 {n : Int} (h : (n != 1) = false) : formB n = true := by simp at h; unfold formB; simp [h]
theorem form_2 {n : Int} (h : (n != 2) = false) : formB n = true := by simp at h; unfold formB; simp [h]
theorem kept6 {W w2 : World} {a b c d e f : Addr} {va vb vc vd ve vf : Value} (h : W.cell? a = some va ∧ W.cell? b = some vb ∧ W.cell? c = some vc ∧ W.cell? d = some vd ∧ W.cell? e = some ve ∧ W.cell? f = some vf) (hb : Below W.heap.size W w2) : w2.cell? a = some va ∧ w2.cell? b = some vb ∧ w2.cell? c = some vc ∧ w2.cell? d = some vd ∧ w2.cell? e = some ve ∧ w2.cell? f = some vf := by
  obtain ⟨h1, h2, h3, h4, h5, h6⟩ := h
  exact ⟨(hb.cell (Go.block_lt_of_cell h1)).trans h1, (hb.cell (Go.block_lt_of_cell h2)).trans h2, (hb.cell (Go.block_lt_of_cell h3)).trans h3, (hb.cell (Go.block_lt_of_cell h4)).trans h4, (hb.cell (Go.block_lt_of_cell h5)).trans h5, (hb.cell (Go.block_lt_of_cell h6)).trans h6⟩
def ERel (l : List A3) (w : World) (i : Value) (wr : World) : Prop :=
  ∃ k : Nat, k ≤ l.length ∧ i = .int .i64 k ∧ badA l = fb b1A (l.take k) (l.drop k) ∧ wr.heap[w.heap.size]? = some (.cells #[.int .i64 0, .int .i64 0, .int .i64 0] 49 (0, 0)) ∧ Below w.heap.size w wr
set_option maxRecDepth 8000 in
set_option maxHeartbeats 3200000 in
theorem wrong11_any (A : Option Addr) (cap : Nat) (l : List A3) (w : World) (h1 : ActsAt w A l) (hl : l.length ≤ 1000) :
    Calls Tryd.prog 37 #[.slice A l.length cap] w fun e w' => e = .returned (fltV (badA l).1 (sec5 (badA l).1) (badA l).2) ∧ Below w.heap.size w w' := by
  have H1 := Lib.hid h1
  obtain ⟨a, ha⟩ : ∃ a, l.length = a := ⟨_, rfl⟩
  have HA := Lib.hid ha
  rw [ha] at hl
  rw [ha]
  obtain ⟨q, hq⟩ : ∃ q, badA l = q := ⟨_, rfl⟩
  have HQ := Lib.hid hq
  rw [hq]
  have HO := fun a b c => Lib.hid (one_flt a b c)
  have HB0 : Hid (Below w.heap.size w (w.alloc (.cells #[.int .i64 0, .int .i64 0, .int .i64 0] 49))) := (Below.refl _ _).alloc (Nat.le_refl _) _
  have HF0 := Lib.hid (heap_alloc_new w (.cells #[.int .i64 0, .int .i64 0, .int .i64 0] 49))
  unfold fltV
  clear h1 ha hq
  go_enter Tryd.func37, Tryd.ntmps37
  go_wp2
  go_loopw [3] (fun i wr => ERel l w i wr) (fun i _ => a - (intOf i).toNat)
  case atStart => exact ⟨0, Nat.zero_le _, rfl, by simp [badA], HF0.out, HB0.out⟩
  case round =>
    obtain ⟨k, hk, rfl, hb, hf, hbel⟩ := hrel
    have HB := Lib.hid hb
    have HE := Lib.hid hbel
    have HF := Lib.hid hf
    have hka : k ≤ a := by rw [← HA.out]; exact hk
    clear hb hk hbel hf HB0 HF0
    by_cases hlt : k < a
    · obtain ⟨x, hx⟩ : ∃ x, l[k]? = some x := ⟨_, List.getElem?_eq_getElem (by rw [HA.out]; exact hlt)⟩
      have HPK := Lib.hid (H1.out.kept HE.out)
      obtain ⟨ax, rfl, c1, c2, c3⟩ := HPK.out k x hx
      have hst := (HB.out.symm.trans HQ.out).symm.trans (fb_step b1A l k x hx)
      have hbd : b1A (l.take k) x = if (idB x.s && idB x.p) = false then 18 else if formB x.a = false then 6 else if lessB (lastOf (l.take k)) x = false then 9 else 0 := rfl
      rw [hbd] at hst
      have HX := Lib.hid hx
      have HLS := Lib.hid (fun (y : A3) W => less11_any y x W)
      have hxx : Act.actC x = #[.int .i64 x.s, .int .i64 x.p, .int .i64 x.a] := rfl
      have HB2 : Hid (Below w.heap.size w (wr.alloc (.cells #[.int .i64 x.s, .int .i64 x.p, .int .i64 x.a] 138))) := HE.out.alloc HE.out.size _
      have HF2 : Hid ((wr.alloc (.cells #[.int .i64 x.s, .int .i64 x.p, .int .i64 x.a] 138)).heap[w.heap.size]? = some (.cells #[.int .i64 0, .int .i64 0, .int .i64 0] 49 (0, 0))) := (heap_alloc_old _ _ (lt_of_block HF.out)).trans HF.out
      have HP2 : Hid (ActsAt (wr.alloc (.cells #[.int .i64 x.s, .int .i64 x.p, .int .i64 x.a] 138)) (some ax) l) := HPK.out.kept ((Below.refl _ _).alloc (Nat.le_refl _) _)
      have HXR := Lib.hid (heap_alloc_new wr (.cells #[.int .i64 x.s, .int .i64 x.p, .int .i64 x.a] 138))
      rw [hxx] at HLS
      obtain ⟨s, p, ac⟩ := x
      dsimp only at c1 c2 c3 hst HB2 HF2 HP2 HXR
      have hki : (0 : Int) ≤ k := by omega
      have hkb : (k : Int) < a := by omega
      clear hx hbd hxx HPK
      cases t1 : decide (s < 0) with
      | true =>
        obtain rfl : q = (18, (k : Int)) := by
          rw [idB_lo t1] at hst
          simpa using hst
        clear hst HQ
        go_wp2_with ((with_reducible show wpList _ _ _ _ _ _); refine wpList_store_row rfl 49 (.tmp 2) (.tmp 34) rfl w.heap.size #[.int .i64 18, .int .i64 5, .int .i64 k] rfl rfl 49 #[.int .i64 0, .int .i64 0, .int .i64 0] HF2.out (by rw [size_flt]; rfl) rfl (HO _ _ _).out ?_)
        refine bodyPost_ret (v := .agg #[.int .i64 18, .int .i64 5, .int .i64 k]) (results_cell_row (by rfl) _ _ w.heap.size 49 _ (0, 0) _ rfl (setRow_heap _ _ _ _ _ _ HF2.out) Tryd.underlying49 rfl (by rw [size_flt]; rfl)) rfl ⟨rfl, ?_⟩
        exact below_set2 HB2.out (Nat.le_refl _)
      | false =>
      cases t2 : decide (255 < s) with
      | true =>
        obtain rfl : q = (18, (k : Int)) := by
          rw [idB_hi t2] at hst
          simpa using hst
        clear hst HQ
        go_wp2_with ((with_reducible show wpList _ _ _ _ _ _); refine wpList_store_row rfl 49 (.tmp 2) (.tmp 34) rfl w.heap.size #[.int .i64 18, .int .i64 5, .int .i64 k] rfl rfl 49 #[.int .i64 0, .int .i64 0, .int .i64 0] HF2.out (by rw [size_flt]; rfl) rfl (HO _ _ _).out ?_)
        refine bodyPost_ret (v := .agg #[.int .i64 18, .int .i64 5, .int .i64 k]) (results_cell_row (by rfl) _ _ w.heap.size 49 _ (0, 0) _ rfl (setRow_heap _ _ _ _ _ _ HF2.out) Tryd.underlying49 rfl (by rw [size_flt]; rfl)) rfl ⟨rfl, ?_⟩
        exact below_set2 HB2.out (Nat.le_refl _)
      | false =>
      cases t3 : decide (p < 0) with
      | true =>
        obtain rfl : q = (18, (k : Int)) := by
          rw [idB_lo t3, Bool.and_false] at hst
          simpa using hst
        clear hst HQ
        go_wp2_with ((with_reducible show wpList _ _ _ _ _ _); refine wpList_store_row rfl 49 (.tmp 2) (.tmp 34) rfl w.heap.size #[.int .i64 18, .int .i64 5, .int .i64 k] rfl rfl 49 #[.int .i64 0, .int .i64 0, .int .i64 0] HF2.out (by rw [size_flt]; rfl) rfl (HO _ _ _).out ?_)
        refine bodyPost_ret (v := .agg #[.int .i64 18, .int .i64 5, .int .i64 k]) (results_cell_row (by rfl) _ _ w.heap.size 49 _ (0, 0) _ rfl (setRow_heap _ _ _ _ _ _ HF2.out) Tryd.underlying49 rfl (by rw [size_flt]; rfl)) rfl ⟨rfl, ?_⟩
        exact below_set2 HB2.out (Nat.le_refl _)
      | false =>
      cases t4 : decide (255 < p) with
      | true =>
        obtain rfl : q = (18, (k : Int)) := by
          rw [idB_hi t4, Bool.and_false] at hst
          simpa using hst
        clear hst HQ
        go_wp2_with ((with_reducible show wpList _ _ _ _ _ _); refine wpList_store_row rfl 49 (.tmp 2) (.tmp 34) rfl w.heap.size #[.int .i64 18, .int .i64 5, .int .i64 k] rfl rfl 49 #[.int .i64 0, .int .i64 0, .int .i64 0] HF2.out (by rw [size_flt]; rfl) rfl (HO _ _ _).out ?_)
        refine bodyPost_ret (v := .agg #[.int .i64 18, .int .i64 5, .int .i64 k]) (results_cell_row (by rfl) _ _ w.heap.size 49 _ (0, 0) _ rfl (setRow_heap _ _ _ _ _ _ HF2.out) Tryd.underlying49 rfl (by rw [size_flt]; rfl)) rfl ⟨rfl, ?_⟩
        exact below_set2 HB2.out (Nat.le_refl _)
      | false =>
      rw [idB_in t1 t2, idB_in t3 t4] at hst
      cases t5 : (ac != 1) with
      | true =>
        cases t6 : (ac != 2) with
        | true =>
          obtain rfl : q = (6, (k : Int)) := by
            rw [form_no t5 t6] at hst
            simpa using hst
          clear hst HQ
          go_wp2_with ((with_reducible show wpList _ _ _ _ _ _); refine wpList_store_row rfl 49 (.tmp 2) (.tmp 44) rfl w.heap.size #[.int .i64 6, .int .i64 5, .int .i64 k] rfl rfl 49 #[.int .i64 0, .int .i64 0, .int .i64 0] HF2.out (by rw [size_flt]; rfl) rfl (HO _ _ _).out ?_)
          refine bodyPost_ret (v := .agg #[.int .i64 6, .int .i64 5, .int .i64 k]) (results_cell_row (by rfl) _ _ w.heap.size 49 _ (0, 0) _ rfl (setRow_heap _ _ _ _ _ _ HF2.out) Tryd.underlying49 rfl (by rw [size_flt]; rfl)) rfl ⟨rfl, ?_⟩
          exact below_set2 HB2.out (Nat.le_refl _)
        | false =>
          rw [form_2 t6] at hst
          rcases Nat.eq_zero_or_pos k with hk0 | hk0
          · have HQ2 : Hid (q = fb b1A (l.take (k + 1)) (l.drop (k + 1))) := by
              show _ = _
              subst hk0
              rw [show lastOf (l.take 0) = a0 from rfl, less_first (show 0 ≤ (A3.mk s p ac).s from by have := of_decide_eq_false t1; show 0 ≤ s; omega)] at hst
              simpa using hst
            have tk : decide ((0 : Int) < (k : Int)) = false := decide_eq_false (by omega)
            have tk2 : decide (0 < k) = false := decide_eq_false (by omega)
            clear hst hk0
            go_wp2
            go_quiet (fail)
            go_wp2
            go_roundw
            case rel => exact ⟨k + 1, by rw [HA.out]; omega, by go_num, HQ.out.trans HQ2.out, HF2.out, below_drewN HB2.out _⟩
            case measure => simp [intOf]; omega
          · obtain ⟨j, hkj⟩ : ∃ j, k = j + 1 := ⟨k - 1, by omega⟩
            obtain ⟨y, hy⟩ : ∃ y, l[j]? = some y := ⟨_, List.getElem?_eq_getElem (by rw [HA.out]; omega)⟩
            have hla : lastOf (l.take k) = y := by rw [hkj]; exact last_take l j y hy
            rw [hla] at hst
            have tk : decide ((0 : Int) < (k : Int)) = true := decide_eq_true (by omega)
            have tk2 : decide (0 < k) = true := decide_eq_true (by omega)
            have hj1 : IntKind.i64.wrap ((k : Int) - 1) = (j : Int) := by rw [IntKind.wrap_i64]; omega
            have hj0 : (0 : Int) ≤ (j : Int) := by omega
            have hja : (j : Int) < a := by omega
            have HL := Lib.hid (fun W => HLS.out y W)
            obtain ⟨ay, hay, d1, d2, d3⟩ := HP2.out j y hy
            obtain rfl : ax = ay := Option.some.inj hay
            obtain ⟨y1, y2, y3⟩ := y
            unfold actC at HL
            dsimp only at HL d1 d2 d3
            have e0 := cell_of_row _ _ 0 _ _ _ HXR.out
            have e1 := cell_of_row _ _ 1 _ _ _ HXR.out
            have e2 := cell_of_row _ _ 2 _ _ _ HXR.out
            simp only [List.getElem?_toArray, List.getElem?_cons_zero, List.getElem?_cons_succ] at e0 e1 e2
            obtain ⟨bl, hbl⟩ : ∃ b, lessB ⟨y1, y2, y3⟩ ⟨s, p, ac⟩ = b := ⟨_, rfl⟩
            rw [hbl] at HL hst
            have HCE := Lib.hid (And.intro d1 (And.intro d2 (And.intro d3 (And.intro e0 (And.intro e1 e2)))))
            have HST := Lib.hid hst
            clear hy hay hk0 hla hst hbl d1 d2 d3 e0 e1 e2 hkj
            go_wp2
            obtain ⟨W, hW⟩ : ∃ W, (wr.alloc (.cells #[.int .i64 s, .int .i64 p, .int .i64 ac] 138)) = W := ⟨_, rfl⟩
            obtain ⟨C, hC⟩ : ∃ C, wr.heap.size = C := ⟨_, rfl⟩
            rw [hW] at HCE HB2 HF2
            rw [hC] at HCE
            rw [hW, hC]
            clear HP2 HXR hW hC
            obtain ⟨d1, d2, d3, e0, e1, e2⟩ := HCE.out
            have HBD : Hid (Below w.heap.size w W.drew) := HB2.out.drew
            have HFD : Hid (W.drew.heap[w.heap.size]? = some (.cells #[.int .i64 0, .int .i64 0, .int .i64 0] 49 (0, 0))) := HF2.out
            have HCD : Hid (W.drew.cell? (ax.add (j * 3)) = some (.int .i64 y1) ∧ W.drew.cell? ⟨(ax.add (j * 3)).block, (ax.add (j * 3)).off + 1, none⟩ = some (.int .i64 y2) ∧ W.drew.cell? ⟨(ax.add (j * 3)).block, (ax.add (j * 3)).off + 2, none⟩ = some (.int .i64 y3) ∧ W.drew.cell? ⟨C, 0, none⟩ = some (.int .i64 s) ∧ W.drew.cell? ⟨C, 1, none⟩ = some (.int .i64 p) ∧ W.drew.cell? ⟨C, 2, none⟩ = some (.int .i64 ac)) := HCE.out
            cases bl
            all_goals
              go_region_held3 (fun wx => wx.cell? (ax.add (j * 3)) = some (.int .i64 y1) ∧ wx.cell? ⟨(ax.add (j * 3)).block, (ax.add (j * 3)).off + 1, none⟩ = some (.int .i64 y2) ∧ wx.cell? ⟨(ax.add (j * 3)).block, (ax.add (j * 3)).off + 2, none⟩ = some (.int .i64 y3) ∧ wx.cell? ⟨C, 0, none⟩ = some (.int .i64 s) ∧ wx.cell? ⟨C, 1, none⟩ = some (.int .i64 p) ∧ wx.cell? ⟨C, 2, none⟩ = some (.int .i64 ac)) (first | (go_keep; done) | exact HCE.out | exact HKP.out | (refine ⟨?_, ?_, ?_, ?_, ?_, ?_⟩ <;> assumption))
                (first
                  | (go_at_call 83; refine (HL.out _).mono ?_; rintro e w2 ⟨rfl, hb2⟩; have HB3 := Lib.hid (HBD.out.trans (hb2.mono HBD.out.size)); have HF3 := Lib.hid ((hb2.block _ (lt_of_block HFD.out)).trans HFD.out); have HKP := Lib.hid (kept6 HCD.out hb2); clear hb2))
            · obtain rfl : q = (9, (k : Int)) := by
                have hst := HST.out
                simpa using hst
              clear HST HQ
              go_wp2_with ((with_reducible show wpList _ _ _ _ _ _); refine wpList_store_row rfl 49 (.tmp 2) (.tmp 58) rfl w.heap.size #[.int .i64 9, .int .i64 5, .int .i64 k] rfl rfl 49 #[.int .i64 0, .int .i64 0, .int .i64 0] HF3.out (by rw [size_flt]; rfl) rfl (HO _ _ _).out ?_)
              refine bodyPost_ret (v := .agg #[.int .i64 9, .int .i64 5, .int .i64 k]) (results_cell_row (by rfl) _ _ w.heap.size 49 _ (0, 0) _ rfl (setRow_heap _ _ _ _ _ _ HF3.out) Tryd.underlying49 rfl (by rw [size_flt]; rfl)) rfl ⟨rfl, ?_⟩
              exact below_set2 HB3.out (Nat.le_refl _)
            · have HQ2 : Hid (q = fb b1A (l.take (k + 1)) (l.drop (k + 1))) := by
                show _ = _
                have hst := HST.out
                simpa using hst
              clear HST
              go_wp2
              go_roundw
              case rel => exact ⟨k + 1, by rw [HA.out]; omega, by go_num, HQ.out.trans HQ2.out, HF3.out, HB3.out⟩
              case measure => simp [intOf]; omega
      | false =>
        rw [form_1 t5] at hst
        rcases Nat.eq_zero_or_pos k with hk0 | hk0
        · have HQ2 : Hid (q = fb b1A (l.take (k + 1)) (l.drop (k + 1))) := by
            show _ = _
            subst hk0
            rw [show lastOf (l.take 0) = a0 from rfl, less_first (show 0 ≤ (A3.mk s p ac).s from by have := of_decide_eq_false t1; show 0 ≤ s; omega)] at hst
            simpa using hst
          have tk : decide ((0 : Int) < (k : Int)) = false := decide_eq_false (by omega)
          have tk2 : decide (0 < k) = false := decide_eq_false (by omega)
          clear hst hk0
          go_wp2
          go_quiet (fail)
          go_wp2
          go_roundw
          case rel => exact ⟨k + 1, by rw [HA.out]; omega, by go_num, HQ.out.trans HQ2.out, HF2.out, below_drewN HB2.out _⟩
          case measure => simp [intOf]; omega
        · obtain ⟨j, hkj⟩ : ∃ j, k = j + 1 := ⟨k - 1, by omega⟩
          obtain ⟨y, hy⟩ : ∃ y, l[j]? = some y := ⟨_, List.getElem?_eq_getElem (by rw [HA.out]; omega)⟩
          have hla : lastOf (l.take k) = y := by rw [hkj]; exact last_take l j y hy
          rw [hla] at hst
          have tk : decide ((0 : Int) < (k : Int)) = true := decide_eq_true (by omega)
          have tk2 : decide (0 < k) = true := decide_eq_true (by omega)
          have hj1 : IntKind.i64.wrap ((k : Int) - 1) = (j : Int) := by rw [IntKind.wrap_i64]; omega
          have hj0 : (0 : Int) ≤ (j : Int) := by omega
          have hja : (j : Int) < a := by omega
          have HL := Lib.hid (fun W => HLS.out y W)
          obtain ⟨ay, hay, d1, d2, d3⟩ := HP2.out j y hy
          obtain rfl : ax = ay := Option.some.inj hay
          obtain ⟨y1, y2, y3⟩ := y
          unfold actC at HL
          dsimp only at HL d1 d2 d3
          have e0 := cell_of_row _ _ 0 _ _ _ HXR.out
          have e1 := cell_of_row _ _ 1 _ _ _ HXR.out
          have e2 := cell_of_row _ _ 2 _ _ _ HXR.out
          simp only [List.getElem?_toArray, List.getElem?_cons_zero, List.getElem?_cons_succ] at e0 e1 e2
          obtain ⟨bl, hbl⟩ : ∃ b, lessB ⟨y1, y2, y3⟩ ⟨s, p, ac⟩ = b := ⟨_, rfl⟩
          rw [hbl] at HL hst
          have HCE := Lib.hid (And.intro d1 (And.intro d2 (And.intro d3 (And.intro e0 (And.intro e1 e2)))))
          have HST := Lib.hid hst
          clear hy hay hk0 hla hst hbl d1 d2 d3 e0 e1 e2 hkj
          go_wp2
          obtain ⟨W, hW⟩ : ∃ W, (wr.alloc (.cells #[.int .i64 s, .int .i64 p, .int .i64 ac] 138)) = W := ⟨_, rfl⟩
          obtain ⟨C, hC⟩ : ∃ C, wr.heap.size = C := ⟨_, rfl⟩
          rw [hW] at HCE HB2 HF2
          rw [hC] at HCE
          rw [hW, hC]
          clear HP2 HXR hW hC
          obtain ⟨d1, d2, d3, e0, e1, e2⟩ := HCE.out
          have HBD : Hid (Below w.heap.size w W.drew) := HB2.out.drew
          have HFD : Hid (W.drew.heap[w.heap.size]? = some (.cells #[.int .i64 0, .int .i64 0, .int .i64 0] 49 (0, 0))) := HF2.out
          have HCD : Hid (W.drew.cell? (ax.add (j * 3)) = some (.int .i64 y1) ∧ W.drew.cell? ⟨(ax.add (j * 3)).block, (ax.add (j * 3)).off + 1, none⟩ = some (.int .i64 y2) ∧ W.drew.cell? ⟨(ax.add (j * 3)).block, (ax.add (j * 3)).off + 2, none⟩ = some (.int .i64 y3) ∧ W.drew.cell? ⟨C, 0, none⟩ = some (.int .i64 s) ∧ W.drew.cell? ⟨C, 1, none⟩ = some (.int .i64 p) ∧ W.drew.cell? ⟨C, 2, none⟩ = some (.int .i64 ac)) := HCE.out
          cases bl
          all_goals
            go_region_held3 (fun wx => wx.cell? (ax.add (j * 3)) = some (.int .i64 y1) ∧ wx.cell? ⟨(ax.add (j * 3)).block, (ax.add (j * 3)).off + 1, none⟩ = some (.int .i64 y2) ∧ wx.cell? ⟨(ax.add (j * 3)).block, (ax.add (j * 3)).off + 2, none⟩ = some (.int .i64 y3) ∧ wx.cell? ⟨C, 0, none⟩ = some (.int .i64 s) ∧ wx.cell? ⟨C, 1, none⟩ = some (.int .i64 p) ∧ wx.cell? ⟨C, 2, none⟩ = some (.int .i64 ac)) (first | (go_keep; done) | exact HCE.out | exact HKP.out | (refine ⟨?_, ?_, ?_, ?_, ?_, ?_⟩ <;> assumption))
              (first
                | (go_at_call 83; refine (HL.out _).mono ?_; rintro e w2 ⟨rfl, hb2⟩; have HB3 := Lib.hid (HBD.out.trans (hb2.mono HBD.out.size)); have HF3 := Lib.hid ((hb2.block _ (lt_of_block HFD.out)).trans HFD.out); have HKP := Lib.hid (kept6 HCD.out hb2); clear hb2))
          · obtain rfl : q = (9, (k : Int)) := by
              have hst := HST.out
              simpa using hst
            clear HST HQ
            go_wp2_with ((with_reducible show wpList _ _ _ _ _ _); refine wpList_store_row rfl 49 (.tmp 2) (.tmp 58) rfl w.heap.size #[.int .i64 9, .int .i64 5, .int .i64 k] rfl rfl 49 #[.int .i64 0, .int .i64 0, .int .i64 0] HF3.out (by rw [size_flt]; rfl) rfl (HO _ _ _).out ?_)
            refine bodyPost_ret (v := .agg #[.int .i64 9, .int .i64 5, .int .i64 k]) (results_cell_row (by rfl) _ _ w.heap.size 49 _ (0, 0) _ rfl (setRow_heap _ _ _ _ _ _ HF3.out) Tryd.underlying49 rfl (by rw [size_flt]; rfl)) rfl ⟨rfl, ?_⟩
            exact below_set2 HB3.out (Nat.le_refl _)
          · have HQ2 : Hid (q = fb b1A (l.take (k + 1)) (l.drop (k + 1))) := by
              show _ = _
              have hst := HST.out
              simpa using hst
            clear HST
            go_wp2
            go_roundw
            case rel => exact ⟨k + 1, by rw [HA.out]; omega, by go_num, HQ.out.trans HQ2.out, HF3.out, HB3.out⟩
            case measure => simp [intOf]; omega
    · obtain rfl : k = a := by omega
      have HQ2 : Hid (q = (0, 0)) := by
        show _ = _
        have h := HQ.out.symm.trans HB.out
        rw [← HA.out, fb_end] at h
        exact h
      obtain rfl := HQ2.out
      clear HQ2 HQ HB
      go_wp2_with ((with_reducible show wpList _ _ _ _ _ _); refine wpList_store_row rfl 49 (.tmp 2) (.tmp 59) rfl w.heap.size #[.int .i64 0, .int .i64 0, .int .i64 0] rfl rfl 49 #[.int .i64 0, .int .i64 0, .int .i64 0] HF.out (by rw [size_flt]; rfl) rfl (HO _ _ _).out ?_)
      refine bodyPost_ret (v := .agg #[.int .i64 0, .int .i64 0, .int .i64 0]) (results_cell_row (by rfl) _ _ w.heap.size 49 _ (0, 0) _ rfl (setRow_heap _ _ _ _ _ _ HF.out) Tryd.underlying49 rfl (by rw [size_flt]; rfl)) rfl ⟨rfl, ?_⟩
      exact below_set2 HE.out (Nat.le_refl _)
def TRel (l : List A3) (w : World) (v i : Value) (wr : World) : Prop := ∃ k : Nat, k ≤ l.length ∧ i = .int .i64 k ∧ v = .string (strOfNums (actB (l.take k))) ∧ Below w.heap.size w wr
set_option maxRecDepth 8000 in
set_option maxHeartbeats 3200000 in
theorem text11_any (P : Option Addr) (pc : Nat) (l : List A3) (w : World) (h1 : ActsAt w P l) (hr : ∀ x ∈ l, (0 ≤ x.s ∧ x.s ≤ 255) ∧ (0 ≤ x.p ∧ x.p ≤ 255) ∧ (0 ≤ x.a ∧ x.a ≤ 255)) (hl : l.length ≤ 1000) :
    Calls Tryd.prog 38 #[.slice P l.length pc] w fun e w' => e = .returned (.string (strOfNums (actB l))) ∧ Below w.heap.size w w' := by
  have H1 := Lib.hid h1
  have HR := Lib.hid hr
  obtain ⟨a, ha⟩ : ∃ a, l.length = a := ⟨_, rfl⟩
  have HA := Lib.hid ha
  rw [ha] at hl
  rw [ha]
  clear h1 hr ha
  go_enter Tryd.func38, Tryd.ntmps38
  go_wp2
  go_loopw [3, 4] (fun v i wr => TRel l w v i wr) (fun _ i _ => a - (intOf i).toNat)
  case atStart => exact ⟨0, Nat.zero_le _, rfl, rfl, Below.refl _ _⟩
  case round =>
    obtain ⟨k, hk, rfl, rfl, hbel⟩ := hrel
    have hka : k ≤ a := by rw [← HA.out]; exact hk
    have HE := Lib.hid hbel
    clear hk hbel
    by_cases hlt : k < a
    · obtain ⟨x, hx⟩ : ∃ x, l[k]? = some x := ⟨_, List.getElem?_eq_getElem (by rw [HA.out]; exact hlt)⟩
      obtain ⟨ax, rfl, c1, c2, c3⟩ := (H1.out.kept HE.out) k x hx
      obtain ⟨r1, r2, r3⟩ := HR.out x (List.mem_of_getElem? hx)
      have HT : Hid (strOfNums (actB (l.take (k + 1))) = strOfNums (actB (l.take k)) ++ strOfNums (act1 x)) := by show _ = _; rw [take_snoc l k x hx, actB_snoc, strOf_append]
      have hS : (strOfNums (actB (l.take k))).size ≤ 10000 := by
        rw [strOfNums_size, actB_len, List.length_take]; omega
      have hS1 : (strOfNums (act1 x)).size = 3 := by rw [strOfNums_size, act1_len]
      have ha1 : act1 x = [x.s, x.p, x.a] := by unfold act1; rw [low_1 r1.1 r1.2, low_1 r2.1 r2.2, low_1 r3.1 r3.2]; rfl
      have hw1 : IntKind.u8.wrap x.s = x.s := by rw [IntKind.wrap_u8]; omega
      have hw2 : IntKind.u8.wrap x.p = x.p := by rw [IntKind.wrap_u8]; omega
      have hw3 : IntKind.u8.wrap x.a = x.a := by rw [IntKind.wrap_u8]; omega
      have HCV : Hid (∀ (W : World) (g : Nat), W.heap[g]? = some (.cells #[.int .u8 x.s, .int .u8 x.p, .int .u8 x.a] 5 (0, 0)) → (convert 41 9 (.slice (some ⟨g, 0, none⟩) 3 3)).run Tryd.prog W = .ok (.string (strOfNums (act1 x))) W) := fun W g h => by
        rw [ha1]
        refine conv_bytes ⟨rfl, fun _ => ⟨⟨g, 0, none⟩, rfl, fun j v hj => ?_⟩⟩
        have e : (Addr.mk g 0 none).add j = ⟨g, j, none⟩ := by cases j <;> simp [Addr.add]
        rw [e, cell_of_row _ _ _ _ _ _ h, ← hj]
        simp
      obtain ⟨s, p, ac⟩ := x
      dsimp only at c1 c2 c3 hw1 hw2 hw3 HCV
      obtain ⟨SS, hSS⟩ : ∃ S, strOfNums (actB (l.take k)) = S := ⟨_, rfl⟩
      obtain ⟨S1, hS1'⟩ : ∃ S, strOfNums (act1 ⟨s, p, ac⟩) = S := ⟨_, rfl⟩
      rw [hSS, hS1'] at HT
      rw [hSS] at hS
      rw [hS1'] at hS1 HCV
      rw [hSS]
      have hsum : ¬ 9223372036854775807 < SS.size + S1.size := by omega
      have hki : (0 : Int) ≤ k := by omega
      have hkb : (k : Int) < a := by omega
      clear hx hSS hS1' ha1 r1 r2 r3
      have hcv : (convert 41 9 (.slice (some ⟨wr.heap.size, 0, none⟩) 3 3)).run Tryd.prog ((wr.alloc (.cells #[.int .u8 s, .int .u8 p, .int .u8 ac] 5)).drew) = .ok (.string S1) ((wr.alloc (.cells #[.int .u8 s, .int .u8 p, .int .u8 ac] 5)).drew) := HCV.out _ _ (heap_alloc_new wr _)
      have HB5 : Hid (Below w.heap.size w ((wr.alloc (.cells #[.int .u8 s, .int .u8 p, .int .u8 ac] 5)).drew)) := (HE.out.alloc HE.out.size _).drew
      go_wp2
      go_region
      go_wp2
      go_roundw
      case rel => exact ⟨k + 1, by rw [HA.out]; omega, by go_num, by rw [HT.out], HB5.out⟩
      case measure => simp [intOf]; omega
    · obtain rfl : k = a := by omega
      have HT : Hid (l.take k = l) := by show _ = _; rw [List.take_of_length_le (by rw [HA.out]; omega)]
      go_wp2
      go_ret
      exact ⟨by rw [HT.out]; rfl, HE.out⟩
end Go.Proofs.YtpdoihndpnpifaaDoor.Act
