
/- Tables: what table.New hands back. Conditions: at most 1,000 windows, 2 to the power 40 ids; the variables hold what the program lays there. Tables: two runs that are one; the chapter's example. Condition: the variables hold what the program lays there. -/

import Derived.Test.YtofcjkfaccdnjaaDoorTabD

import Derived.Deep.RegionHeld3

namespace Go.Proofs.YtofcjkfaccdnjaaDoor.Tab

open Go.RowKit Go.PlainAid Go.Proofs.YtofcjkfaccdnjaaDoor.Oct Go.Proofs.YtofcjkfaccdnjaaDoor.Flt Go.Proofs.YtofcjkfaccdnjaaDoor.Rdr Go.Proofs.YtofcjkfaccdnjaaDoor.Args Go.Proofs.YtofcjkfaccdnjaaDoor.Win

open Go.Proofs.YtofcjkfaccdnjaaDoor.Act (A3 actL flatA flatA_snoc flatA_get flatA_len ActsAt I64 Wide)

set_option linter.unusedVariables false

set_option linter.unusedSimpArgs false

theorem own_runs {w : World} {B G c : Nat} {l : List A3} (h : w.ownsRow B 98 3 (.slice (some ⟨G, 0, none⟩) l.length c) l.length (flatA l)) : ActsAt w (some ⟨G, 0, none⟩) l := by
  intro i x hx
  have hi : i < l.length := (List.getElem?_eq_some_iff.1 hx).1
  have e : (Addr.mk G 0 none).add (i * 3) = ⟨G, i * 3, none⟩ := by
    rcases Nat.eq_zero_or_pos (i * 3) with h0 | h0
    · rw [h0]; simp [Addr.add]
    · simp [Addr.add]; omega
  refine ⟨_, rfl, ?_, ?_, ?_⟩
  · have := h.cellAt (i * 3 + 0) (by omega)
    rw [flatA_get l i x 0 hx (by omega)] at this
    rw [e]; exact this
  · have := h.cellAt (i * 3 + 1) (by omega)
    rw [flatA_get l i x 1 hx (by omega)] at this
    rw [e]; exact this
  · have := h.cellAt (i * 3 + 2) (by omega)
    rw [flatA_get l i x 2 hx (by omega)] at this
    rw [e]; exact this
theorem own_atR {w : World} {B n : Nat} {V : Value} {l : List A3} (h : w.ownsRow B 98 3 V n (flatA l)) (hn : n = l.length) : ∃ A c, V = .slice A n c ∧ ActsAt w A l := by
  subst hn
  rcases h.2 with ⟨rfl, h0⟩ | ⟨g, c, cur, rfl, h2, h3, h4⟩
  · refine ⟨none, 0, by rw [h0], fun i x hx => ?_⟩
    have : l = [] := List.eq_nil_of_length_eq_zero h0
    rw [this] at hx; simp at hx
  · exact ⟨_, c, rfl, own_runs h⟩
theorem own_capR {w : World} {B n : Nat} {A : Option Addr} {c : Nat} {xs : List Value} (h : w.ownsRow B 98 3 (.slice A n c) n xs) : (A = none → c = 0) ∧ n ≤ c := by
  rcases h.2 with ⟨e, h0⟩ | ⟨g, cap, cur, e, _, _, h3, _⟩
  · cases e; exact ⟨fun _ => rfl, by omega⟩
  · cases e; exact ⟨fun e => by simp at e, h3⟩
set_option maxRecDepth 4000 in
set_option maxHeartbeats 1600000 in
/-- A frame that can't be. -/
theorem tnew_range (id fr : Int) (P : Option Addr) (nl pc : Nat) (C : Option Addr) (nn cc : Nat) (I : Option Addr) (li ci : Nat) (w : World) (hn : Names w) (hf : fr < 1 ∨ 1048576 < fr) :
    Calls Tryd.prog 27 #[.agg #[.int .i64 id, .int .i64 fr, .slice P nl pc, .slice C nn cc], .slice I li ci] w fun e w' => ∃ x, e = .returned (.tuple #[.pointer none, x]) ∧ IsFault w' x [] 18 ∧ Below w.heap.size w w' := by
  have hb0 : Below w.heap.size w (w.alloc (.cells #[.int .i64 id, .int .i64 fr, .slice P nl pc, .slice C nn cc] 37)) := (Below.refl _ _).alloc (Nat.le_refl _) _
  have HB0 := Lib.hid hb0
  have HN := Lib.hid (hn.kept hb0)
  clear hn hb0
  by_cases h1 : fr < 1
  · have t1 : decide (fr < 1) = true := decide_eq_true h1
    clear hf h1
    go_enter Tryd.func27, Tryd.ntmps27
    go_wp2_with fail
    refine (new_yes 18 (by omega) (by omega) _ HN.out).mono ?_
    rintro e w' ⟨rfl, rfl⟩
    go_wp2
    go_ret2
    exact ⟨_, rfl, rfl, HB0.out⟩
  · have t1 : decide (fr < 1) = false := decide_eq_false h1
    have t2 : decide (1048576 < fr) = true := decide_eq_true (by omega)
    clear hf h1
    go_enter Tryd.func27, Tryd.ntmps27
    go_wp2_with fail
    refine (new_yes 18 (by omega) (by omega) _ HN.out).mono ?_
    rintro e w' ⟨rfl, rfl⟩
    go_wp2
    go_ret2
    exact ⟨_, rfl, rfl, HB0.out⟩
/-- What a table is. -/
def NewPost (id fr : Int) (L : List A3) (w : World) (e : Ending) (w' : World) : Prop :=
  ∃ (g : Nat) (A : Option Addr) (c : Nat), e = .returned (.tuple #[.pointer (some ⟨g, 0, none⟩), .nilIface]) ∧ IsT w' g id fr A c L ∧ (A = none → c = 0) ∧ L.length ≤ c ∧ Below w.heap.size w w'
theorem own_geR {w : World} {B n m : Nat} {T : TypeId} {s : Nat} {A : Option Addr} {c : Nat} {xs : List Value} (h : w.ownsRow B T s (.slice A n c) m xs) : ∀ a, A = some a → B ≤ a.block := by
  intro a ha
  rcases h.2 with ⟨e, h0⟩ | ⟨g, cap, cur, e, h3, _⟩
  · cases e; cases ha
  · cases e; cases ha; exact h3
/-- The same, its blocks new ones. -/
def NewPostS (id fr : Int) (L : List A3) (w : World) (e : Ending) (w' : World) : Prop :=
  ∃ (g : Nat) (A : Option Addr) (c : Nat), e = .returned (.tuple #[.pointer (some ⟨g, 0, none⟩), .nilIface]) ∧ IsT w' g id fr A c L ∧ (A = none → c = 0) ∧ L.length ≤ c ∧ Below w.heap.size w w' ∧ w.heap.size ≤ g ∧ ∀ a, A = some a → w.heap.size ≤ a.block
set_option maxRecDepth 8000 in
set_option maxHeartbeats 6400000 in
theorem tnew_own (id : Int) (fr : Nat) (P : Option Addr) (pc : Nat) (l : List A3) (C : Option Addr) (nn cc : Nat) (I : Option Addr) (li ci : Nat) (ids : List Int) (w : World) (hn : Names w) (hI : IntsBelow w.heap.size w (.slice I li ci) ids)
    (h1 : ActsAt w P l) (hw : ∀ x ∈ l, Wide x) (hf : 1 ≤ fr ∧ fr ≤ 1048576) (hl : l.length ≤ 1000) (hids : ids.length ≤ 1099511627776) :
    Calls Tryd.prog 27 #[.agg #[.int .i64 id, .int .i64 (fr : Int), .slice P l.length pc, .slice C nn cc], .slice I li ci] w fun e w' =>
      ((chkW ids (fr : Int) ⟨0, 0, 0⟩ 0 l).1 = 0 ∧ NewPostS id (fr : Int) (runsD (ownT (fr : Int) l) fr) w e w') ∨
      ((chkW ids (fr : Int) ⟨0, 0, 0⟩ 0 l).1 ≠ 0 ∧ ∃ x, e = .returned (.tuple #[.pointer none, x]) ∧ WrongA w' x (chkW ids (fr : Int) ⟨0, 0, 0⟩ 0 l).1 (chkW ids (fr : Int) ⟨0, 0, 0⟩ 0 l).2 ∧ Below w.heap.size w w') := by
  have hb0 : Below w.heap.size w (w.alloc (.cells #[.int .i64 id, .int .i64 (fr : Int), .slice P l.length pc, .slice C nn cc] 37)) := (Below.refl _ _).alloc (Nat.le_refl _) _
  have HB0 := Lib.hid hb0
  have HX0 := Lib.hid (heap_alloc_new w (.cells #[.int .i64 id, .int .i64 (fr : Int), .slice P l.length pc, .slice C nn cc] 37))
  have HCK := Lib.hid (check_any id (fr : Int) P pc l C nn cc I li ci ids _ (hn.kept hb0) ((hI.below hb0).mono hb0.size) (h1.kept hb0) hw ⟨by omega, by omega⟩ hl hids)
  have HCUT : Hid ((chkW ids (fr : Int) ⟨0, 0, 0⟩ 0 l).1 = 0 → ∀ W, Below w.heap.size w W → _) := fun h0 W b => tcut_any id fr P pc l C nn cc W (h1.kept b) (by have h := chain_of ids (fr : Int) l ⟨0, 0, 0⟩ 0 h0; simpa using h) hf hl
  obtain ⟨L, hL⟩ : ∃ L, runsD (ownT (fr : Int) l) fr = L := ⟨_, rfl⟩
  rw [hL] at HCUT
  rw [hL]
  obtain ⟨q, hq⟩ : ∃ q, chkW ids (fr : Int) ⟨0, 0, 0⟩ 0 l = q := ⟨_, rfl⟩
  rw [hq] at HCK HCUT
  rw [hq]
  obtain ⟨a, ha⟩ : ∃ a, l.length = a := ⟨_, rfl⟩
  rw [ha] at HCK HCUT HB0 HX0
  rw [ha]
  have HF : Hid (1 ≤ fr ∧ fr ≤ 1048576) := hf
  have t1 : decide ((fr : Int) < 1) = false := decide_eq_false (by omega)
  have t2 : decide ((1048576 : Int) < (fr : Int)) = false := decide_eq_false (by omega)
  clear hn hI h1 hw hf hl hids hb0 hL hq ha
  go_enter Tryd.func27, Tryd.ntmps27
  go_wp2_with fail
  refine HCK.out.mono ?_
  rintro e w2 ⟨x, rfl, hx, hb2⟩
  have HX2 := Lib.hid ((hb2.block _ (lt_of_block HX0.out)).trans HX0.out)
  have HB2 := Lib.hid (HB0.out.trans (hb2.mono HB0.out.size))
  have HWR := Lib.hid hx
  clear hx hb2 HX0 HB0 HCK
  by_cases hk : q.1 = 0
  · have hxn : x = .nilIface := by
      rcases HWR.out with ⟨_, _, h2⟩ | ⟨h1, _⟩
      · exact h2
      · omega
    subst hxn
    have HK : Hid (q.1 = 0) := hk
    have HCC := Lib.hid (HCUT.out hk)
    have y0 := cell_of_row _ _ 0 _ _ _ HX2.out
    have y1 := cell_of_row _ _ 1 _ _ _ HX2.out
    have y2 := cell_of_row _ _ 2 _ _ _ HX2.out
    have y3 := cell_of_row _ _ 3 _ _ _ HX2.out
    simp only [List.getElem?_toArray, List.getElem?_cons_zero, List.getElem?_cons_succ] at y0 y1 y2 y3
    have HBD : Hid (Below w.heap.size w w2.drew) := HB2.out.drew
    clear hk HWR HCUT
    go_wp2_with fail
    go_region_held3 (fun wx => wx.cell? ⟨w.heap.size, 0, none⟩ = some (.int .i64 id) ∧ wx.cell? ⟨w.heap.size, 1, none⟩ = some (.int .i64 (fr : Int)) ∧ wx.cell? ⟨w.heap.size, 2, none⟩ = some (.slice P a pc) ∧ wx.cell? ⟨w.heap.size, 3, none⟩ = some (.slice C nn cc))
      (first | exact HKP.out | (refine ⟨?_, ?_, ?_, ?_⟩ <;> assumption) | (go_keep; done))
      (first
        | (go_at_call 50; refine (HCC.out _ HBD.out).mono ?_; rintro e w3 ⟨V3, rfl, ho3, hb3⟩; obtain ⟨A3', c3, hV3, hat3⟩ := own_atR ho3 rfl; subst hV3; have hcp := own_capR ho3; have HGE : Hid (∀ a, A3' = some a → w.heap.size ≤ a.block) := fun a ha => Nat.le_trans (Nat.le_trans HBD.out.size (Nat.le_succ _)) (own_geR ho3 a ha); have HSZ : Hid (w.heap.size ≤ w3.heap.size) := Nat.le_trans HBD.out.size hb3.size; have HCP := Lib.hid hcp; have HAT := Lib.hid hat3; have HB3 := Lib.hid (HBD.out.trans (hb3.mono HBD.out.size)); have hx3 := (hb3.block w.heap.size (lt_of_block HX2.out)).trans HX2.out; have HKP : Hid (w3.cell? ⟨w.heap.size, 0, none⟩ = some (.int .i64 id) ∧ w3.cell? ⟨w.heap.size, 1, none⟩ = some (.int .i64 (fr : Int)) ∧ w3.cell? ⟨w.heap.size, 2, none⟩ = some (.slice P a pc) ∧ w3.cell? ⟨w.heap.size, 3, none⟩ = some (.slice C nn cc)) := ⟨cell_of_row _ _ 0 _ _ _ hx3, cell_of_row _ _ 1 _ _ _ hx3, cell_of_row _ _ 2 _ _ _ hx3, cell_of_row _ _ 3 _ _ _ hx3⟩; clear ho3 hb3 hat3 hcp hx3))
    all_goals
      have hb4 : Below w3.heap.size w3 (w3.alloc (.cells #[.int .i64 id, .int .i64 (fr : Int), .slice A3' L.length c3] 91)) := (Below.refl _ _).alloc (Nat.le_refl _) _
      have HIT : Hid (IsT (w3.alloc (.cells #[.int .i64 id, .int .i64 (fr : Int), .slice A3' L.length c3] 91)) w3.heap.size id (fr : Int) A3' c3 L) := ⟨heap_alloc_new _ _, HAT.out.kept hb4⟩
      have HB4 := Lib.hid (HB3.out.trans (hb4.mono HB3.out.size))
      clear hb4
      go_wp2
      go_ret2
      exact .inl ⟨HK.out, _, A3', c3, rfl, HIT.out, HCP.out.1, HCP.out.2, HB4.out, HSZ.out, HGE.out⟩
  · obtain ⟨u, y, rfl⟩ : ∃ u y, x = .iface u y := by
      rcases HWR.out with ⟨h, _⟩ | ⟨_, _, g, y, rfl, _⟩
      · exact absurd h hk
      · exact ⟨_, _, rfl⟩
    have HK : Hid (q.1 ≠ 0) := hk
    clear hk HCUT
    go_wp2
    go_ret2
    exact .inr ⟨HK.out, _, rfl, HWR.out, HB2.out⟩
theorem tnew_any (id : Int) (fr : Nat) (P : Option Addr) (pc : Nat) (l : List A3) (C : Option Addr) (nn cc : Nat) (I : Option Addr) (li ci : Nat) (ids : List Int) (w : World) (hn : Names w) (hI : IntsBelow w.heap.size w (.slice I li ci) ids)
    (h1 : ActsAt w P l) (hw : ∀ x ∈ l, Wide x) (hf : 1 ≤ fr ∧ fr ≤ 1048576) (hl : l.length ≤ 1000) (hids : ids.length ≤ 1099511627776) :
    Calls Tryd.prog 27 #[.agg #[.int .i64 id, .int .i64 (fr : Int), .slice P l.length pc, .slice C nn cc], .slice I li ci] w fun e w' =>
      ((chkW ids (fr : Int) ⟨0, 0, 0⟩ 0 l).1 = 0 ∧ NewPost id (fr : Int) (runsD (ownT (fr : Int) l) fr) w e w') ∨
      ((chkW ids (fr : Int) ⟨0, 0, 0⟩ 0 l).1 ≠ 0 ∧ ∃ x, e = .returned (.tuple #[.pointer none, x]) ∧ WrongA w' x (chkW ids (fr : Int) ⟨0, 0, 0⟩ 0 l).1 (chkW ids (fr : Int) ⟨0, 0, 0⟩ 0 l).2 ∧ Below w.heap.size w w') := by
  refine (tnew_own id fr P pc l C nn cc I li ci ids w hn hI h1 hw hf hl hids).mono ?_
  rintro e w' (⟨h, g, A, c, h1, h2, h3, h4, h5, _⟩ | h)
  · exact .inl ⟨h, g, A, c, h1, h2, h3, h4, h5⟩
  · exact .inr h
end Go.Proofs.YtofcjkfaccdnjaaDoor.Tab

namespace Go.Proofs.YtofcjkfaccdnjaaDoor.Tab

open Go.RowKit Go.PlainAid Go.Proofs.YtofcjkfaccdnjaaDoor.Oct Go.Proofs.YtofcjkfaccdnjaaDoor.Flt Go.Proofs.YtofcjkfaccdnjaaDoor.Rdr Go.Proofs.YtofcjkfaccdnjaaDoor.Args Go.Proofs.YtofcjkfaccdnjaaDoor.Win

open Go.Proofs.YtofcjkfaccdnjaaDoor.Act (A3 actL flatA flatA_snoc flatA_get flatA_len ActsAt I64 Wide)

set_option linter.unusedVariables false

set_option linter.unusedSimpArgs false

theorem eq_run (a b c : Int) (w : World) : (Op.equalIn 10000 98 (.agg #[.int .i64 a, .int .i64 b, .int .i64 c]) (.agg #[.int .i64 a, .int .i64 b, .int .i64 c])).run Tryd.prog w = .ok true w := by
  have hS : Tryd.prog.underlying 98 = some (.struct (Tryd.prog.fieldsOf 98)) := by kernel_rfl
  rw [show (10000 : Nat) = 9999 + 1 from rfl, run_equalIn_agg w 9999 98 _ _ hS (by kernel_rfl)]
  simp only [Program.fieldsOf, Tryd.underlying98]
  go_simp
def exT : List A3 := [⟨1, 2, 3⟩, ⟨1, 5, 1⟩]
theorem exT_ok : (chkW [1] (10 : Nat) ⟨0, 0, 0⟩ 0 exT).1 = 0 := by decide
theorem exT_runs : runsD (ownT ((10 : Nat) : Int) exT) 10 = [⟨-1, 0, 2⟩, ⟨1, 2, 4⟩, ⟨-1, 6, 4⟩] := by rfl
end Go.Proofs.YtofcjkfaccdnjaaDoor.Tab
