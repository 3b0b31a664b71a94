
/- Cells of a partition: whether two have the same numbers, copies, the chapter's example. Condition: at most a thousand cells. -/

import Derived.Test.YtjdgpbjjhgfikaaCelE

namespace Go.Proofs.Ytjdgpbjjhgfikaa.Cel

open Go.RowKit Go.PlainAid Go.Proofs.Ytjdgpbjjhgfikaa.Args

set_option linter.unusedVariables false

set_option linter.unusedSimpArgs false

theorem nums_ext {l m : List Nat} {n : Nat} (h1 : l.length = n) (h2 : m.length = n) (h : ∀ (j x y : Nat), j < n → l[j]? = some x → m[j]? = some y → x = y) : l = m := by
  apply List.ext_getElem?
  intro j
  rcases Nat.lt_or_ge j n with hj | hj
  · have e1 : l[j]? = some l[j] := List.getElem?_eq_getElem (by omega)
    have e2 : m[j]? = some m[j] := List.getElem?_eq_getElem (by omega)
    rw [e1, e2, h j _ _ hj e1 e2]
  · rw [List.getElem?_eq_none (by omega), List.getElem?_eq_none (by omega)]
set_option maxRecDepth 4000 in
set_option maxHeartbeats 1600000 in
theorem equalU_any (A D : Option Addr) (c d n : Nat) (l m : List Nat) (w : World) (h1 : NumsAt w A l) (h2 : NumsAt w D m) (hl1 : l.length = n) (hl2 : m.length = n) (hl : n ≤ 1000) :
    Calls Try.prog 74 #[.slice A n c, .slice D n d] w fun e w' => e = .returned (.bool (decide (l = m))) ∧ ∃ q, w' = w.drewN q := by
  obtain ⟨b, hb⟩ : ∃ b, decide (l = m) = b := ⟨_, rfl⟩
  rw [hb]
  have HB := Lib.hid hb
  have H1 := Lib.hid h1
  have H2 := Lib.hid h2
  have HF := Lib.hid hl1
  have HN := Lib.hid hl2
  have HL : Hid (n ≤ 1000) := hl
  clear hb h1 h2 hl1 hl2 hl
  go_enter Try.func74, Try.ntmps74
  go_wp2_with fail
  go_loopw [13] (fun i wr => ∃ k : Nat, k ≤ n ∧ i = .int .i64 (k : Int) ∧ (∀ (j x y : Nat), j < k → l[j]? = some x → m[j]? = some y → x = y) ∧ ∃ q, wr = w.drewN q) (fun i _ => n - (intOf i).toNat)
  case atStart => exact ⟨0, Nat.zero_le _, rfl, fun j x v hj => by omega, 0, rfl⟩
  case round =>
    obtain ⟨k, hk, rfl, hfr, q, rfl⟩ := hrel
    have HFR := Lib.hid hfr
    clear hfr
    by_cases hlt : k < n
    · obtain ⟨x, hx⟩ : ∃ x, l[k]? = some x := ⟨_, List.getElem?_eq_getElem (by rw [HF.out]; exact hlt)⟩
      obtain ⟨u, hu⟩ : ∃ u, m[k]? = some u := ⟨_, List.getElem?_eq_getElem (by rw [HN.out]; exact hlt)⟩
      obtain ⟨y, rfl, e1⟩ := (H1.out.drewN q) k x hx
      obtain ⟨z, rfl, e2⟩ := (H2.out.drewN q) k u hu
      have HX := Lib.hid hx
      have HU := Lib.hid hu
      have HLT := Lib.hid hlt
      have hkb : (k : Int) < n := by omega
      have hki : (0 : Int) ≤ k := by omega
      have hnn := HL.out
      have hk1 : IntKind.i64.wrap ((k : Int) + 1) = (k : Int) + 1 := IntWalk.i64_in _ (by omega)
      obtain ⟨W, hW⟩ : ∃ W, w.drewN q = W := ⟨_, rfl⟩
      have HW := Lib.hid hW
      rw [hW] at e1 e2
      rw [hW]
      clear hx hu hlt hk hnn hW
      by_cases hq : x = u
      · have tb : ((x : Int) != (u : Int)) = false := by simp [hq]
        have tb2 : ((x : Int) == (u : Int)) = true := by simp [hq]
        have HQ := Lib.hid hq
        clear hq
        go_wp2
        go_quiet (fail)
        go_wp2
        go_roundw
        case rel =>
          refine ⟨k + 1, by have := HLT.out; omega, by go_num, fun j x' v hj h3 h4 => ?_, q + nq, by rw [← HW.out]; exact World.drewN_drewN _ _ _⟩
          rcases (show j < k ∨ j = k by omega) with h5 | rfl
          · exact HFR.out j x' v h5 h3 h4
          · rw [HX.out] at h3
            rw [HU.out] at h4
            obtain rfl := Option.some.inj h3
            obtain rfl := Option.some.inj h4
            exact HQ.out
        case measure => have := HLT.out; simp [intOf]; omega
      · have tb : ((x : Int) != (u : Int)) = true := by simp; omega
        have tb2 : ((x : Int) == (u : Int)) = false := by simp; omega
        have HQ : Hid (x ≠ u) := hq
        clear hq
        have hbf : b = false := by
          rw [← HB.out]
          refine decide_eq_false (fun e => ?_)
          have h3 := HX.out
          rw [e, HU.out] at h3
          exact HQ.out (Option.some.inj h3).symm
        subst hbf
        go_wp2
        go_quiet (fail)
        go_wp2
        go_ret
        exact ⟨rfl, q + nq, by rw [← HW.out]; exact World.drewN_drewN _ _ _⟩
    · obtain rfl : k = n := by omega
      have hbt : b = true := by
        rw [← HB.out]
        exact decide_eq_true (nums_ext HF.out HN.out HFR.out)
      subst hbt
      clear hk hlt
      go_wp2
      go_ret
      exact ⟨rfl, q, rfl⟩
section

variable {B : Nat} {FA : Option Addr} {fc : Nat} {fs : List C2} {A : Option Addr} {c : Nat} {ns : List Nat} {n : Nat} {wn : Int}

theorem IsC.boxed {W : World} {B : Nat} {FA A : Option Addr} {fc c n : Nat} {fs : List C2} {ns : List Nat} {wn : Int} (hf : W.ownsRow B 140 2 (.slice FA n fc) n (flatC fs)) (ho : W.ownsRow B 40 1 (.slice A n c) n (vs ns)) (hl : fs.length = n) (hn : ns.length = n) (hB : B ≤ W.heap.size)
    (hd : ∀ a b, FA = some a → A = some b → a.block ≠ b.block) :
    IsC (W.alloc (.cells #[.slice FA n fc, .slice A n c, .int .i64 wn] 131)) B W.heap.size FA fc fs A c ns n wn :=
  ⟨heap_alloc_new _ _, hf.alloc _, ho.alloc _, hl, hn, hB, fun a ha => by have := (own_at ho a ha).2.2; omega, fun a ha => by have := (own_at hf a ha).2.2; omega, hd⟩
def CopyPost (fs : List C2) (ns : List Nat) (n : Nat) (wn : Int) (w : World) (e : Ending) (w' : World) : Prop :=
  ∃ (g : Nat) (FA : Option Addr) (fc : Nat) (A : Option Addr) (c : Nat), e = .returned (.pointer (some ⟨g, 0, none⟩)) ∧ IsC w' w.heap.size g FA fc fs A c ns n wn ∧ Below w.heap.size w w'
set_option maxRecDepth 4000 in
set_option maxHeartbeats 3200000 in
theorem copy_any (g : Nat) (w : World) (h : IsC w B g FA fc fs A c ns n wn) (hn : n ≤ 1000) :
    Calls Try.prog 73 #[.pointer (some ⟨g, 0, none⟩)] w (CopyPost fs ns n wn w) := by
  obtain ⟨c0, c1, c2⟩ := h.cells
  have HC := Lib.hid (fun (W : World) (b : Below w.heap.size w W) => ccells_any FA fc fs W (h.cellsAt.kept b) (own_cells h.fst h.flen).2.1 (by rw [h.flen]; exact (own_cells h.fst h.flen).2.2.1) (by rw [h.flen]; omega))
  have HA := Lib.hid (fun (W : World) (b : Below w.heap.size w W) => all_any g W (h.keep b) hn)
  rw [h.flen] at HC
  have HL : Hid (n ≤ 1000) := hn
  have HF := Lib.hid h.flen
  have HN := Lib.hid h.nlen
  clear h hn
  go_enter Try.func73, Try.ntmps73
  go_wp2_with fail
  have HB0 : Hid (Below w.heap.size w w.drew) := below_drew (Below.refl _ _)
  go_region_held3 (fun wx => wx.cell? ⟨g, 0, none⟩ = some (.slice FA n fc) ∧ wx.cell? ⟨g, 1, none⟩ = some (.slice A n c) ∧ wx.cell? ⟨g, 2, none⟩ = some (.int .i64 wn))
    (first | (refine ⟨?_, ?_, ?_⟩ <;> assumption) | (go_keep; done))
    (first
      | (go_at_call 87; refine (HC.out _ HB0.out).mono ?_; rintro e w3 ⟨V, rfl, ho, hb⟩; rw [HF.out] at ho; obtain ⟨FA', fc', rfl⟩ := own_slice ho; have HO := Lib.hid ho; have HB := Lib.hid hb; have HB1 := Lib.hid (HB0.out.trans (hb.mono HB0.out.size)); clear HB0; have HB0 := Lib.hid HB1.out; have d0 := (HB1.out.cell (p := ⟨g, 0, none⟩) (Go.block_lt_of_cell c0)).trans c0; have d1 := (HB1.out.cell (p := ⟨g, 1, none⟩) (Go.block_lt_of_cell c1)).trans c1; have d2 := (HB1.out.cell (p := ⟨g, 2, none⟩) (Go.block_lt_of_cell c2)).trans c2; clear ho hb)
      | (go_at_call 72; refine (HA.out _ HB0.out).mono ?_; rintro e w4 ⟨V, rfl, ho, hb⟩; obtain ⟨A', c', rfl⟩ := own_slice ho; have HO2 := Lib.hid ho; have HB2 := Lib.hid hb; have HB3 := Lib.hid (HB0.out.trans (hb.mono HB0.out.size)); clear HB0; have HB0 := Lib.hid HB3.out; have f0 := (HB3.out.cell (p := ⟨g, 0, none⟩) (Go.block_lt_of_cell c0)).trans c0; have f1 := (HB3.out.cell (p := ⟨g, 1, none⟩) (Go.block_lt_of_cell c1)).trans c1; have f2 := (HB3.out.cell (p := ⟨g, 2, none⟩) (Go.block_lt_of_cell c2)).trans c2; clear ho hb))
  · have hsz : w.drew.heap.size = w.heap.size := rfl
    have hof := own_keep (own_base (B' := w.heap.size) HO.out (by rw [hsz]; exact Nat.le_refl _)) HB2.out
    have hoo := own_base (B' := w.heap.size) HO2.out HB1.out.size
    have hI := IsC.boxed (wn := wn) hof hoo HF.out HN.out HB3.out.size (fun a b ha hb => by
      have h1 := (own_at HO.out a ha).2.2
      have h2 := (own_at HO2.out b hb).2.1
      omega)
    have HI := Lib.hid hI
    have HBF : Hid (Below w.heap.size w (w4.alloc (.cells #[.slice FA' n fc', .slice A' n c', .int .i64 wn] 131))) := HB3.out.alloc HB3.out.size _
    clear hsz hof hoo hI
    go_wp2
    go_ret
    exact ⟨_, _, _, _, _, rfl, HI.out, HBF.out⟩
end

end Go.Proofs.Ytjdgpbjjhgfikaa.Cel
