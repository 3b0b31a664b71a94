
/- Cells of a partition: both starts, and new ones. Condition: at most a thousand cells. -/

import Derived.Test.YtjdgpbjjhgfikaaCelB

namespace Go.Proofs.Ytjdgpbjjhgfikaa.Cel

open Go.RowKit Go.PlainAid Go.Proofs.Ytjdgpbjjhgfikaa.Args

set_option linter.unusedVariables false

set_option linter.unusedSimpArgs false

section

variable {B : Nat} {FA : Option Addr} {fc : Nat} {fs : List C2} {A : Option Addr} {c : Nat} {ns : List Nat} {n : Nat} {wn : Int}

def StRel (goes : C2 → Bool) (B g : Nat) (FA : Option Addr) (fc : Nat) (fs : List C2) (A : Option Addr) (c : Nat) (ns : List Nat) (n : Nat) (wn : Int) (w : World) (i : Value) (wr : World) : Prop :=
  ∃ (k : Nat) (ms : List Nat), k ≤ n ∧ i = .int .i64 (k : Int) ∧ Begun goes fs ns k ms ∧ IsC wr B g FA fc fs A c ms n wn ∧ Two g A w wr
/-- Nothing but draws. -/
theorem two_drewN (g : Nat) (A : Option Addr) (w : World) (m : Nat) : Two g A w (w.drewN m) := ⟨rfl, rfl, rfl, Nat.le_refl _, fun _ _ _ _ => rfl⟩
set_option maxRecDepth 4000 in
set_option maxHeartbeats 3200000 in
theorem start_cold (g : Nat) (w : World) (h : IsC w B g FA fc fs A c ns n wn) (hn : n ≤ 1000) :
    Calls Try.prog 77 #[.pointer (some ⟨g, 0, none⟩), .func (.func 79) #[] #[]] w fun e w' => e = .returned (.tuple #[]) ∧ IsC w' B g FA fc fs A c (startL (fun _ => true) fs ns) n wn ∧ Two g A w w' := by
  obtain ⟨c0, c1, c2⟩ := h.cells
  have HNL := Lib.hid h.nlen
  have HFL := Lib.hid h.flen
  obtain ⟨goes, hgoes⟩ : ∃ goes : C2 → Bool, (fun _ => true) = goes := ⟨_, rfl⟩
  have HGG : Hid (∀ (x : C2) (w : World), Calls Try.prog 79 #[.agg #[.int .u32 (x.v : Int), .bool x.kept]] w fun e w' => e = .returned (.bool (goes x)) ∧ Below w.heap.size w w') := by subst hgoes; exact cold1_any
  rw [hgoes]
  clear hgoes
  have HH := Lib.hid h
  have HN : Hid (n ≤ 1000) := hn
  clear h hn
  go_enter Try.func77, Try.ntmps77
  go_wp2_with fail
  go_loopw [11] (fun i wr => StRel goes B g FA fc fs A c ns n wn w i wr) (fun i _ => n - (intOf i).toNat)
  case atStart => exact ⟨0, ns, Nat.zero_le _, rfl, Begun.zero _ _ _, HH.out, Two.refl _ _ _⟩
  case round =>
    obtain ⟨k, ms, hk, rfl, hbg, hc, ht⟩ := hrel
    have HBG := Lib.hid hbg
    have HC := Lib.hid hc
    have HT := Lib.hid ht
    clear hbg hc ht c0 c1 c2 HH
    by_cases hlt : k < n
    · obtain ⟨x, hx⟩ : ∃ x, fs[k]? = some x := ⟨_, List.getElem?_eq_getElem (by rw [HFL.out]; exact hlt)⟩
      obtain ⟨u, hu⟩ : ∃ u, ns[k]? = some u := ⟨_, List.getElem?_eq_getElem (by rw [HNL.out]; exact hlt)⟩
      obtain ⟨y, rfl, e1, e2⟩ := HC.out.cellsAt k x hx
      have HX := Lib.hid hx
      have HU := Lib.hid hu
      have HLT := Lib.hid hlt
      have hkb : (k : Int) < n := by omega
      have hki : (0 : Int) ≤ k := by omega
      have hnn := HN.out
      have hk1 : IntKind.i64.wrap ((k : Int) + 1) = (k : Int) + 1 := IntWalk.i64_in _ (by omega)
      obtain ⟨xv, xk⟩ := x
      dsimp only at e1 e2
      have hb5 : Below wr.heap.size wr (wr.alloc (.cells #[.int .u32 (xv : Int), .bool xk] 140)) := (Below.refl _ _).alloc (Nat.le_refl _) _
      have hx5 := heap_alloc_new wr (.cells #[.int .u32 (xv : Int), .bool xk] 140)
      have hc5 := HC.out.keep hb5
      have ht5 := HT.out.trans (two_below hb5)
      clear hx hu hlt hk hnn hb5
      go_upto_region 3 with fail
      obtain ⟨W, hW⟩ : ∃ W, wr.alloc (.cells #[.int .u32 (xv : Int), .bool xk] 140) = W := ⟨_, rfl⟩
      obtain ⟨X, hX⟩ : ∃ X, wr.heap.size = X := ⟨_, rfl⟩
      rw [hW] at hx5 hc5 ht5
      rw [hX] at hx5
      rw [hW, hX]
      have x0 := cell_of_row _ _ 0 _ _ _ hx5
      have x1 := cell_of_row _ _ 1 _ _ _ hx5
      simp only [List.getElem?_toArray, List.getElem?_cons_zero, List.getElem?_cons_succ] at x0 x1
      have HX5 := Lib.hid hx5
      have HC5 := Lib.hid hc5
      have HT5 := Lib.hid ht5
      clear hx5 hc5 ht5 hW hX e1 e2 HC HT
      obtain ⟨b, hb⟩ : ∃ b, goes ⟨xv, xk⟩ = b := ⟨_, rfl⟩
      have HB := Lib.hid hb
      clear hb
      go_wp2_with fail
      refine (HGG.out ⟨xv, xk⟩ _).mono ?_
      rintro e w6 ⟨rfl, hb6⟩
      rw [HB.out]
      have hx6 := (hb6.block X (lt_of_block HX5.out)).trans HX5.out
      have HC6 := Lib.hid (HC5.out.keep hb6)
      have HT6 := Lib.hid (HT5.out.trans (two_below hb6))
      have y0 := cell_of_row _ _ 0 _ _ _ hx6
      simp only [List.getElem?_toArray, List.getElem?_cons_zero] at y0
      clear x0 x1 hx6 hb6 HX5 HC5 HT5
      cases b with
      | false =>
        go_wp2
        go_roundw
        case rel => exact ⟨k + 1, ms, by have := HLT.out; omega, by go_num, HBG.out.no HX.out HU.out HB.out, HC6.out, HT6.out⟩
        case measure => have := HLT.out; simp [intOf]; omega
      | true =>
        have hc6 := HC6.out
        obtain ⟨d0, d1, d2⟩ := hc6.cells
        obtain ⟨v, hv⟩ : ∃ v, ms[k]? = some v := ⟨_, List.getElem?_eq_getElem (by rw [hc6.nlen]; exact HLT.out)⟩
        obtain ⟨a, hA, hcell⟩ := hc6.numsAt k v hv
        obtain ⟨ha, -, -⟩ := own_at hc6.own a hA
        obtain ⟨r, hr⟩ : ∃ r, a.block = r := ⟨_, rfl⟩
        rw [hr] at ha
        subst ha
        have hs := hc6.stored hA k xv
        have hfz : w6.frozen? ⟨r, k, none⟩ = false := by
          have h2 := hc6.own
          rw [hA] at h2
          exact h2.frozenAt k
        rw [add_at] at hcell
        subst hA
        have HS : Hid (IsC (w6.setCell ⟨r, k, none⟩ (.int .u32 (xv : Int))).drew B g (some y) fc fs (some ⟨r, 0, none⟩) c (ms.set k xv) n wn ∧ Two g (some ⟨r, 0, none⟩) w (w6.setCell ⟨r, k, none⟩ (.int .u32 (xv : Int))).drew) := ⟨hs.1.drewN 1, (HT6.out.trans hs.2).trans (two_drewN _ _ _ 1)⟩
        clear hc6 hv hs hr
        go_wp2_with fail
        go_region
        obtain ⟨W7, hW7⟩ : ∃ W, (w6.setCell ⟨r, k, none⟩ (.int .u32 (xv : Int))).drew = W := ⟨_, rfl⟩
        rw [hW7] at HS
        rw [hW7]
        clear hW7 d0 d1 d2 y0 hcell hfz
        go_wp2
        go_roundw
        case rel => exact ⟨k + 1, _, by have := HLT.out; omega, by go_num, HBG.out.yes HX.out HU.out HB.out, HS.out.1, HS.out.2⟩
        case measure => have := HLT.out; simp [intOf]; omega
    · obtain rfl : k = n := by omega
      clear hk hlt
      have HE : Hid (ms = startL goes fs ns) := by
        have h := HBG.out
        rw [← HNL.out] at h
        exact h.done (by rw [HNL.out]; exact HFL.out)
      go_wp2
      simp [bodyPost, results, Try.results77, go_sem]
      exact ⟨by rw [← HE.out]; exact HC.out, HT.out⟩
set_option maxRecDepth 4000 in
set_option maxHeartbeats 3200000 in
theorem start_warm (g : Nat) (w : World) (h : IsC w B g FA fc fs A c ns n wn) (hn : n ≤ 1000) :
    Calls Try.prog 77 #[.pointer (some ⟨g, 0, none⟩), .func (.func 78) #[] #[]] w fun e w' => e = .returned (.tuple #[]) ∧ IsC w' B g FA fc fs A c (startL (fun x => !x.kept) fs ns) n wn ∧ Two g A w w' := by
  obtain ⟨c0, c1, c2⟩ := h.cells
  have HNL := Lib.hid h.nlen
  have HFL := Lib.hid h.flen
  obtain ⟨goes, hgoes⟩ : ∃ goes : C2 → Bool, (fun x => !x.kept) = goes := ⟨_, rfl⟩
  have HGG : Hid (∀ (x : C2) (w : World), Calls Try.prog 78 #[.agg #[.int .u32 (x.v : Int), .bool x.kept]] w fun e w' => e = .returned (.bool (goes x)) ∧ Below w.heap.size w w') := by subst hgoes; exact warm1_any
  rw [hgoes]
  clear hgoes
  have HH := Lib.hid h
  have HN : Hid (n ≤ 1000) := hn
  clear h hn
  go_enter Try.func77, Try.ntmps77
  go_wp2_with fail
  go_loopw [11] (fun i wr => StRel goes B g FA fc fs A c ns n wn w i wr) (fun i _ => n - (intOf i).toNat)
  case atStart => exact ⟨0, ns, Nat.zero_le _, rfl, Begun.zero _ _ _, HH.out, Two.refl _ _ _⟩
  case round =>
    obtain ⟨k, ms, hk, rfl, hbg, hc, ht⟩ := hrel
    have HBG := Lib.hid hbg
    have HC := Lib.hid hc
    have HT := Lib.hid ht
    clear hbg hc ht c0 c1 c2 HH
    by_cases hlt : k < n
    · obtain ⟨x, hx⟩ : ∃ x, fs[k]? = some x := ⟨_, List.getElem?_eq_getElem (by rw [HFL.out]; exact hlt)⟩
      obtain ⟨u, hu⟩ : ∃ u, ns[k]? = some u := ⟨_, List.getElem?_eq_getElem (by rw [HNL.out]; exact hlt)⟩
      obtain ⟨y, rfl, e1, e2⟩ := HC.out.cellsAt k x hx
      have HX := Lib.hid hx
      have HU := Lib.hid hu
      have HLT := Lib.hid hlt
      have hkb : (k : Int) < n := by omega
      have hki : (0 : Int) ≤ k := by omega
      have hnn := HN.out
      have hk1 : IntKind.i64.wrap ((k : Int) + 1) = (k : Int) + 1 := IntWalk.i64_in _ (by omega)
      obtain ⟨xv, xk⟩ := x
      dsimp only at e1 e2
      have hb5 : Below wr.heap.size wr (wr.alloc (.cells #[.int .u32 (xv : Int), .bool xk] 140)) := (Below.refl _ _).alloc (Nat.le_refl _) _
      have hx5 := heap_alloc_new wr (.cells #[.int .u32 (xv : Int), .bool xk] 140)
      have hc5 := HC.out.keep hb5
      have ht5 := HT.out.trans (two_below hb5)
      clear hx hu hlt hk hnn hb5
      go_upto_region 3 with fail
      obtain ⟨W, hW⟩ : ∃ W, wr.alloc (.cells #[.int .u32 (xv : Int), .bool xk] 140) = W := ⟨_, rfl⟩
      obtain ⟨X, hX⟩ : ∃ X, wr.heap.size = X := ⟨_, rfl⟩
      rw [hW] at hx5 hc5 ht5
      rw [hX] at hx5
      rw [hW, hX]
      have x0 := cell_of_row _ _ 0 _ _ _ hx5
      have x1 := cell_of_row _ _ 1 _ _ _ hx5
      simp only [List.getElem?_toArray, List.getElem?_cons_zero, List.getElem?_cons_succ] at x0 x1
      have HX5 := Lib.hid hx5
      have HC5 := Lib.hid hc5
      have HT5 := Lib.hid ht5
      clear hx5 hc5 ht5 hW hX e1 e2 HC HT
      obtain ⟨b, hb⟩ : ∃ b, goes ⟨xv, xk⟩ = b := ⟨_, rfl⟩
      have HB := Lib.hid hb
      clear hb
      go_wp2_with fail
      refine (HGG.out ⟨xv, xk⟩ _).mono ?_
      rintro e w6 ⟨rfl, hb6⟩
      rw [HB.out]
      have hx6 := (hb6.block X (lt_of_block HX5.out)).trans HX5.out
      have HC6 := Lib.hid (HC5.out.keep hb6)
      have HT6 := Lib.hid (HT5.out.trans (two_below hb6))
      have y0 := cell_of_row _ _ 0 _ _ _ hx6
      simp only [List.getElem?_toArray, List.getElem?_cons_zero] at y0
      clear x0 x1 hx6 hb6 HX5 HC5 HT5
      cases b with
      | false =>
        go_wp2
        go_roundw
        case rel => exact ⟨k + 1, ms, by have := HLT.out; omega, by go_num, HBG.out.no HX.out HU.out HB.out, HC6.out, HT6.out⟩
        case measure => have := HLT.out; simp [intOf]; omega
      | true =>
        have hc6 := HC6.out
        obtain ⟨d0, d1, d2⟩ := hc6.cells
        obtain ⟨v, hv⟩ : ∃ v, ms[k]? = some v := ⟨_, List.getElem?_eq_getElem (by rw [hc6.nlen]; exact HLT.out)⟩
        obtain ⟨a, hA, hcell⟩ := hc6.numsAt k v hv
        obtain ⟨ha, -, -⟩ := own_at hc6.own a hA
        obtain ⟨r, hr⟩ : ∃ r, a.block = r := ⟨_, rfl⟩
        rw [hr] at ha
        subst ha
        have hs := hc6.stored hA k xv
        have hfz : w6.frozen? ⟨r, k, none⟩ = false := by
          have h2 := hc6.own
          rw [hA] at h2
          exact h2.frozenAt k
        rw [add_at] at hcell
        subst hA
        have HS : Hid (IsC (w6.setCell ⟨r, k, none⟩ (.int .u32 (xv : Int))).drew B g (some y) fc fs (some ⟨r, 0, none⟩) c (ms.set k xv) n wn ∧ Two g (some ⟨r, 0, none⟩) w (w6.setCell ⟨r, k, none⟩ (.int .u32 (xv : Int))).drew) := ⟨hs.1.drewN 1, (HT6.out.trans hs.2).trans (two_drewN _ _ _ 1)⟩
        clear hc6 hv hs hr
        go_wp2_with fail
        go_region
        obtain ⟨W7, hW7⟩ : ∃ W, (w6.setCell ⟨r, k, none⟩ (.int .u32 (xv : Int))).drew = W := ⟨_, rfl⟩
        rw [hW7] at HS
        rw [hW7]
        clear hW7 d0 d1 d2 y0 hcell hfz
        go_wp2
        go_roundw
        case rel => exact ⟨k + 1, _, by have := HLT.out; omega, by go_num, HBG.out.yes HX.out HU.out HB.out, HS.out.1, HS.out.2⟩
        case measure => have := HLT.out; simp [intOf]; omega
    · obtain rfl : k = n := by omega
      clear hk hlt
      have HE : Hid (ms = startL goes fs ns) := by
        have h := HBG.out
        rw [← HNL.out] at h
        exact h.done (by rw [HNL.out]; exact HFL.out)
      go_wp2
      simp [bodyPost, results, Try.results77, go_sem]
      exact ⟨by rw [← HE.out]; exact HC.out, HT.out⟩
/-- A cold start. -/
theorem cold_any (g : Nat) (w : World) (h : IsC w B g FA fc fs A c ns n wn) (hn : n ≤ 1000) :
    Calls Try.prog 62 #[.pointer (some ⟨g, 0, none⟩)] w fun e w' => e = .returned (.tuple #[]) ∧ IsC w' B g FA fc fs A c (startL (fun _ => true) fs ns) n 0 ∧ Two g A w w' := by
  have HS := Lib.hid (start_cold g w h hn)
  clear h hn
  go_enter Try.func62, Try.ntmps62
  go_wp2_with fail
  refine HS.out.mono ?_
  rintro e w1 ⟨rfl, hc, ht⟩
  obtain ⟨c0, c1, c2⟩ := hc.cells
  have hz := hc.free 2
  have HW := Lib.hid (hc.wrote 0)
  have HT := Lib.hid ht
  clear hc ht HS
  go_wp2
  simp [bodyPost, results, Try.results62, go_sem]
  exact ⟨HW.out.1, HT.out.trans HW.out.2⟩
/-- A warm start. -/
theorem warm_any (g : Nat) (w : World) (h : IsC w B g FA fc fs A c ns n wn) (hn : n ≤ 1000) :
    Calls Try.prog 61 #[.pointer (some ⟨g, 0, none⟩)] w fun e w' => e = .returned (.tuple #[]) ∧ IsC w' B g FA fc fs A c (startL (fun x => !x.kept) fs ns) n wn ∧ Two g A w w' := by
  have HS := Lib.hid (start_warm g w h hn)
  clear h hn
  go_enter Try.func61, Try.ntmps61
  go_wp2_with fail
  refine HS.out.mono ?_
  rintro e w1 ⟨rfl, hc, ht⟩
  have HC := Lib.hid hc
  have HT := Lib.hid ht
  clear hc ht HS
  go_wp2
  simp [bodyPost, results, Try.results61, go_sem]
  exact ⟨HC.out, HT.out⟩
end

end Go.Proofs.Ytjdgpbjjhgfikaa.Cel
