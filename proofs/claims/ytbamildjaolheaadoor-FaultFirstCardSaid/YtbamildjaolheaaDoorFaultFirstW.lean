/- The function FaultFirst returns true for every list of numbers. Condition: the package-level variables hold what the program lays in them (the card ties that). This text: the walk through the Go text; the row is in the text without the W at its name's end. -/
import Derived.Test.YtbamildjaolheaaDoorArgs
import Derived.Test.YtbamildjaolheaaDoorFltG
import Derived.Deep.RegionWith
namespace Go.Proofs.YtbamildjaolheaaDoor.faultFirst
open Go.RowKit Go.PlainAid Go.Proofs.YtbamildjaolheaaDoor.Args
set_option linter.unusedVariables false

open Go.Proofs.YtbamildjaolheaaDoor.Flt
/-- What is wanted: nothing yet, or the first fault's numbers. -/
def WantIs (w : World) (xs : List Value) (E T : Int) : Prop :=
  (firstV xs = .nilIface ∧ E = 0 ∧ T = 0) ∨ (∃ x, firstV xs = x ∧ 1 ≤ E ∧ E ≤ 18 ∧ IsFault w x [(false, T)] E)
def FRel (w : World) (n : Nat) (l i : Value) (wr : World) : Prop :=
  ∃ (k : Nat) (xs : List Value) (E T : Int), k ≤ n ∧ i = .int .i64 k ∧ (∀ x ∈ xs, IsErr x) ∧ wr.ownsRow w.heap.size 29 1 l k xs ∧ wr.heap[w.heap.size]? = some (.cells #[.int .i64 E, .int .i64 0, .int .i64 T] 27 (0, 0)) ∧ WantIs wr xs E T ∧ Below w.heap.size w wr
theorem want_same {w w' : World} {xs : List Value} {E T : Int} {x : Value} (k : KeptW w w') (hx : ∀ y ∈ xs, IsErr y) (h : WantIs w xs E T) (hn : x = .nilIface ∨ E ≠ 0) : WantIs w' (xs ++ [x]) E T := by
  rcases h with ⟨h1, h2, h3⟩ | ⟨y, h1, h2, h3, h4⟩
  · rcases hn with rfl | hn
    · exact .inl ⟨first_snoc_nil hx (.inl rfl) h1, h2, h3⟩
    · exact absurd h2 hn
  · obtain ⟨u, z, e⟩ := fault_err h4
    exact .inr ⟨y, by rw [e] at h1 ⊢; exact first_snoc_some hx h1, h2, h3, h4.only k⟩
theorem want_new {w : World} {xs : List Value} {T E T' : Int} {x : Value} (hx : ∀ y ∈ xs, IsErr y) (h : WantIs w xs 0 T') (h1 : 1 ≤ E) (h2 : E ≤ 18) (hf : IsFault w x [(false, T)] E) : WantIs w (xs ++ [x]) E T := by
  rcases h with ⟨h1', _, _⟩ | ⟨y, _, h3, _, _⟩
  · obtain ⟨u, z, e⟩ := fault_err hf
    exact .inr ⟨x, first_snoc_nil hx (.inr ⟨u, z, e⟩) h1', h1, h2, hf⟩
  · omega
theorem want_kept {w w' : World} {xs : List Value} {E T : Int} (k : KeptW w w') (h : WantIs w xs E T) : WantIs w' xs E T := by
  rcases h with h | ⟨y, h1, h2, h3, h4⟩
  · exact .inl h
  · exact .inr ⟨y, h1, h2, h3, h4.only k⟩
theorem snoc_err {xs : List Value} {x : Value} (h : ∀ y ∈ xs, IsErr y) (hx : IsErr x) : ∀ y ∈ xs ++ [x], IsErr y := by
  intro y hy
  rcases List.mem_append.1 hy with hy | hy
  · exact h y hy
  · simp only [List.mem_cons, List.not_mem_nil, or_false] at hy; subst hy; exact hx
set_option maxRecDepth 4000 in
set_option maxHeartbeats 3200000 in
theorem walk (a0 : Option Addr) (len0 cap0 : Nat) (z0 : List Int) (w : World) (w0 : IsRow .i64 w a0 len0 cap0 z0) (hn : Go.Proofs.YtbamildjaolheaaDoor.Flt.Names w) :
    Calls Tryd.prog 3 #[.slice a0 len0 cap0] w fun e w' => e = .returned (.bool true) ∧ Below w.heap.size w w' := by
  have HN := Lib.hid hn
  clear hn
  by_cases hl : 20 < len0
  · have t : decide (20 < (len0 : Int)) = true := decide_eq_true (by omega)
    clear hl w0
    go_enter Tryd.func3, Tryd.ntmps3
    go_wp2_with (go_at_call 5; refine (awake_any _ HN.out).mono ?_; rintro e w' ⟨rfl, hb⟩)
    go_ret
    exact ⟨rfl, hb⟩
  · have t : decide (20 < (len0 : Int)) = false := decide_eq_false (by omega)
    have HL : Hid (len0 ≤ 20) := by show _ ≤ _; omega
    have HZ : Hid (∀ (j : Nat) (wr : World), j < len0 → Below w.heap.size w wr → ∃ x z, a0 = some x ∧ wr.cell? (x.add j) = some (.int .i64 z) ∧ -9223372036854775808 ≤ z ∧ z ≤ 9223372036854775807) := by
      intro j wr hj hb
      rcases w0 with ⟨_, h0, _, _⟩ | ⟨x, hx, hlc, hcm, hz, hcell, hwf⟩
      · omega
      · have hjz : j < z0.length := by omega
        refine ⟨x, z0.getD j 0, hx, (hb.cell (Go.block_lt_of_cell (hcell j hjz))).trans (hcell j hjz), ?_⟩
        have hm : z0.getD j 0 ∈ z0 := by simp [List.getD, hjz]
        exact bounds_i64 (hwf _ hm)
    obtain ⟨i0, hi, hz0, hz1, hz2⟩ := info_parts infoE
    clear hl w0
    go_enter Tryd.func3, Tryd.ntmps3
    go_wp2_with fail
    go_loopw [3, 15] (fun l i wr => FRel w len0 l i wr) (fun _ i _ => len0 - (intOf i).toNat)
    case atStart => exact ⟨0, [], 0, 0, Nat.zero_le _, rfl, (by intro x hx; cases hx), World.ownsRow_nil _ _ _ _, heap_alloc_new _ _, .inl ⟨rfl, rfl, rfl⟩, (Below.refl _ _).alloc (Nat.le_refl _) _⟩
    case round =>
      obtain ⟨k, xs, E, T, hk, rfl, hxe, hown, hwb, hwant, hbel⟩ := hrel
      have HXE := Lib.hid hxe
      have HWT := Lib.hid hwant
      have HOWN := Lib.hid hown
      have HWB := Lib.hid hwb
      have HBEL := Lib.hid hbel
      have HNR := Lib.hid (HN.out.kept hbel)
      have hk20 : (k : Int) ≤ 20 := by have := HL.out; omega
      clear hxe hwant hown hwb hbel
      by_cases hlt : k < len0
      · obtain ⟨x, z, hA, hcell, hzl, hzh⟩ := HZ.out k wr hlt HBEL.out
        subst hA
        have HLT := Lib.hid hlt
        have HZ0 := Lib.hid hzl
        have HZ1 := Lib.hid hzh
        have hki : (k : Int) < (len0 : Int) := by omega
        clear hk hlt hzl hzh
        rcases (show (z < 1 ∨ 18 < z) ∨ (1 ≤ z ∧ z ≤ 18) by omega) with hv | hv
        · go_wp2_with fail
          refine (new_no z ⟨HZ0.out, HZ1.out⟩ hv _ HNR.out).mono ?_
          have HV := Lib.hid hv
          clear hv
          rintro e w' ⟨rfl, rfl⟩
          go_wp2_with fail
          refine (at_nil (k : Int) _).mono ?_
          rintro e w2 ⟨rfl, hw2⟩
          obtain rfl := hw2
          have OWN2 := HOWN
          have HW2 := HWB
          have BEL2 := HBEL
          go_wp2_with (at_builtin; refine wpList_append_own _ rfl _ _ 24 rfl w.heap.size 29 i0 .nilIface 1 16 Tryd.underlying24 hi hz0 hz1 hz2 rfl (by decide) _ _ _ rfl (OWN2.out.alloc _) ⟨wr.heap.size, 0, none⟩ 1 1 [.nilIface] rfl rfl ?c1 ?c2 ?c3 ?c4 ?c5 ?_)
          case c1 =>
            intro j u hj
            match j, hj with
            | 0, hj => simp at hj; subst hj; simp [Addr.add]
          case c2 => intro u hu; simp at hu; subst hu; rfl
          case c3 => have := HL.out; have := HLT.out; unfold maxLen; omega
          case c4 => have := HL.out; have := HLT.out; omega
          case c5 => have := BEL2.out.size; simp; omega
          intro l3 w3 hown3 hgrow3 _
          have K3 : Hid (KeptW wr w3) := (KeptW.below ((Below.refl _ _).alloc (Nat.le_refl _) _)).trans (KeptW.grown (OWN2.out.alloc _) hgrow3)
          have HW3 : Hid (w3.heap[w.heap.size]? = some (.cells #[.int .i64 E, .int .i64 0, .int .i64 T] 27 (0, 0))) := want_grown (OWN2.out.alloc _) hgrow3 ((heap_alloc_old _ _ (lt_of_block HW2.out)).trans HW2.out)
          have BEL3 : Hid (Below w.heap.size w w3) := (BEL2.out.alloc BEL2.out.size _).grown hgrow3 (by have := BEL2.out.size; simp; omega) (fun j hj => (OWN2.out.lt j hj).1)
          have HOWN3 := Lib.hid hown3
          have hc0 : w3.cell? ⟨w.heap.size, 0, none⟩ = some (.int .i64 E) := by rw [cell_of_row w3 _ _ _ _ _ HW3.out]; rfl
          clear hown3 hgrow3
          by_cases h0 : E = 0
          · subst h0
            have hnm := rname_any z (by have := HZ0.out; have := HZ1.out; omega) w3
            have e9 : nameV z = ⟨#[]⟩ := by unfold nameV; rw [if_neg (by have := HV.out; omega)]
            rw [e9] at hnm
            have HNM := Lib.hid hnm
            clear e9 hnm
            go_wp2_with fail
            refine HNM.out.mono ?_
            rintro e w4 ⟨rfl, hb4⟩
            have K4 : Hid (KeptW w3 w4) := KeptW.below hb4
            have HW4 : Hid (w4.heap[w.heap.size]? = some (.cells #[.int .i64 0, .int .i64 0, .int .i64 T] 27 (0, 0))) := (hb4.block _ (lt_of_block HW3.out)).trans HW3.out
            have BEL4 : Hid (Below w.heap.size w w4) := BEL3.out.trans (hb4.mono BEL3.out.size)
            have HOWN4 := Lib.hid (owns_kept HOWN3.out hb4)
            clear hb4
            go_wp2
            go_roundw
            case rel => exact ⟨k + 1, xs ++ [.nilIface], 0, T, by have := HLT.out; omega, by go_num, snoc_err HXE.out (.inl rfl), HOWN4.out, HW4.out, want_same (K3.out.trans K4.out) HXE.out HWT.out (.inl rfl), BEL4.out⟩
            case measure => have := HLT.out; simp [intOf]; omega
          · have tE : (E == 0) = false := by simp; exact h0
            go_wp2
            go_roundw
            case rel => exact ⟨k + 1, xs ++ [.nilIface], E, T, by have := HLT.out; omega, by go_num, snoc_err HXE.out (.inl rfl), HOWN3.out, HW3.out, want_same K3.out HXE.out HWT.out (.inr h0), BEL3.out⟩
            case measure => have := HLT.out; simp [intOf]; omega
        · go_wp2_with fail
          obtain ⟨m, rfl⟩ : ∃ m : Nat, z = m := ⟨z.toNat, by omega⟩
          have hm1 : 1 ≤ m := by omega
          have hm2 : m ≤ 18 := by omega
          have HM1 := Lib.hid hm1
          have HM2 := Lib.hid hm2
          refine (new_yes m hm1 hm2 _ HNR.out).mono ?_
          clear hv hm1 hm2
          rintro e w' ⟨rfl, rfl⟩
          go_wp2_with fail
          refine (at_any (k : Int) _ [] (m : Int) _ rfl).mono ?_
          rintro e w2 ⟨v, rfl, hf2, hb2⟩
          obtain ⟨u, y, rfl⟩ := fault_err hf2
          have F2 := Lib.hid hf2
          have OWN2 := Lib.hid (owns_kept HOWN.out hb2)
          have HW2 : Hid (w2.heap[w.heap.size]? = some (.cells #[.int .i64 E, .int .i64 0, .int .i64 T] 27 (0, 0))) := (hb2.block _ (lt_of_block HWB.out)).trans HWB.out
          have BEL2 : Hid (Below w.heap.size w w2) := HBEL.out.trans (hb2.mono HBEL.out.size)
          have KW : Hid (KeptW wr w2) := KeptW.below hb2
          clear hf2 hb2
          go_wp2_with (at_builtin; refine wpList_append_own _ rfl _ _ 24 rfl w.heap.size 29 i0 .nilIface 1 16 Tryd.underlying24 hi hz0 hz1 hz2 rfl (by decide) _ _ _ rfl (OWN2.out.alloc _) ⟨w2.heap.size, 0, none⟩ 1 1 [.iface u y] rfl rfl ?c1 ?c2 ?c3 ?c4 ?c5 ?_)
          case c1 =>
            intro j u hj
            match j, hj with
            | 0, hj => simp at hj; subst hj; simp [Addr.add]
          case c2 => intro u hu; simp at hu; subst hu; rfl
          case c3 => have := HL.out; have := HLT.out; unfold maxLen; omega
          case c4 => have := HL.out; have := HLT.out; omega
          case c5 => have := BEL2.out.size; simp; omega
          intro l3 w3 hown3 hgrow3 _
          have K3 : Hid (KeptW w2 w3) := (KeptW.below ((Below.refl _ _).alloc (Nat.le_refl _) _)).trans (KeptW.grown (OWN2.out.alloc _) hgrow3)
          have HW3 : Hid (w3.heap[w.heap.size]? = some (.cells #[.int .i64 E, .int .i64 0, .int .i64 T] 27 (0, 0))) := want_grown (OWN2.out.alloc _) hgrow3 ((heap_alloc_old _ _ (lt_of_block HW2.out)).trans HW2.out)
          have BEL3 : Hid (Below w.heap.size w w3) := (BEL2.out.alloc BEL2.out.size _).grown hgrow3 (by have := BEL2.out.size; simp; omega) (fun j hj => (OWN2.out.lt j hj).1)
          have HOWN3 := Lib.hid hown3
          have hc0 : w3.cell? ⟨w.heap.size, 0, none⟩ = some (.int .i64 E) := by rw [cell_of_row w3 _ _ _ _ _ HW3.out]; rfl
          clear hown3 hgrow3
          by_cases h0 : E = 0
          · subst h0
            have hnm := rname_any (m : Int) (by have := HZ0.out; have := HZ1.out; omega) w3
            have e9 : nameV (m : Int) = nm m := by unfold nameV; rw [if_pos (by have := HM1.out; have := HM2.out; omega)]; rfl
            have hne : (nm m).toList.isEmpty = false := nm_some HM1.out HM2.out
            rw [e9] at hnm
            obtain ⟨X, hX⟩ : ∃ X, nm m = X := ⟨_, rfl⟩
            rw [hX] at hne hnm
            have HNM := Lib.hid hnm
            clear e9 hX hnm
            go_wp2_with fail
            refine HNM.out.mono ?_
            rintro e w4 ⟨rfl, hb4⟩
            have K4 : Hid (KeptW w3 w4) := KeptW.below hb4
            have HW4 : Hid (w4.heap[w.heap.size]? = some (.cells #[.int .i64 0, .int .i64 0, .int .i64 T] 27 (0, 0))) := (hb4.block _ (lt_of_block HW3.out)).trans HW3.out
            have BEL4 : Hid (Below w.heap.size w w4) := BEL3.out.trans (hb4.mono BEL3.out.size)
            have HOWN4 := Lib.hid (owns_kept HOWN3.out hb4)
            clear hb4
            go_wp2_with ((with_reducible show wpList _ _ _ _ _ _); refine wpList_store_row rfl 27 _ _ rfl w.heap.size #[.int .i64 m, .int .i64 0, .int .i64 k] rfl rfl 27 #[.int .i64 0, .int .i64 0, .int .i64 T] HW4.out (by rw [size_flt]; rfl) rfl (one_flt _ _ _) ?_)
            go_roundw
            case rel => exact ⟨k + 1, xs ++ [.iface u y], m, k, by have := HLT.out; omega, by go_num, snoc_err HXE.out (.inr ⟨u, y, rfl⟩), owns_setRow HOWN4.out HW4.out, setRow_heap _ _ _ _ _ _ HW4.out, want_new HXE.out (want_kept ((KW.out.trans (K3.out.trans K4.out)).trans (KeptW.setRow HW4.out)) HWT.out) (by have := HM1.out; omega) (by have := HM2.out; omega) (F2.out.only ((K3.out.trans K4.out).trans (KeptW.setRow HW4.out))), BEL4.out.trans ⟨rfl, rfl, rfl, by simp, fun b hb => setRow_other _ _ _ _ (by omega)⟩⟩
            case measure => have := HLT.out; simp [intOf]; omega
          · have tE : (E == 0) = false := by simp; exact h0
            go_wp2
            go_roundw
            case rel => exact ⟨k + 1, xs ++ [.iface u y], E, T, by have := HLT.out; omega, by go_num, snoc_err HXE.out (.inr ⟨u, y, rfl⟩), HOWN3.out, HW3.out, want_same (KW.out.trans K3.out) HXE.out HWT.out (.inr h0), BEL3.out⟩
            case measure => have := HLT.out; simp [intOf]; omega
      · obtain rfl : k = len0 := by omega
        obtain ⟨hxl, A, cap, rfl, hers⟩ := owns_errs HOWN.out HXE.out
        have HERS := Lib.hid hers
        have HXL := Lib.hid hxl
        have HB2 : Hid (∀ wx : World, Below wr.heap.size wr wx → wx.cell? ⟨w.heap.size, 0, none⟩ = some (.int .i64 E) ∧ wx.cell? ⟨w.heap.size, 1, none⟩ = some (.int .i64 0) ∧ wx.cell? ⟨w.heap.size, 2, none⟩ = some (.int .i64 T)) := by
          intro wx hb
          have hh := (hb.block _ (lt_of_block HWB.out)).trans HWB.out
          refine ⟨?_, ?_, ?_⟩ <;> (rw [cell_of_row wx _ _ _ _ _ hh]; rfl)
        have HFIRST : Hid (∀ wx : World, wx.heap = wr.heap → Calls Tryd.prog 10 #[.slice A k cap] wx fun e w' => e = .returned (firstV xs) ∧ wx = w') := by
          intro wx hx
          have h1 : IsErrs wx A xs := fun i hi => by
            obtain ⟨r, e1, e2, e3⟩ := HERS.out i hi
            exact ⟨r, e1, (World.cell?_of_block (by rw [hx])).trans e2, e3⟩
          have := first_any A cap xs wx h1 (by have := HXL.out; have := HL.out; omega)
          rw [HXL.out] at this
          exact this
        obtain ⟨FV, hFV⟩ : ∃ FV, firstV xs = FV := ⟨_, rfl⟩
        have HOF : Hid (∀ wx : World, wx.heap = wr.heap → Calls Tryd.prog 9 #[FV] wx fun e w' => e = .returned (.agg #[.int .i64 E, .int .i64 0, .int .i64 T]) ∧ Below wx.heap.size wx w') := by
          intro wx hx
          rcases HWT.out with ⟨h1, h2, h3⟩ | ⟨x, h1, h2, h3, h4⟩
          · rw [← hFV, h1, h2, h3]; exact of_nil wx
          · rw [← hFV, h1]
            have h5 : IsFault wx x [(false, T)] E := h4.only (fun g cs _ => by rw [hx])
            exact of_any x [(false, T)] E wx h5 (by simp)
        rw [hFV] at HFIRST
        have heq : ∀ wx : World, (Op.equalIn 10000 27 (.agg #[.int .i64 E, .int .i64 0, .int .i64 T]) (.agg #[.int .i64 E, .int .i64 0, .int .i64 T])).run Tryd.prog wx = .ok true wx := eq_flt E 0 T
        have hnl : ¬ (k < k) := Nat.lt_irrefl k
        clear hFV hers hxl hk hlt
        go_wp2_with fail
        refine wp_region_any (by kernel_rfl) ?_
        try (change wpAny _ _ _ _ _ _ _ (World.drew _))
        refine wpAny_take (i := 0) (v := ?_) rfl (by kernel_rfl) (by kernel_rfl) (by kernel_rfl) (fun _ _ _ h => h) (Or.inl ⟨by kernel_rfl, ?_⟩) ?_
        rotate_left
        · intro w; go_simp <;> with_reducible rfl
        refine wpAny_ready (rs := [1, 3]) (by kernel_rfl) (by simp) ?_
        refine AllReady.cons rfl (fun K hK => ?_) (AllReady.cons rfl (fun K hK => ?_) AllReady.nil)
        ·
          go_simp
          go_wp2_with (go_at_call 10; refine (HFIRST.out wr.drew rfl).mono ?_; rintro e w2 ⟨rfl, hw2⟩; obtain rfl := hw2)
          refine wpAny_ready (rs := [2, 3]) (by kernel_rfl) (by simp) ?_
          refine AllReady.cons rfl (fun K hK => ?_) (AllReady.cons rfl (fun K hK => ?_) AllReady.nil)
          ·
            go_simp
            go_wp2_with (go_at_call 9; refine (HOF.out wr.drew rfl).mono ?_; rintro e w3 ⟨rfl, hb3⟩; have HB3 : Hid (Below wr.heap.size wr w3) := (⟨hb3.os, hb3.tape, hb3.output, hb3.size, hb3.block⟩ : Below wr.heap.size wr w3); clear hb3)
            refine wpAny_ready (rs := [3]) (by kernel_rfl) (by simp) ?_
            refine AllReady.cons rfl (fun K hK => ?_) AllReady.nil
            obtain ⟨hc0, hc1, hc2⟩ := HB2.out _ HB3.out
            go_simp
            refine hK _ _ ?_; clear hK K
            clear hc0 hc1 hc2
            refine wpAny_take (i := 4) (v := ?_) rfl (by kernel_rfl) (by kernel_rfl) (by kernel_rfl) (fun _ _ _ h => h) (Or.inl ⟨by kernel_rfl, ?_⟩) ?_
            rotate_left
            · intro w; go_simp <;> with_reducible rfl
            refine wpAny_take (i := 5) (v := ?_) rfl (by kernel_rfl) (by kernel_rfl) (by kernel_rfl) (fun _ _ _ h => h) (Or.inl ⟨by kernel_rfl, ?_⟩) ?_
            rotate_left
            · intro w; go_simp <;> with_reducible rfl
            refine wpAny_ready (rs := [6]) (by kernel_rfl) (by simp) ?_
            refine AllReady.cons rfl (fun K hK => ?_) AllReady.nil
            go_simp
            go_wp2_with (go_at_call 5; refine (awake_any _ (HNR.out.kept HB3.out)).mono ?_; rintro e w4 ⟨rfl, hb4⟩; have HB4 : Hid (Below wr.heap.size wr w4) := HB3.out.trans (hb4.mono HB3.out.size); clear hb4)
            refine wpAny_take (i := 7) (v := ?_) rfl (by kernel_rfl) (by kernel_rfl) (by kernel_rfl) (fun _ _ _ h => h) (Or.inl ⟨by kernel_rfl, ?_⟩) ?_
            rotate_left
            · intro w; go_simp <;> with_reducible rfl
            refine wpAny_take (i := 8) (v := ?_) rfl (by kernel_rfl) (by kernel_rfl) (by kernel_rfl) (fun _ _ _ h => h) (Or.inl ⟨by kernel_rfl, ?_⟩) ?_
            rotate_left
            · intro w; go_simp <;> with_reducible rfl
            refine wpAny_done (by kernel_rfl) ?_ _
            go_wp2
            go_ret
            exact ⟨rfl, HBEL.out.trans (HB4.out.mono HBEL.out.size)⟩
          ·
            obtain ⟨hc0, hc1, hc2⟩ := HB2.out _ ((Below.refl _ _).drew : Below wr.heap.size wr wr.drew)
            go_simp
            refine hK _ _ ?_; clear hK K
            clear hc0 hc1 hc2
            refine wpAny_ready (rs := [2]) (by kernel_rfl) (by simp) ?_
            refine AllReady.cons rfl (fun K hK => ?_) AllReady.nil
            go_simp
            go_wp2_with (go_at_call 9; refine (HOF.out wr.drew rfl).mono ?_; rintro e w3 ⟨rfl, hb3⟩; have HB3 : Hid (Below wr.heap.size wr w3) := (⟨hb3.os, hb3.tape, hb3.output, hb3.size, hb3.block⟩ : Below wr.heap.size wr w3); clear hb3)
            refine wpAny_take (i := 4) (v := ?_) rfl (by kernel_rfl) (by kernel_rfl) (by kernel_rfl) (fun _ _ _ h => h) (Or.inl ⟨by kernel_rfl, ?_⟩) ?_
            rotate_left
            · intro w; go_simp <;> with_reducible rfl
            refine wpAny_take (i := 5) (v := ?_) rfl (by kernel_rfl) (by kernel_rfl) (by kernel_rfl) (fun _ _ _ h => h) (Or.inl ⟨by kernel_rfl, ?_⟩) ?_
            rotate_left
            · intro w; go_simp <;> with_reducible rfl
            refine wpAny_ready (rs := [6]) (by kernel_rfl) (by simp) ?_
            refine AllReady.cons rfl (fun K hK => ?_) AllReady.nil
            go_simp
            go_wp2_with (go_at_call 5; refine (awake_any _ (HNR.out.kept HB3.out)).mono ?_; rintro e w4 ⟨rfl, hb4⟩; have HB4 : Hid (Below wr.heap.size wr w4) := HB3.out.trans (hb4.mono HB3.out.size); clear hb4)
            refine wpAny_take (i := 7) (v := ?_) rfl (by kernel_rfl) (by kernel_rfl) (by kernel_rfl) (fun _ _ _ h => h) (Or.inl ⟨by kernel_rfl, ?_⟩) ?_
            rotate_left
            · intro w; go_simp <;> with_reducible rfl
            refine wpAny_take (i := 8) (v := ?_) rfl (by kernel_rfl) (by kernel_rfl) (by kernel_rfl) (fun _ _ _ h => h) (Or.inl ⟨by kernel_rfl, ?_⟩) ?_
            rotate_left
            · intro w; go_simp <;> with_reducible rfl
            refine wpAny_done (by kernel_rfl) ?_ _
            go_wp2
            go_ret
            exact ⟨rfl, HBEL.out.trans (HB4.out.mono HBEL.out.size)⟩
        ·
          obtain ⟨hc0, hc1, hc2⟩ := HB2.out _ ((Below.refl _ _).drew : Below wr.heap.size wr wr.drew)
          go_simp
          refine hK _ _ ?_; clear hK K
          clear hc0 hc1 hc2
          refine wpAny_ready (rs := [1]) (by kernel_rfl) (by simp) ?_
          refine AllReady.cons rfl (fun K hK => ?_) AllReady.nil
          go_simp
          go_wp2_with (go_at_call 10; refine (HFIRST.out wr.drew rfl).mono ?_; rintro e w2 ⟨rfl, hw2⟩; obtain rfl := hw2)
          refine wpAny_ready (rs := [2]) (by kernel_rfl) (by simp) ?_
          refine AllReady.cons rfl (fun K hK => ?_) AllReady.nil
          go_simp
          go_wp2_with (go_at_call 9; refine (HOF.out wr.drew rfl).mono ?_; rintro e w3 ⟨rfl, hb3⟩; have HB3 : Hid (Below wr.heap.size wr w3) := (⟨hb3.os, hb3.tape, hb3.output, hb3.size, hb3.block⟩ : Below wr.heap.size wr w3); clear hb3)
          refine wpAny_take (i := 4) (v := ?_) rfl (by kernel_rfl) (by kernel_rfl) (by kernel_rfl) (fun _ _ _ h => h) (Or.inl ⟨by kernel_rfl, ?_⟩) ?_
          rotate_left
          · intro w; go_simp <;> with_reducible rfl
          refine wpAny_take (i := 5) (v := ?_) rfl (by kernel_rfl) (by kernel_rfl) (by kernel_rfl) (fun _ _ _ h => h) (Or.inl ⟨by kernel_rfl, ?_⟩) ?_
          rotate_left
          · intro w; go_simp <;> with_reducible rfl
          refine wpAny_ready (rs := [6]) (by kernel_rfl) (by simp) ?_
          refine AllReady.cons rfl (fun K hK => ?_) AllReady.nil
          go_simp
          go_wp2_with (go_at_call 5; refine (awake_any _ (HNR.out.kept HB3.out)).mono ?_; rintro e w4 ⟨rfl, hb4⟩; have HB4 : Hid (Below wr.heap.size wr w4) := HB3.out.trans (hb4.mono HB3.out.size); clear hb4)
          refine wpAny_take (i := 7) (v := ?_) rfl (by kernel_rfl) (by kernel_rfl) (by kernel_rfl) (fun _ _ _ h => h) (Or.inl ⟨by kernel_rfl, ?_⟩) ?_
          rotate_left
          · intro w; go_simp <;> with_reducible rfl
          refine wpAny_take (i := 8) (v := ?_) rfl (by kernel_rfl) (by kernel_rfl) (by kernel_rfl) (fun _ _ _ h => h) (Or.inl ⟨by kernel_rfl, ?_⟩) ?_
          rotate_left
          · intro w; go_simp <;> with_reducible rfl
          refine wpAny_done (by kernel_rfl) ?_ _
          go_wp2
          go_ret
          exact ⟨rfl, HBEL.out.trans (HB4.out.mono HBEL.out.size)⟩

end Go.Proofs.YtbamildjaolheaaDoor.faultFirst
