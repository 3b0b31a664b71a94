
/- The document's cells: both starts. Condition: at most a thousand cells. -/

import Derived.Test.YtjdgpbjjhgfikaaCelS

namespace Go.Proofs.Ytjdgpbjjhgfikaa.Cel

open Go.RowKit Go.PlainAid Go.Proofs.Ytjdgpbjjhgfikaa.Args

set_option linter.unusedVariables false

set_option linter.unusedSimpArgs false

def RsRel (F : Value) (wn : Int) (ms : List Nat) (m : Nat) (W0 : World) (b : Nat) (i : Value) (wr : World) : Prop :=
  ∃ (k : Nat) (A : Option Addr) (c : Nat), k ≤ m ∧ i = .int .i64 (k : Int) ∧ RN W0 b F wn k (ms.take k) A c wr
def RStPost (F : Value) (xs : List Nat) (n : Nat) (wn : Int) (w : World) (e : Ending) (w' : World) : Prop :=
  ∃ (A : Option Addr) (c : Nat), e = .returned (.agg #[F, .slice A n c, .int .i64 wn]) ∧ NumsAt w' A xs ∧ (∀ y, A = some y → w.heap.size ≤ y.block) ∧ Below w.heap.size w w'
set_option maxRecDepth 8000 in
set_option maxHeartbeats 3200000 in
theorem rstart_cold (a N : Option Addr) (cap nc : Nat) (fs : List C2) (ns : List Nat) (n : Nat) (wn : Int) (w : World) (hx : CellsAt w a fs) (hy : NumsAt w N ns) (hfl : fs.length = n) (hnl : ns.length = n) (hl : n ≤ 1000) :
    Calls Try.prog 57 #[.agg #[.slice a n cap, .slice N n nc, .int .i64 wn], .bool true] w (RStPost (.slice a n cap) (startL (fun _ => true) fs ns) n 0 w) := by
  obtain ⟨i0, hi, hz0, hz1, hz2⟩ := info_parts infoU
  obtain ⟨W3, hW3⟩ : ∃ W, (((w.alloc (.cells #[.slice a n cap, .slice N n nc, .int .i64 wn] 49)).alloc (.cells #[.slice none 0 0, .slice none 0 0, .int .i64 0] 49)).alloc (.cells #[.slice a n cap, .slice none 0 0, .int .i64 wn] 49)) = W := ⟨_, rfl⟩
  have hb3 : Below w.heap.size w W3 := by rw [← hW3]; exact (((Below.refl _ _).alloc (Nat.le_refl _) _).alloc (by simp) _).alloc (by simp; omega) _
  have hs3 : W3.heap.size = w.heap.size + 3 := by rw [← hW3]; simp
  have hi3 : W3.heap[w.heap.size]? = some (.cells #[.slice a n cap, .slice N n nc, .int .i64 wn] 49 (0, 0)) := by
    rw [← hW3, heap_alloc_old _ _ (by simp; omega), heap_alloc_old _ _ (by simp)]; exact heap_alloc_new _ _
  have hr3 : W3.heap[w.heap.size + 1]? = some (.cells #[.slice none 0 0, .slice none 0 0, .int .i64 0] 49 (0, 0)) := by
    rw [← hW3, heap_alloc_old _ _ (by simp)]
    have := heap_alloc_new (w.alloc (.cells #[.slice a n cap, .slice N n nc, .int .i64 wn] 49)) (.cells #[.slice none 0 0, .slice none 0 0, .int .i64 0] 49)
    simpa using this
  have hx3 : W3.heap[w.heap.size + 2]? = some (.cells #[.slice a n cap, .slice none 0 0, .int .i64 wn] 49 (0, 0)) := by
    rw [← hW3]
    have := heap_alloc_new ((w.alloc (.cells #[.slice a n cap, .slice N n nc, .int .i64 wn] 49)).alloc (.cells #[.slice none 0 0, .slice none 0 0, .int .i64 0] 49)) (.cells #[.slice a n cap, .slice none 0 0, .int .i64 wn] 49)
    simpa using this
  obtain ⟨W0, hW0⟩ : ∃ W, W3.setCell ⟨w.heap.size + 2, 2, none⟩ (.int .i64 0) = W := ⟨_, rfl⟩
  have hot : ∀ k, k ≠ w.heap.size + 2 → W0.heap[k]? = W3.heap[k]? := fun k hk => by rw [← hW0]; exact heap_setCell_other W3 _ k _ hk
  have hb0 : Below w.heap.size w W0 := by rw [← hW0]; exact hb3.setCell (by simp) _
  have hs0 : W0.heap.size = w.heap.size + 3 := by rw [← hW0, ← hs3]; simp
  have hi0 := (hot w.heap.size (by omega)).trans hi3
  have hr0 := (hot (w.heap.size + 1) (by omega)).trans hr3
  have hx0 : W0.heap[w.heap.size + 2]? = some (.cells #[.slice a n cap, .slice none 0 0, .int .i64 0] 49 (0, 0)) := by
    rw [← hW0, heap_setCell_same W3 _ _ _ _ _ hx3]; rfl
  have z2 := cell_of_row _ _ 2 _ _ _ hx3
  simp only [List.getElem?_toArray, List.getElem?_cons_zero, List.getElem?_cons_succ] at z2
  have zf := frozen_of_row W3 _ 2 _ _ hx3
  have y0 := cell_of_row _ _ 0 _ _ _ hi3
  have y2 := cell_of_row _ _ 2 _ _ _ hi3
  simp only [List.getElem?_toArray, List.getElem?_cons_zero, List.getElem?_cons_succ] at y0 y2
  have HW0 := Lib.hid hW0
  clear hot hW0 hi3 hr3 hx3 hb3 hs3
  have hrn : RN W0 (w.heap.size + 2) (.slice a n cap) 0 0 [] none 0 W0 := ⟨hx0, World.ownsRow_nil _ _ _ _, Two.refl _ _ _, by omega⟩
  have HW3 := Lib.hid hW3
  have HB0 := Lib.hid hb0
  have HS0 := Lib.hid hs0
  have HI0 := Lib.hid hi0
  have HR0 := Lib.hid hr0
  have HRN := Lib.hid hrn
  have HCE := Lib.hid hx
  have HNU := Lib.hid hy
  have HFL := Lib.hid hfl
  have HNL := Lib.hid hnl
  have HL : Hid (n ≤ 1000) := hl
  obtain ⟨ms, hms⟩ : ∃ ms, startL (fun _ => true) fs ns = ms := ⟨_, rfl⟩
  have HMS := Lib.hid hms
  have HML : Hid (ms.length = n) := by show _ = _; rw [← hms, startL_len _ _ _ (by omega)]; exact hnl
  rw [hms]
  clear hW3 hb0 hs0 hi0 hr0 hx0 hrn hx hy hfl hnl hl hms
  go_enter Try.func57, Try.ntmps57
  go_upto_region 2 with fail
  rw [HW3.out]
  go_upto_region 4 with fail
  rw [HW0.out]
  clear y0 y2 z2 zf
  go_wp2_with fail
  go_loopw [6] (fun i wr => RsRel (.slice a n cap) 0 ms n W0 (w.heap.size + 2) i wr) (fun i _ => n - (intOf i).toNat)
  case atStart => exact ⟨0, none, 0, Nat.zero_le _, rfl, HRN.out⟩
  case round =>
    obtain ⟨k, A, c, hk, rfl, hr⟩ := hrel
    have HR := Lib.hid hr
    have hbb : Below w.heap.size w wr := Two.below HB0.out hr.two HB0.out.size (by omega) (fun _ ha => by cases ha)
    have hin : wr.heap[w.heap.size]? = some (.cells #[.slice a n cap, .slice N n nc, .int .i64 wn] 49 (0, 0)) := (hr.two.block _ (by have := HS0.out; omega) (by omega) (fun _ ha => by cases ha)).trans HI0.out
    have d0 := cell_of_row _ _ 0 _ _ _ hin
    have d1 := cell_of_row _ _ 1 _ _ _ hin
    have d2 := cell_of_row _ _ 2 _ _ _ hin
    simp only [List.getElem?_toArray, List.getElem?_cons_zero, List.getElem?_cons_succ] at d0 d1 d2
    have HBB := Lib.hid hbb
    clear hr HRN hbb hin
    by_cases hlt : k < n
    · obtain ⟨x, hx⟩ : ∃ x, fs[k]? = some x := ⟨_, List.getElem?_eq_getElem (by rw [HFL.out]; exact hlt)⟩
      obtain ⟨v, hv⟩ : ∃ v, ns[k]? = some v := ⟨_, List.getElem?_eq_getElem (by rw [HNL.out]; exact hlt)⟩
      obtain ⟨y, rfl, e1, e2⟩ := (HCE.out.kept HBB.out) k x hx
      obtain ⟨z, rfl, e3⟩ := (HNU.out.kept HBB.out) k v hv
      have hst := startL_get (fun _ => true) fs ns k x v hx hv
      rw [HMS.out] at hst
      have htk : ms.take (k + 1) = ms.take k ++ [if (fun _ => true) x then x.v else v] := by
        rw [List.take_add_one, hst]; rfl
      obtain ⟨c0, c1, c2⟩ := HR.out.cells
      have f1 := HR.out.free 1
      have HLT := Lib.hid hlt
      have hkb : (k : Int) < n := by omega
      have hki : (0 : Int) ≤ k := by omega
      have hnn := HL.out
      have hk1 : IntKind.i64.wrap ((k : Int) + 1) = (k : Int) + 1 := IntWalk.i64_in _ (by omega)
      obtain ⟨xv, xk⟩ := x
      dsimp only at e1 e2 htk
      have HTK := Lib.hid htk
      obtain ⟨xs, hxs⟩ : ∃ xs, ms.take k = xs := ⟨_, rfl⟩
      rw [hxs] at HTK HR
      clear hx hv hst htk hlt hk hxs
      obtain ⟨u, hu⟩ : ∃ u, xv = u := ⟨_, rfl⟩
      subst hu
      have HRA := Lib.hid (HR.out.keep ((Below.refl _ _).alloc (Nat.le_refl _) (.cells #[.int .u32 (xv : Int)] 40)))
      go_upto_region 10 with fail
      go_wp2_with (at_builtin; refine wpList_append_own _ rfl _ _ 47 rfl W0.heap.size 40 i0 (.int .u32 0) 1 4 Try.underlying47 hi hz0 hz1 hz2 rfl (by decide) _ k _ rfl HRA.out.own ⟨wr.heap.size, 0, none⟩ 1 1 [.int .u32 (xv : Int)] rfl rfl ?c1 ?c2 ?c3 ?c4 ?c5 ?_)
      try
        case c1 =>
          intro j q hj
          have hrow := heap_alloc_new wr (.cells #[.int .u32 (xv : Int)] 40)
          rw [add_at, cell_of_row _ _ _ _ _ _ hrow, ← hj]
          simp
      case c2 => first | rfl | exact one1W _
      case c3 => have := HLT.out; have := HL.out; unfold maxLen; omega
      case c4 => have := HLT.out; have := HL.out; omega
      case c5 => have := HRA.out.two.size; simpa using this
      intro v' w' ho hg _
      obtain ⟨A9, c9, rfl⟩ := own_slice ho
      have ho9 : w'.ownsRow W0.heap.size 40 1 (.slice A9 (k + 1) c9) (k + 1) (vs (xs ++ [xv])) := by unfold vs; rw [List.map_append]; exact ho
      have hgr := HRA.out.grown ho9 hg
      have g1 := hgr.1
      have g2 := hgr.2.1
      have HR9 := Lib.hid hgr.2.2
      clear ho hg ho9 hgr c0 c1 c2 e1 e2 e3 d0 d1 d2
      go_wp2
      go_roundw
      case rel => exact ⟨k + 1, A9, c9, HLT.out, by go_num, by rw [HTK.out]; exact HR9.out⟩
      case measure => have := HLT.out; simp [intOf]; omega
    · obtain rfl : k = n := by omega
      have hfull : ms.take k = ms := List.take_of_length_le (by rw [HML.out]; exact Nat.le_refl _)
      rw [hfull] at HR
      have hres : wr.heap[w.heap.size + 1]? = some (.cells #[.slice none 0 0, .slice none 0 0, .int .i64 0] 49 (0, 0)) := (HR.out.two.block _ (by have := HS0.out; omega) (by omega) (fun _ ha => by cases ha)).trans HR0.out
      have HRES := Lib.hid hres
      have HBX := Lib.hid HR.out.box
      have HRO := Lib.hid HR.out.own
      have HNE : Hid (∀ W', wr.grownBy W' (some (w.heap.size + 1)) → NumsAt W' A ms) := fun W' hg => (own_nums (HRO.out.kept hg (by
        cases hA : A with
        | none => exact .inl rfl
        | some x => exact .inr (fun e => by
          have h1 := (own_at HRO.out x hA).2.1
          have h2 := HS0.out
          have h3 : x.block = w.heap.size + 1 := Option.some.inj e
          omega))) HML.out).1
      clear hfull hres hk hlt d1 d2
      go_wp2_with (first
        | ((with_reducible show wpList _ _ _ _ _ _); refine wpList_load_row rfl 49 (.tmp 5) rfl (w.heap.size + 2) rfl 49 _ (0, 0) _ HBX.out Try.underlying49 rfl (by rw [size_rc]; rfl) ?_)
        | ((with_reducible show wpList _ _ _ _ _ _); (refine wpList_store_row rfl 49 (.tmp 4) (.tmp 49) rfl (w.heap.size + 1) #[.slice a k cap, .slice A k c, .int .i64 0] rfl rfl 49 #[.slice none 0 0, .slice none 0 0, .int .i64 0] HRES.out (by rw [size_rc]; rfl) rfl (by simp [Value.oneCell']) ?_)))
      refine bodyPost_ret (v := .agg #[.slice a k cap, .slice A k c, .int .i64 0]) (results_cell_row (by rfl) _ _ (w.heap.size + 1) 49 _ (0, 0) _ rfl (setRow_heap _ _ _ _ _ _ HRES.out) Try.underlying49 rfl (by rw [size_rc]; rfl)) rfl ⟨A, c, rfl, ?_, fun y hy => by have h1 := (own_at HRO.out y hy).2.1; have h2 := HS0.out; omega, ?_⟩
      · exact HNE.out _ ⟨rfl, rfl, rfl, by simp, fun i _ hi => setRow_other _ _ _ _ (fun e => hi (by simp [e]))⟩
      · exact HBB.out.trans ⟨rfl, rfl, rfl, by simp, fun b hb => setRow_other _ _ _ _ (by omega)⟩
set_option maxRecDepth 8000 in
set_option maxHeartbeats 3200000 in
theorem rstart_warm (a N : Option Addr) (cap nc : Nat) (fs : List C2) (ns : List Nat) (n : Nat) (wn : Int) (w : World) (hx : CellsAt w a fs) (hy : NumsAt w N ns) (hfl : fs.length = n) (hnl : ns.length = n) (hl : n ≤ 1000) :
    Calls Try.prog 57 #[.agg #[.slice a n cap, .slice N n nc, .int .i64 wn], .bool false] w (RStPost (.slice a n cap) (startL (fun x => !x.kept) fs ns) n wn w) := by
  obtain ⟨i0, hi, hz0, hz1, hz2⟩ := info_parts infoU
  obtain ⟨W3, hW3⟩ : ∃ W, (((w.alloc (.cells #[.slice a n cap, .slice N n nc, .int .i64 wn] 49)).alloc (.cells #[.slice none 0 0, .slice none 0 0, .int .i64 0] 49)).alloc (.cells #[.slice a n cap, .slice none 0 0, .int .i64 wn] 49)) = W := ⟨_, rfl⟩
  have hb3 : Below w.heap.size w W3 := by rw [← hW3]; exact (((Below.refl _ _).alloc (Nat.le_refl _) _).alloc (by simp) _).alloc (by simp; omega) _
  have hs3 : W3.heap.size = w.heap.size + 3 := by rw [← hW3]; simp
  have hi3 : W3.heap[w.heap.size]? = some (.cells #[.slice a n cap, .slice N n nc, .int .i64 wn] 49 (0, 0)) := by
    rw [← hW3, heap_alloc_old _ _ (by simp; omega), heap_alloc_old _ _ (by simp)]; exact heap_alloc_new _ _
  have hr3 : W3.heap[w.heap.size + 1]? = some (.cells #[.slice none 0 0, .slice none 0 0, .int .i64 0] 49 (0, 0)) := by
    rw [← hW3, heap_alloc_old _ _ (by simp)]
    have := heap_alloc_new (w.alloc (.cells #[.slice a n cap, .slice N n nc, .int .i64 wn] 49)) (.cells #[.slice none 0 0, .slice none 0 0, .int .i64 0] 49)
    simpa using this
  have hx3 : W3.heap[w.heap.size + 2]? = some (.cells #[.slice a n cap, .slice none 0 0, .int .i64 wn] 49 (0, 0)) := by
    rw [← hW3]
    have := heap_alloc_new ((w.alloc (.cells #[.slice a n cap, .slice N n nc, .int .i64 wn] 49)).alloc (.cells #[.slice none 0 0, .slice none 0 0, .int .i64 0] 49)) (.cells #[.slice a n cap, .slice none 0 0, .int .i64 wn] 49)
    simpa using this
  obtain ⟨W3, hWW⟩ : ∃ W, W3 = W := ⟨_, rfl⟩
  subst hWW
  have hb0 := hb3
  have hs0 := hs3
  have hi0 := hi3
  have hr0 := hr3
  have hx0 := hx3
  clear hb3 hs3 hi3 hr3 hx3
  have hrn : RN W3 (w.heap.size + 2) (.slice a n cap) wn 0 [] none 0 W3 := ⟨hx0, World.ownsRow_nil _ _ _ _, Two.refl _ _ _, by omega⟩
  have HW3 := Lib.hid hW3
  have HB0 := Lib.hid hb0
  have HS0 := Lib.hid hs0
  have HI0 := Lib.hid hi0
  have HR0 := Lib.hid hr0
  have HRN := Lib.hid hrn
  have HCE := Lib.hid hx
  have HNU := Lib.hid hy
  have HFL := Lib.hid hfl
  have HNL := Lib.hid hnl
  have HL : Hid (n ≤ 1000) := hl
  obtain ⟨ms, hms⟩ : ∃ ms, startL (fun x => !x.kept) fs ns = ms := ⟨_, rfl⟩
  have HMS := Lib.hid hms
  have HML : Hid (ms.length = n) := by show _ = _; rw [← hms, startL_len _ _ _ (by omega)]; exact hnl
  rw [hms]
  clear hW3 hb0 hs0 hi0 hr0 hx0 hrn hx hy hfl hnl hl hms
  go_enter Try.func57, Try.ntmps57
  go_upto_region 2 with fail
  rw [HW3.out]
  go_wp2_with fail
  go_loopw [6] (fun i wr => RsRel (.slice a n cap) wn ms n W3 (w.heap.size + 2) i wr) (fun i _ => n - (intOf i).toNat)
  case atStart => exact ⟨0, none, 0, Nat.zero_le _, rfl, HRN.out⟩
  case round =>
    obtain ⟨k, A, c, hk, rfl, hr⟩ := hrel
    have HR := Lib.hid hr
    have hbb : Below w.heap.size w wr := Two.below HB0.out hr.two HB0.out.size (by omega) (fun _ ha => by cases ha)
    have hin : wr.heap[w.heap.size]? = some (.cells #[.slice a n cap, .slice N n nc, .int .i64 wn] 49 (0, 0)) := (hr.two.block _ (by have := HS0.out; omega) (by omega) (fun _ ha => by cases ha)).trans HI0.out
    have d0 := cell_of_row _ _ 0 _ _ _ hin
    have d1 := cell_of_row _ _ 1 _ _ _ hin
    have d2 := cell_of_row _ _ 2 _ _ _ hin
    simp only [List.getElem?_toArray, List.getElem?_cons_zero, List.getElem?_cons_succ] at d0 d1 d2
    have HBB := Lib.hid hbb
    clear hr HRN hbb hin
    by_cases hlt : k < n
    · obtain ⟨x, hx⟩ : ∃ x, fs[k]? = some x := ⟨_, List.getElem?_eq_getElem (by rw [HFL.out]; exact hlt)⟩
      obtain ⟨v, hv⟩ : ∃ v, ns[k]? = some v := ⟨_, List.getElem?_eq_getElem (by rw [HNL.out]; exact hlt)⟩
      obtain ⟨y, rfl, e1, e2⟩ := (HCE.out.kept HBB.out) k x hx
      obtain ⟨z, rfl, e3⟩ := (HNU.out.kept HBB.out) k v hv
      have hst := startL_get (fun x => !x.kept) fs ns k x v hx hv
      rw [HMS.out] at hst
      have htk : ms.take (k + 1) = ms.take k ++ [if (fun x => !x.kept) x then x.v else v] := by
        rw [List.take_add_one, hst]; rfl
      obtain ⟨c0, c1, c2⟩ := HR.out.cells
      have f1 := HR.out.free 1
      have HLT := Lib.hid hlt
      have hkb : (k : Int) < n := by omega
      have hki : (0 : Int) ≤ k := by omega
      have hnn := HL.out
      have hk1 : IntKind.i64.wrap ((k : Int) + 1) = (k : Int) + 1 := IntWalk.i64_in _ (by omega)
      obtain ⟨xv, xk⟩ := x
      dsimp only at e1 e2 htk
      have HTK := Lib.hid htk
      obtain ⟨xs, hxs⟩ : ∃ xs, ms.take k = xs := ⟨_, rfl⟩
      rw [hxs] at HTK HR
      clear hx hv hst htk hlt hk hxs
      cases xk with
      | true =>
        have HRA := Lib.hid (HR.out.keep ((Below.refl _ _).alloc (Nat.le_refl _) (.cells #[.int .u32 (v : Int)] 40)))
        go_upto_region 10 with fail
        go_wp2_with (at_builtin; refine wpList_append_own _ rfl _ _ 47 rfl W3.heap.size 40 i0 (.int .u32 0) 1 4 Try.underlying47 hi hz0 hz1 hz2 rfl (by decide) _ k _ rfl HRA.out.own ⟨wr.heap.size, 0, none⟩ 1 1 [.int .u32 (v : Int)] rfl rfl ?c1 ?c2 ?c3 ?c4 ?c5 ?_)
        try
          case c1 =>
            intro j q hj
            have hrow := heap_alloc_new wr (.cells #[.int .u32 (v : Int)] 40)
            rw [add_at, cell_of_row _ _ _ _ _ _ hrow, ← hj]
            simp
        case c2 => first | rfl | exact one1W _
        case c3 => have := HLT.out; have := HL.out; unfold maxLen; omega
        case c4 => have := HLT.out; have := HL.out; omega
        case c5 => have := HRA.out.two.size; simpa using this
        intro v' w' ho hg _
        obtain ⟨A9, c9, rfl⟩ := own_slice ho
        have ho9 : w'.ownsRow W3.heap.size 40 1 (.slice A9 (k + 1) c9) (k + 1) (vs (xs ++ [v])) := by unfold vs; rw [List.map_append]; exact ho
        have hgr := HRA.out.grown ho9 hg
        have g1 := hgr.1
        have g2 := hgr.2.1
        have HR9 := Lib.hid hgr.2.2
        clear ho hg ho9 hgr c0 c1 c2 e1 e2 e3 d0 d1 d2
        go_wp2
        go_roundw
        case rel => exact ⟨k + 1, A9, c9, HLT.out, by go_num, by rw [HTK.out]; exact HR9.out⟩
        case measure => have := HLT.out; simp [intOf]; omega
      | false =>
        have HRA := Lib.hid (HR.out.keep ((Below.refl _ _).alloc (Nat.le_refl _) (.cells #[.int .u32 (xv : Int)] 40)))
        go_upto_region 10 with fail
        go_wp2_with (at_builtin; refine wpList_append_own _ rfl _ _ 47 rfl W3.heap.size 40 i0 (.int .u32 0) 1 4 Try.underlying47 hi hz0 hz1 hz2 rfl (by decide) _ k _ rfl HRA.out.own ⟨wr.heap.size, 0, none⟩ 1 1 [.int .u32 (xv : Int)] rfl rfl ?c1 ?c2 ?c3 ?c4 ?c5 ?_)
        try
          case c1 =>
            intro j q hj
            have hrow := heap_alloc_new wr (.cells #[.int .u32 (xv : Int)] 40)
            rw [add_at, cell_of_row _ _ _ _ _ _ hrow, ← hj]
            simp
        case c2 => first | rfl | exact one1W _
        case c3 => have := HLT.out; have := HL.out; unfold maxLen; omega
        case c4 => have := HLT.out; have := HL.out; omega
        case c5 => have := HRA.out.two.size; simpa using this
        intro v' w' ho hg _
        obtain ⟨A9, c9, rfl⟩ := own_slice ho
        have ho9 : w'.ownsRow W3.heap.size 40 1 (.slice A9 (k + 1) c9) (k + 1) (vs (xs ++ [xv])) := by unfold vs; rw [List.map_append]; exact ho
        have hgr := HRA.out.grown ho9 hg
        have g1 := hgr.1
        have g2 := hgr.2.1
        have HR9 := Lib.hid hgr.2.2
        clear ho hg ho9 hgr c0 c1 c2 e1 e2 e3 d0 d1 d2
        go_wp2
        go_roundw
        case rel => exact ⟨k + 1, A9, c9, HLT.out, by go_num, by rw [HTK.out]; exact HR9.out⟩
        case measure => have := HLT.out; simp [intOf]; omega
    · obtain rfl : k = n := by omega
      have hfull : ms.take k = ms := List.take_of_length_le (by rw [HML.out]; exact Nat.le_refl _)
      rw [hfull] at HR
      have hres : wr.heap[w.heap.size + 1]? = some (.cells #[.slice none 0 0, .slice none 0 0, .int .i64 0] 49 (0, 0)) := (HR.out.two.block _ (by have := HS0.out; omega) (by omega) (fun _ ha => by cases ha)).trans HR0.out
      have HRES := Lib.hid hres
      have HBX := Lib.hid HR.out.box
      have HRO := Lib.hid HR.out.own
      have HNE : Hid (∀ W', wr.grownBy W' (some (w.heap.size + 1)) → NumsAt W' A ms) := fun W' hg => (own_nums (HRO.out.kept hg (by
        cases hA : A with
        | none => exact .inl rfl
        | some x => exact .inr (fun e => by
          have h1 := (own_at HRO.out x hA).2.1
          have h2 := HS0.out
          have h3 : x.block = w.heap.size + 1 := Option.some.inj e
          omega))) HML.out).1
      clear hfull hres hk hlt d1 d2
      go_wp2_with (first
        | ((with_reducible show wpList _ _ _ _ _ _); refine wpList_load_row rfl 49 (.tmp 5) rfl (w.heap.size + 2) rfl 49 _ (0, 0) _ HBX.out Try.underlying49 rfl (by rw [size_rc]; rfl) ?_)
        | ((with_reducible show wpList _ _ _ _ _ _); (refine wpList_store_row rfl 49 (.tmp 4) (.tmp 49) rfl (w.heap.size + 1) #[.slice a k cap, .slice A k c, .int .i64 wn] rfl rfl 49 #[.slice none 0 0, .slice none 0 0, .int .i64 0] HRES.out (by rw [size_rc]; rfl) rfl (by simp [Value.oneCell']) ?_)))
      refine bodyPost_ret (v := .agg #[.slice a k cap, .slice A k c, .int .i64 wn]) (results_cell_row (by rfl) _ _ (w.heap.size + 1) 49 _ (0, 0) _ rfl (setRow_heap _ _ _ _ _ _ HRES.out) Try.underlying49 rfl (by rw [size_rc]; rfl)) rfl ⟨A, c, rfl, ?_, fun y hy => by have h1 := (own_at HRO.out y hy).2.1; have h2 := HS0.out; omega, ?_⟩
      · exact HNE.out _ ⟨rfl, rfl, rfl, by simp, fun i _ hi => setRow_other _ _ _ _ (fun e => hi (by simp [e]))⟩
      · exact HBB.out.trans ⟨rfl, rfl, rfl, by simp, fun b hb => setRow_other _ _ _ _ (by omega)⟩
end Go.Proofs.Ytjdgpbjjhgfikaa.Cel
