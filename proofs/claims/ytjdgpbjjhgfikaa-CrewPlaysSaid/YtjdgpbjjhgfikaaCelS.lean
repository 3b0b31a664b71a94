
/- The document's cells: a cell is set; whether two rows of numbers are one. Condition: at most a thousand cells. -/

import Derived.Test.YtjdgpbjjhgfikaaCelR

import Derived.Test.YtjdgpbjjhgfikaaCelH

namespace Go.Proofs.Ytjdgpbjjhgfikaa.Cel

open Go.RowKit Go.PlainAid Go.Proofs.Ytjdgpbjjhgfikaa.Args

set_option linter.unusedVariables false

set_option linter.unusedSimpArgs false

set_option maxRecDepth 4000 in
set_option maxHeartbeats 1600000 in
theorem rsame_any (A D : Option Addr) (c d n : Nat) (l m : List Nat) (w : World) (h1 : NumsAt w A l) (h2 : NumsAt w D m) (hl1 : l.length = n) (hl2 : m.length = n) (hl : n ≤ 1000) :
    Calls Try.prog 28 #[.slice A n c, .slice D n d] w fun e w' => e = .returned (.bool (decide (l = m))) ∧ ∃ q, w' = w.drewN q := by
  obtain ⟨b, hb⟩ : ∃ b, decide (l = m) = b := ⟨_, rfl⟩
  rw [hb]
  have HB := Lib.hid hb
  have H1 := Lib.hid h1
  have H2 := Lib.hid h2
  have HF := Lib.hid hl1
  have HN := Lib.hid hl2
  have HL : Hid (n ≤ 1000) := hl
  clear hb h1 h2 hl1 hl2 hl
  go_enter Try.func28, Try.ntmps28
  go_wp2_with fail
  go_loopw [5] (fun i wr => ∃ k : Nat, k ≤ n ∧ i = .int .i64 (k : Int) ∧ (∀ (j x y : Nat), j < k → l[j]? = some x → m[j]? = some y → x = y) ∧ ∃ q, wr = w.drewN q) (fun i _ => n - (intOf i).toNat)
  case atStart => exact ⟨0, Nat.zero_le _, rfl, fun j x v hj => by omega, 0, rfl⟩
  case round =>
    obtain ⟨k, hk, rfl, hfr, q, rfl⟩ := hrel
    have HFR := Lib.hid hfr
    clear hfr
    by_cases hlt : k < n
    · obtain ⟨x, hx⟩ : ∃ x, l[k]? = some x := ⟨_, List.getElem?_eq_getElem (by rw [HF.out]; exact hlt)⟩
      obtain ⟨u, hu⟩ : ∃ u, m[k]? = some u := ⟨_, List.getElem?_eq_getElem (by rw [HN.out]; exact hlt)⟩
      obtain ⟨y, rfl, e1⟩ := (H1.out.drewN q) k x hx
      obtain ⟨z, rfl, e2⟩ := (H2.out.drewN q) k u hu
      have HX := Lib.hid hx
      have HU := Lib.hid hu
      have HLT := Lib.hid hlt
      have hkb : (k : Int) < n := by omega
      have hki : (0 : Int) ≤ k := by omega
      have hnn := HL.out
      have hk1 : IntKind.i64.wrap ((k : Int) + 1) = (k : Int) + 1 := IntWalk.i64_in _ (by omega)
      obtain ⟨W, hW⟩ : ∃ W, w.drewN q = W := ⟨_, rfl⟩
      have HW := Lib.hid hW
      rw [hW] at e1 e2
      rw [hW]
      clear hx hu hlt hk hnn hW
      by_cases hq : x = u
      · have tb : ((x : Int) != (u : Int)) = false := by simp [hq]
        have tb2 : ((x : Int) == (u : Int)) = true := by simp [hq]
        have HQ := Lib.hid hq
        clear hq
        go_wp2
        go_quiet (fail)
        go_wp2
        go_roundw
        case rel =>
          refine ⟨k + 1, by have := HLT.out; omega, by go_num, fun j x' v hj h3 h4 => ?_, q + nq, by rw [← HW.out]; exact World.drewN_drewN _ _ _⟩
          rcases (show j < k ∨ j = k by omega) with h5 | rfl
          · exact HFR.out j x' v h5 h3 h4
          · rw [HX.out] at h3
            rw [HU.out] at h4
            obtain rfl := Option.some.inj h3
            obtain rfl := Option.some.inj h4
            exact HQ.out
        case measure => have := HLT.out; simp [intOf]; omega
      · have tb : ((x : Int) != (u : Int)) = true := by simp; omega
        have tb2 : ((x : Int) == (u : Int)) = false := by simp; omega
        have HQ : Hid (x ≠ u) := hq
        clear hq
        have hbf : b = false := by
          rw [← HB.out]
          refine decide_eq_false (fun e => ?_)
          have h3 := HX.out
          rw [e, HU.out] at h3
          exact HQ.out (Option.some.inj h3).symm
        subst hbf
        go_wp2
        go_quiet (fail)
        go_wp2
        go_ret
        exact ⟨rfl, q + nq, by rw [← HW.out]; exact World.drewN_drewN _ _ _⟩
    · obtain rfl : k = n := by omega
      have hbt : b = true := by
        rw [← HB.out]
        exact decide_eq_true (nums_ext HF.out HN.out HFR.out)
      subst hbt
      clear hk hlt
      go_wp2
      go_ret
      exact ⟨rfl, q, rfl⟩
theorem results_row_tmpC {P : Program} {fn : Func} {p u : Tmp} {ty : TypeId} (h : fn.results = #[.cell p ty, .tmp u]) (tmps : Array Value) (w : World) (g : Nat) (t : TypeId) (cs : Array Value) (fr : Nat × Nat) (d : TypeDesc)
    (hp : tmps.getD p undef = .pointer (some ⟨g, 0, none⟩)) (hg : w.heap[g]? = some (.cells cs t fr))
    (hu : P.underlying ty = some d) (hd : (match d with | .struct _ | .array _ _ => true | _ => false) = true) (hi : (P.info? ty).map (·.size) = some cs.size) :
    (results fn tmps).run P w = .ok (.tuple #[.agg cs, tmps.getD u undef]) w := by
  have hp' : tmps[p]?.getD undef = .pointer (some ⟨g, 0, none⟩) := by simpa using hp
  simp [results, h, hp', asAddr, run_loadVar_row w g t ty cs fr d hg hu hd hi]
def RSetPost (old : Option Addr) (F : Value) (i : Int) (v : Nat) (ns : List Nat) (n : Nat) (wn : Int) (w : World) (e : Ending) (w' : World) : Prop :=
  ∃ (A : Option Addr) (c : Nat), e = .returned (.tuple #[.agg #[F, .slice A n c, .int .i64 (setW n i wn)], .bool (inB n i)]) ∧ NumsAt w' A (setN n i v ns) ∧ (∀ y, A = some y → w.heap.size ≤ y.block ∨ old = some y) ∧ Below w.heap.size w w'
set_option maxRecDepth 8000 in
set_option maxHeartbeats 3200000 in
theorem rset_any (a A : Option Addr) (cap c : Nat) (i : Int) (v : Nat) (ns : List Nat) (n : Nat) (wn : Int) (w : World) (hx : NumsAt w A ns) (hln : ns.length = n) (hl : n ≤ 1000) (hw : 0 ≤ wn ∧ wn ≤ 1000000) :
    Calls Try.prog 39 #[.agg #[.slice a n cap, .slice A n c, .int .i64 wn], .int .i64 i, .int .u32 (v : Int)] w (RSetPost A (.slice a n cap) i v ns n wn w) := by
  obtain ⟨i0, hi, hz0, hz1, hz2⟩ := info_parts infoU
  obtain ⟨W0, hW0⟩ : ∃ W, (w.alloc (.cells #[.slice a n cap, .slice A n c, .int .i64 wn] 49)).alloc (.cells #[.slice none 0 0, .slice none 0 0, .int .i64 0] 49) = W := ⟨_, rfl⟩
  have hb0 : Below w.heap.size w W0 := by rw [← hW0]; exact ((Below.refl _ _).alloc (Nat.le_refl _) _).alloc (by simp) _
  have hs0 : W0.heap.size = w.heap.size + 2 := by rw [← hW0]; simp
  have hr0 : W0.heap[w.heap.size]? = some (.cells #[.slice a n cap, .slice A n c, .int .i64 wn] 49 (0, 0)) := by
    rw [← hW0, heap_alloc_old _ _ (by simp)]; exact heap_alloc_new _ _
  have hx0 : W0.heap[w.heap.size + 1]? = some (.cells #[.slice none 0 0, .slice none 0 0, .int .i64 0] 49 (0, 0)) := by
    rw [← hW0]
    have := heap_alloc_new (w.alloc (.cells #[.slice a n cap, .slice A n c, .int .i64 wn] 49)) (.cells #[.slice none 0 0, .slice none 0 0, .int .i64 0] 49)
    simpa using this
  have HNS := Lib.hid (hx.kept hb0)
  have HW0 := Lib.hid hW0
  have HB0 := Lib.hid hb0
  have HS0 := Lib.hid hs0
  have HR0 := Lib.hid hr0
  have HX0 := Lib.hid hx0
  have HLN := Lib.hid hln
  have HL : Hid (n ≤ 1000) := hl
  have c0 := cell_of_row _ _ 0 _ _ _ hr0
  have c1 := cell_of_row _ _ 1 _ _ _ hr0
  have c2 := cell_of_row _ _ 2 _ _ _ hr0
  simp only [List.getElem?_toArray, List.getElem?_cons_zero, List.getElem?_cons_succ] at c0 c1 c2
  clear hW0 hb0 hs0 hr0 hx0 hln hl
  by_cases hin : 0 ≤ i ∧ i < (n : Int)
  · have e1 : inB n i = true := decide_eq_true hin
    have e2 : setN n i v ns = ns.set i.toNat v := by unfold setN; rw [e1]; rfl
    have e3 : setW n i wn = wn + 1 := by unfold setW; rw [e1]; rfl
    unfold RSetPost
    rw [e1, e2, e3]
    obtain ⟨j, rfl⟩ : ∃ j : Nat, i = j := ⟨i.toNat, by omega⟩
    rw [Int.toNat_natCast]
    have hjn : j < n := by omega
    obtain ⟨u, hu⟩ : ∃ u, ns[j]? = some u := ⟨_, List.getElem?_eq_getElem (by rw [HLN.out]; exact hjn)⟩
    obtain ⟨y, rfl, -⟩ := HNS.out j u hu
    have t0 : decide ((j : Int) < 0) = false := decide_eq_false (by omega)
    have t1 : decide ((n : Int) ≤ (j : Int)) = false := decide_eq_false (by omega)
    have t2 : decide (n ≤ j) = false := decide_eq_false (by omega)
    have hj0 : (0 : Int) ≤ j := by omega
    have hjb : (j : Int) < n := by omega
    have hww : IntKind.i64.wrap (wn + 1) = wn + 1 := IntWalk.i64_in _ (by omega)
    have HJN := Lib.hid hjn
    have HO : Hid ((W0.alloc (.cells #[] 40)).ownsRow (w.heap.size + 2) 40 1 (.slice (some ⟨W0.heap.size, 0, none⟩) 0 0) 0 []) := World.ownsRow_lit W0 #[] 0 (by rw [HS0.out]; exact Nat.le_refl _) (Nat.zero_le _) rfl
    have hb1 : Below W0.heap.size W0 (W0.alloc (.cells #[] 40)) := (Below.refl _ _).alloc (Nat.le_refl _) _
    have HB1 := Lib.hid hb1
    have HV : Hid (∀ j q, (vs ns)[j]? = some q → (W0.alloc (.cells #[] 40)).cell? (y.add j) = some q) := fun j q hj => by
      unfold vs at hj
      rw [List.getElem?_map, Option.map_eq_some_iff] at hj
      obtain ⟨x, hxj, rfl⟩ := hj
      obtain ⟨y', hy, hc⟩ := (HNS.out.kept hb1) j x hxj
      obtain rfl := Option.some.inj hy
      exact hc
    have HVO : Hid (∀ q ∈ vs ns, q.oneCell' = true) := fun q hq => by
      unfold vs at hq
      obtain ⟨x, _, rfl⟩ := List.mem_map.1 hq
      rfl
    have HVL : Hid ((vs ns).length = n * 1) := by show _ = _; rw [vs_len, HLN.out, Nat.mul_one]
    have d1 := (hb1.cell (p := ⟨w.heap.size, 1, none⟩) (Go.block_lt_of_cell c1)).trans c1
    clear hin e1 e2 e3 hjn hu hb1 hw hx
    go_enter Try.func39, Try.ntmps39
    go_upto_region 1 with fail
    rw [HW0.out]
    go_wp2_with (at_builtin; refine wpList_append_own _ rfl _ _ 47 rfl (w.heap.size + 2) 40 i0 (.int .u32 0) 1 4 Try.underlying47 hi hz0 hz1 hz2 rfl (by decide) _ 0 [] rfl HO.out y n c (vs ns) rfl ?c1 ?c2 ?c3 ?c4 ?c5 ?c6 ?_)
    case c1 => exact HVL.out
    case c2 => exact HV.out
    case c3 => exact HVO.out
    case c4 => have := HL.out; unfold maxLen; omega
    case c5 => have := HL.out; omega
    case c6 => have := HS0.out; simp; omega
    intro v' w2 ho2 hg2 _
    obtain ⟨A', c', rfl⟩ := own_slice ho2
    try rw [Nat.zero_add] at ho2
    try rw [List.nil_append] at ho2
    try rw [Nat.zero_add]
    obtain ⟨m, hm⟩ : ∃ m, n = m + 1 := ⟨n - 1, by omega⟩
    obtain ⟨x, hA⟩ : ∃ x, A' = some x := by
      have h := ho2.2
      rcases h with ⟨h1, h2⟩ | ⟨g, cap', cur, h1, _⟩
      · omega
      · injection h1 with h3; exact ⟨_, h3⟩
    obtain ⟨hxx, hx2, -⟩ := own_at ho2 x hA
    obtain ⟨r, hr⟩ : ∃ r, x.block = r := ⟨_, rfl⟩
    rw [hr] at hxx hx2
    subst hxx
    subst hA
    obtain ⟨u', hu'⟩ : ∃ u', ns[j]? = some u' := ⟨_, List.getElem?_eq_getElem (by rw [HLN.out]; exact HJN.out)⟩
    have e4 : w2.cell? ⟨r, j, none⟩ = some (.int .u32 (u' : Int)) := by rw [ho2.cellAt j (by have := HJN.out; omega), vs_get hu']
    have e5 := ho2.frozenAt j
    have hst := ho2.stored j (.int .u32 (v : Int))
    have hbl : ∀ k, k < W0.heap.size → w2.heap[k]? = W0.heap[k]? := fun k hk => (hg2.block k (by simp; omega) (fun e => by have h := Option.some.inj e; simp at h; omega)).trans (heap_alloc_old W0 _ hk)
    have hblS : ∀ k, k < W0.heap.size → (w2.setCell ⟨r, j, none⟩ (.int .u32 (v : Int))).heap[k]? = W0.heap[k]? := fun k hk => (heap_setCell_other w2 ⟨r, j, none⟩ k _ (fun e => by have := HS0.out; simp at e; omega)).trans (hbl k hk)
    have hbB : Below w.heap.size w (w2.setCell ⟨r, j, none⟩ (.int .u32 (v : Int))) := by
      have hsz : W0.heap.size ≤ w2.heap.size := by have := hg2.size; simp at this; omega
      exact ⟨hg2.os.trans HB0.out.os, hg2.tape.trans HB0.out.tape, hg2.output.trans HB0.out.output, by have := HB0.out.size; simp; omega, fun k hk => (hblS k (by have := HS0.out; omega)).trans (HB0.out.block k hk)⟩
    have HBX := Lib.hid ((hblS w.heap.size (by have := HS0.out; omega)).trans HR0.out)
    have HRS := Lib.hid ((hblS (w.heap.size + 1) (by have := HS0.out; omega)).trans HX0.out)
    have HOS := Lib.hid hst.1
    have HBB := Lib.hid hbB
    have HR2 : Hid (w.heap.size + 2 ≤ r) := hx2
    obtain ⟨W5, hW5⟩ : ∃ W, w2.setCell ⟨r, j, none⟩ (.int .u32 (v : Int)) = W := ⟨_, rfl⟩
    have HW5 := Lib.hid hW5
    rw [hW5] at HBX HRS HOS HBB
    have b0 := cell_of_row _ _ 0 _ _ _ HBX.out
    have b2 := cell_of_row _ _ 2 _ _ _ HBX.out
    simp only [List.getElem?_toArray, List.getElem?_cons_zero, List.getElem?_cons_succ] at b0 b2
    clear ho2 hg2 hx2 hr hst hbl hblS hbB hW5 hu' hm d1 c0 c1 c2
    go_upto_region 6 with fail
    rw [HW5.out]
    go_wp2_with ((with_reducible show wpList _ _ _ _ _ _); (refine wpList_store_row rfl 49 (.tmp 6) (.tmp 34) rfl (w.heap.size + 1) #[.slice a n cap, .slice (some ⟨r, 0, none⟩) n c', .int .i64 (wn + 1)] rfl rfl 49 #[.slice none 0 0, .slice none 0 0, .int .i64 0] HRS.out (by rw [size_rc]; rfl) rfl (by simp [Value.oneCell']) ?_))
    refine bodyPost_ret (v := .tuple #[.agg #[.slice a n cap, .slice (some ⟨r, 0, none⟩) n c', .int .i64 (wn + 1)], .bool true]) (results_row_tmpC Try.results39 _ _ (w.heap.size + 1) 49 _ (0, 0) _ rfl (setRow_heap _ _ _ _ _ _ HRS.out) Try.underlying49 rfl (by rw [size_rc]; rfl)) rfl ⟨_, c', rfl, ?_, fun y hy => .inl (by obtain rfl := Option.some.inj hy; have := HR2.out; dsimp only; omega), ?_⟩
    · have ho : ∀ W', W5.grownBy W' (some (w.heap.size + 1)) → NumsAt W' (some ⟨r, 0, none⟩) (ns.set j v) := fun W' hg => by
        have h := HOS.out.kept hg (.inr (fun e => by have := HR2.out; have h := Option.some.inj e; simp at h; omega))
        rw [← vs_set] at h
        exact (own_nums h (by rw [List.length_set]; exact HLN.out)).1
      exact ho _ ⟨rfl, rfl, rfl, by simp, fun i _ hi => setRow_other _ _ _ _ (fun e => hi (by simp [e]))⟩
    · exact HBB.out.trans ⟨rfl, rfl, rfl, by simp, fun b hb => setRow_other _ _ _ _ (by omega)⟩
  · have e1 : inB n i = false := decide_eq_false hin
    have e2 : setN n i v ns = ns := by unfold setN; rw [e1]; rfl
    have e3 : setW n i wn = wn := by unfold setW; rw [e1]; rfl
    unfold RSetPost
    rw [e1, e2, e3]
    have hcase : decide (i < 0) = true ∨ (decide (i < 0) = false ∧ decide ((n : Int) ≤ i) = true) := by
      rcases Int.lt_or_le i 0 with h | h
      · exact .inl (decide_eq_true h)
      · exact .inr ⟨decide_eq_false (by omega), decide_eq_true (by omega)⟩
    have HX := Lib.hid hx
    clear hin e1 e2 e3 hx
    rcases hcase with t0 | ⟨t0, t1⟩
    all_goals
      go_enter Try.func39, Try.ntmps39
      go_upto_region 1 with fail
      rw [HW0.out]
      go_wp2_with (first
        | ((with_reducible show wpList _ _ _ _ _ _); refine wpList_load_row rfl 49 (.tmp 3) rfl w.heap.size rfl 49 _ (0, 0) _ HR0.out Try.underlying49 rfl (by rw [size_rc]; rfl) ?_)
        | ((with_reducible show wpList _ _ _ _ _ _); (refine wpList_store_row rfl 49 (.tmp 6) (.tmp 18) rfl (w.heap.size + 1) #[.slice a n cap, .slice A n c, .int .i64 wn] rfl rfl 49 #[.slice none 0 0, .slice none 0 0, .int .i64 0] HX0.out (by rw [size_rc]; rfl) rfl (by simp [Value.oneCell']) ?_)))
      refine bodyPost_ret (v := .tuple #[.agg #[.slice a n cap, .slice A n c, .int .i64 wn], .bool false]) (results_row_tmpC Try.results39 _ _ (w.heap.size + 1) 49 _ (0, 0) _ rfl (setRow_heap _ _ _ _ _ _ HX0.out) Try.underlying49 rfl (by rw [size_rc]; rfl)) rfl ⟨A, c, rfl, ?_, fun y hy => .inr hy, ?_⟩
      · exact HX.out.kept (HB0.out.trans ⟨rfl, rfl, rfl, by simp, fun b hb => setRow_other _ _ _ _ (by omega)⟩)
      · exact HB0.out.trans ⟨rfl, rfl, rfl, by simp, fun b hb => setRow_other _ _ _ _ (by omega)⟩
end Go.Proofs.Ytjdgpbjjhgfikaa.Cel
