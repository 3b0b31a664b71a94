/- Windows: all ticks of a frame as windows of one owner each. Condition: at most 400 windows of plain numbers, a frame of 1 to 1,048,576. -/
import Derived.Test.YtpjillclladjaaaDoorMg13
import Derived.Test.YtpjillclladjaaaDoorMg14
import Derived.Deep.RegionHeld3
import Derived.Deep.RegionLaw
import Derived.BigRegion
import Derived.OwnWalk
namespace Go.Proofs.YtpjillclladjaaaDoor.Win

open Go.RowKit Go.PlainAid Go.Proofs.YtpjillclladjaaaDoor.Oct Go.Proofs.YtpjillclladjaaaDoor.Flt Go.Proofs.YtpjillclladjaaaDoor.Rdr Go.Proofs.YtpjillclladjaaaDoor.Args

open Go.Proofs.YtpjillclladjaaaDoor.Act (A3 actL flatA flatA_snoc flatA_get flatA_len ActsAt I64 Wide row_beside row_base)

set_option linter.unusedVariables false

set_option linter.unusedSimpArgs false

/-- All ticks, as windows of one owner each. -/
def rowsL (fr : Int) (l : List A3) (cs : List Int) (m : Nat) : List A3 := (List.range m).map fun q => ⟨ownT fr l (cut cs q), cut cs q, cut cs (q + 1) - cut cs q⟩
theorem rowsL_len (fr : Int) (l : List A3) (cs : List Int) (m : Nat) : (rowsL fr l cs m).length = m := by simp [rowsL]
theorem rowsL_get (fr : Int) (l : List A3) (cs : List Int) {m q : Nat} (h : q < m) : (rowsL fr l cs m)[q]? = some ⟨ownT fr l (cut cs q), cut cs q, cut cs (q + 1) - cut cs q⟩ := by
  unfold rowsL
  rw [List.getElem?_map, List.getElem?_range h]; rfl
theorem rowsL_take (fr : Int) (l : List A3) (cs : List Int) {m q : Nat} (h : q < m) : (rowsL fr l cs m).take (q + 1) = (rowsL fr l cs m).take q ++ [⟨ownT fr l (cut cs q), cut cs q, cut cs (q + 1) - cut cs q⟩] := by
  rw [List.take_add_one, rowsL_get fr l cs h]; rfl
theorem infoWin2 : (Tryd.prog.info? 82).map (fun i => (i.zero, i.size, i.bytes)) = some (some (.agg #[.int .i64 0, .int .i64 0, .int .i64 0]), 3, 24) := by kernel_rfl
theorem cut_in {cs : List Int} {fr : Int} {m : Nat} (h : Cuts cs fr) (hm : cs.length = m + 1) {q : Nat} (hq : q ≤ m) : 0 ≤ cut cs q ∧ cut cs q ≤ fr := by
  have e : cut cs q = cs[q]'(by omega) := by unfold cut; rw [List.getElem?_eq_getElem (by omega)]; rfl
  rw [e]
  exact h.2.1 _ (List.getElem_mem _)
theorem step_append_ownW {P : Program} {ops : Array Oper} {o : Oper} {a : Act} {w : World} {K : Act → World → Prop} {Q : Exit → Act → World → Prop} {E : Prop}
    (hg : o.guard = none) (s x : Operand) (t : TypeId) (ho : o.op = .call { callee := .builtin .append, args := #[s, x], argTypes := #[t, t] })
    (base : Nat) (e : TypeId) (i : TypeInfo) (z : Value) (size bytes : Nat) (ht : P.underlying t = some (.slice e)) (hi : P.info? e = some i) (hz : i.zero = some z)
    (hsize : i.size = size) (hby : i.bytes = bytes) (hzs : z.cells.size = size) (hsz : 0 < size)
    (v : Value) (n : Nat) (xs : List Value) (hs : a.eval s = v) (hown : w.ownsRow base e size v n xs)
    (ad : Addr) (m c : Nat) (news : List Value) (hx : a.eval x = .slice (some ad) m c) (hl : news.length = m * size) (hnews : ∀ j u, news[j]? = some u → w.cell? (ad.add j) = some u) (h1 : ∀ u ∈ news, u.oneCell' = true)
    (h63 : n + m ≤ maxLen) (hbytes : (n + m) * bytes ≤ 140737488355328) (hbase : base ≤ w.heap.size)
    (hK : ∀ v' w', w'.ownsRow base e size v' (n + m) (xs ++ news) → w.grownBy w' v.ownBlock → K (a.put o.dst v') w') :
    if Region.wanted o (yielded ops a.tmps) = true then Oper.wp P o a w K Q else E := by
  have hw : Region.wanted o (yielded ops a.tmps) = true := by simp [Region.wanted, hg]
  rw [if_pos hw]
  exact wp_append_own w s x t ho base e i z size bytes ht hi hz hsize hby hzs hsz v n xs hs hown ad m c news hx hl hnews h1 h63 hbytes hbase fun v' w' h2 h3 _ => hK v' w' h2 h3
theorem new3W (w : World) (T : TypeId) (a b c : Int) : ∀ j u, ([.int .i64 a, .int .i64 b, .int .i64 c] : List Value)[j]? = some u → (w.alloc (.cells #[.int .i64 a, .int .i64 b, .int .i64 c] T)).drew.cell? ((Addr.mk w.heap.size 0 none).add j) = some u := by
  intro j q hj
  have hrow := heap_alloc_new w (.cells #[.int .i64 a, .int .i64 b, .int .i64 c] T)
  have e : (Addr.mk w.heap.size 0 none).add j = ⟨w.heap.size, j, none⟩ := by cases j <;> simp [Addr.add]
  have h : (w.alloc (.cells #[.int .i64 a, .int .i64 b, .int .i64 c] T)).cell? ⟨w.heap.size, j, none⟩ = some q := by
    rw [cell_of_row _ _ _ _ _ _ hrow, ← hj]; simp
  rw [e]; exact h
theorem new3V (w : World) (T : TypeId) (a b c : Int) : ∀ j u, ([.int .i64 a, .int .i64 b, .int .i64 c] : List Value)[j]? = some u → (w.drew.alloc (.cells #[.int .i64 a, .int .i64 b, .int .i64 c] T)).cell? ((Addr.mk w.heap.size 0 none).add j) = some u := new3W w T a b c
theorem one3W (a b c : Int) : ∀ u ∈ ([.int .i64 a, .int .i64 b, .int .i64 c] : List Value), u.oneCell' = true := by
  intro q hq; simp at hq; rcases hq with rfl | rfl | rfl <;> rfl
theorem row_slice3 {w : World} {B n : Nat} {T : TypeId} {V : Value} {xs : List Value} (h : w.ownsRow B T 3 V n xs) : ∃ A c, V = .slice A n c := by
  rcases h.2 with ⟨rfl, h0⟩ | ⟨g', c', cur, rfl, _⟩
  · exact ⟨none, 0, by rw [h0]⟩
  · exact ⟨_, _, rfl⟩
theorem below_dn2 {B : Nat} {a w : World} (h : Below B a w) (n : Nat) : Below B a (w.drewN n) := ⟨h.os, h.tape, h.output, h.size, h.block⟩
def RwRel (m : Nat) (L : List A3) (w2 : World) (i v : Value) (wr : World) : Prop :=
  ∃ (k : Nat) (A : Option Addr) (c : Nat), k ≤ m ∧ i = .int .i64 (k : Int) ∧ v = .slice A k c ∧ wr.ownsRow w2.heap.size 82 3 (.slice A k c) k (flatA (L.take k)) ∧ Below w2.heap.size w2 wr
set_option maxRecDepth 8000 in
set_option maxHeartbeats 6400000 in
theorem rows_any (id : Int) (fr : Nat) (P : Option Addr) (pc : Nat) (l : List A3) (C : Option Addr) (nn cc : Nat) (w : World) (h1 : ActsAt w P l) (hnum : ∀ x ∈ l, Num x) (hf : 1 ≤ fr ∧ fr ≤ 1048576) (hl : l.length ≤ 400) (m : Nat) (hm : (cutsOf fr l).length = m + 1) :
    Calls Tryd.prog 87 #[.agg #[.int .i64 id, .int .i64 (fr : Int), .slice P l.length pc, .slice C nn cc]] w fun e w' => ∃ V, e = .returned V ∧ w'.ownsRow w.heap.size 82 3 V m (flatA (rowsL fr l (cutsOf fr l) m)) ∧ Below w.heap.size w w' := by
  obtain ⟨i0, hi, hz0, hz1, hz2⟩ := info_parts infoWin2
  have hCS := cutsOf_cuts (fr : Int) l (by omega) hnum
  have hm2 := cutsOf_two (fr : Int) l (by omega) hnum
  have hmem : ∀ x ∈ l, fW (fr : Int) x ∈ cutsOf fr l := fun x hx => (cutsOf_mem _ _ _).2 (.inr (.inr ⟨x, hx, .inl rfl⟩))
  have hmm : m ≤ 1000 := by have := cutsOf_le (fr : Int) l; omega
  have hb0 : Below w.heap.size w (w.alloc (.cells #[.int .i64 id, .int .i64 (fr : Int), .slice P l.length pc, .slice C nn cc] 31)) := (Below.refl _ _).alloc (Nat.le_refl _) _
  have HC := Lib.hid (cuts_any id fr P pc l C nn cc (w.alloc (.cells #[.int .i64 id, .int .i64 (fr : Int), .slice P l.length pc, .slice C nn cc] 31)) (h1.kept hb0) hnum hf.2 (by omega))
  rw [hm] at HC
  obtain ⟨cs, hcs⟩ : ∃ cs, cutsOf (fr : Int) l = cs := ⟨_, rfl⟩
  rw [hcs] at hm hm2 hCS hmem HC
  rw [hcs]
  have HOW : Hid (∀ (CB c Bc : Nat) (W : World), Below w.heap.size w W → W.ownsRow Bc 3 1 (.slice (some ⟨CB, 0, none⟩) (m + 1) c) (m + 1) (cs.map (Value.int .i64)) → _) := fun CB c Bc W hb ho => owners_any id fr P pc l C nn cc CB c m Bc cs W (h1.kept hb) hnum ⟨by omega, by omega⟩ hCS hm (by omega) hmm (by omega) hmem ho
  have HCUT : Hid (∀ q, q ≤ m → cs[q]? = some (cut cs q) ∧ 0 ≤ cut cs q ∧ cut cs q ≤ 1048576) := fun q hq => ⟨by unfold cut; rw [List.getElem?_eq_getElem (by omega)]; rfl, (cut_in hCS hm hq).1, by have := (cut_in hCS hm hq).2; omega⟩
  obtain ⟨a, ha⟩ : ∃ a, l.length = a := ⟨_, rfl⟩
  rw [ha] at HC HOW hb0
  rw [ha]
  have HB0 := Lib.hid hb0
  have HX0 := Lib.hid (heap_alloc_new w (.cells #[.int .i64 id, .int .i64 (fr : Int), .slice P a pc, .slice C nn cc] 31))
  have HMM : Hid (m ≤ 1000) := hmm
  clear h1 hnum hf hl hm hCS hm2 hmem hmm hcs ha hb0
  go_enter Tryd.func87, Tryd.ntmps87
  go_wp2_with fail
  refine HC.out.mono ?_
  rintro e w1 ⟨CB, c, rfl, ho1, hb1⟩
  have HO1 := Lib.hid ho1
  have HB1 := Lib.hid (HB0.out.trans (hb1.mono HB0.out.size))
  have HX1 := Lib.hid ((hb1.block _ (lt_of_block HX0.out)).trans HX0.out)
  have HOW1 := Lib.hid (HOW.out CB c _ w1 HB1.out ho1)
  clear ho1 hb1 HC HX0 HB0 HOW
  have y0 := cell_of_row _ _ 0 _ _ _ HX1.out
  have y1 := cell_of_row _ _ 1 _ _ _ HX1.out
  have y2 := cell_of_row _ _ 2 _ _ _ HX1.out
  have y3 := cell_of_row _ _ 3 _ _ _ HX1.out
  simp only [List.getElem?_toArray, List.getElem?_cons_zero, List.getElem?_cons_succ] at y0 y1 y2 y3
  go_wp2_with fail
  refine HOW1.out.mono ?_
  rintro e w2 ⟨LB, rfl, ho2, hb2⟩
  have HO2 := Lib.hid ho2
  have HB2 := Lib.hid (HB1.out.trans (hb2.mono HB1.out.size))
  have HO12 := Lib.hid (owns_kept HO1.out hb2)
  clear y0 y1 y2 y3 ho2 hb2 HO1 HX1 HOW1 HB1
  have HLT : Hid (LB < w2.heap.size ∧ CB < w2.heap.size) := ⟨(HO2.out.lt LB rfl).2, (HO12.out.lt CB rfl).2⟩
  have HS0 : Hid (RwRel m (rowsL fr l cs m) w2 (.int .i64 0) (.slice none 0 0) w2) := ⟨0, none, 0, Nat.zero_le _, rfl, rfl, World.ownsRow_nil _ _ _ _, Below.refl _ _⟩
  go_wp2_with fail
  go_loopw [13, 4] (fun i v wr => RwRel m (rowsL fr l cs m) w2 i v wr) (fun i _ _ => m - (intOf i).toNat)
  case atStart => exact HS0.out
  case round =>
    obtain ⟨k, VA, VC, hk, rfl, rfl, hown, hb⟩ := hrel
    have HOWN := Lib.hid hown
    have HB := Lib.hid hb
    clear hown hb HS0
    by_cases hlt : k < m
    · have hki : (0 : Int) ≤ k := by omega
      have hkb : (k : Int) < m := by omega
      have hmm := HMM.out
      obtain ⟨q0, p0, p1⟩ := HCUT.out k hk
      obtain ⟨q1, p2, p3⟩ := HCUT.out (k + 1) hlt
      have HRT := Lib.hid (rowsL_take (fr : Int) l cs hlt)
      have hc0 : wr.cell? ⟨LB, k, none⟩ = some (.int .i64 (ownT fr l (cut cs k))) := by
        refine (HB.out.cell (p := ⟨LB, k, none⟩) HLT.out.1).trans ?_
        rw [HO2.out.cellAt k (by omega)]
        unfold Lof
        rw [List.getElem?_map, List.getElem?_map, List.getElem?_range hlt]; rfl
      have hcc : ∀ W, Below w2.heap.size w2 W → W.cell? ⟨CB, k, none⟩ = some (.int .i64 (cut cs k)) ∧ W.cell? ⟨CB, k + 1, none⟩ = some (.int .i64 (cut cs (k + 1))) := fun W hb => by
        refine ⟨(hb.cell (p := ⟨CB, k, none⟩) HLT.out.2).trans ?_, (hb.cell (p := ⟨CB, k + 1, none⟩) HLT.out.2).trans ?_⟩
        · rw [HO12.out.cellAt k (by omega), List.getElem?_map, q0]; rfl
        · rw [HO12.out.cellAt (k + 1) (by omega), List.getElem?_map, q1]; rfl
      obtain ⟨ow, how⟩ : ∃ v, ownT fr l (cut cs k) = v := ⟨_, rfl⟩
      obtain ⟨u, hu⟩ : ∃ v, cut cs k = v := ⟨_, rfl⟩
      obtain ⟨v2, hv2⟩ : ∃ v, cut cs (k + 1) = v := ⟨_, rfl⟩
      rw [hu] at how
      rw [hu, hv2, how] at HRT
      rw [hu] at hc0 p0 p1
      rw [how] at hc0
      rw [hv2] at p2 p3
      rw [hu, hv2] at hcc
      obtain ⟨hc1, hc2⟩ := hcc wr HB.out
      have HCC := Lib.hid hcc
      have hk1 : IntKind.i64.wrap ((k : Int) + 1) = (k : Int) + 1 := IntWalk.i64_in _ (by omega)
      have hws : IntKind.i64.wrap (v2 - u) = v2 - u := IntWalk.i64_in _ (by omega)
      have hkn : ((k : Int) + 1).toNat = k + 1 := by omega
      have hkm : (k : Int) < (m : Int) + 1 := by omega
      have hk3 : (0 : Int) ≤ (k : Int) + 1 := by omega
      have hk4 : (k : Int) + 1 < (m : Int) + 1 := by omega
      have HP := Lib.hid hk1
      clear hcc q0 q1 how hu hv2 p0 p1 p2 p3
      go_wp2_with fail
      have HOA : Hid ((wr.alloc (.cells #[.int .i64 ow, .int .i64 u, .int .i64 (v2 - u)] 82)).drew.ownsRow w2.heap.size 82 3 (.slice VA k VC) k (flatA ((rowsL fr l cs m).take k))) := by
        have h : Below wr.heap.size wr (wr.alloc (.cells #[.int .i64 ow, .int .i64 u, .int .i64 (v2 - u)] 82)) := (Below.refl _ _).alloc (Nat.le_refl _) _
        exact owns_kept HOWN.out ⟨h.os, h.tape, h.output, h.size, h.block⟩
      have HOB : Hid ((wr.drew.alloc (.cells #[.int .i64 ow, .int .i64 u, .int .i64 (v2 - u)] 82)).ownsRow w2.heap.size 82 3 (.slice VA k VC) k (flatA ((rowsL fr l cs m).take k))) := HOA.out
      have HBA : Hid (Below w2.heap.size w2 (wr.alloc (.cells #[.int .i64 ow, .int .i64 u, .int .i64 (v2 - u)] 82))) := by
        have h : Below wr.heap.size wr (wr.alloc (.cells #[.int .i64 ow, .int .i64 u, .int .i64 (v2 - u)] 82)) := (Below.refl _ _).alloc (Nat.le_refl _) _
        exact HB.out.trans (h.mono HB.out.size)
      have HBD : Hid (Below w2.heap.size w2 (wr.alloc (.cells #[.int .i64 ow, .int .i64 u, .int .i64 (v2 - u)] 82)).drew) := ⟨HBA.out.os, HBA.out.tape, HBA.out.output, HBA.out.size, HBA.out.block⟩
      go_region_held3 (fun wx => wx.cell? ⟨CB, k, none⟩ = some (.int .i64 u) ∧ wx.cell? ⟨CB, k + 1, none⟩ = some (.int .i64 v2)) (first | exact HKQ.out | (refine ⟨?_, ?_⟩ <;> first | assumption | (go_keep; done)) | (go_keep; done))
        (first
          | (
              refine step_append_ownW (s := .tmp 18) (x := .tmp 35) (t := 29) rfl rfl (base := w2.heap.size) (e := 82) (i := i0) (z := .agg #[.int .i64 0, .int .i64 0, .int .i64 0]) (size := 3) (bytes := 24) Tryd.underlying29 hi hz0 hz1 hz2 rfl (by decide) (v := .slice VA k VC) (n := k) (xs := flatA ((rowsL fr l cs m).take k)) rfl HOA.out ⟨wr.heap.size, 0, none⟩ 1 1 [.int .i64 ow, .int .i64 u, .int .i64 (v2 - u)] rfl rfl (new3W _ _ _ _ _) (one3W _ _ _) ?_ ?_ ?_ ?_
              · unfold maxLen; omega
              · omega
              · exact HBD.out.size
              intro v' w' ho hg
              obtain ⟨A9, c9, rfl⟩ := row_slice3 ho
              have HO9 := Lib.hid ho
              have HB9 : Hid (Below w2.heap.size w2 w') := HBD.out.grown hg HBD.out.size (fun j hj => (HOA.out.lt j hj).1)
              have HKQ := Lib.hid (HCC.out w' HB9.out)
              clear ho hg)
          | (
              refine step_append_ownW (s := .tmp 18) (x := .tmp 35) (t := 29) rfl rfl (base := w2.heap.size) (e := 82) (i := i0) (z := .agg #[.int .i64 0, .int .i64 0, .int .i64 0]) (size := 3) (bytes := 24) Tryd.underlying29 hi hz0 hz1 hz2 rfl (by decide) (v := .slice VA k VC) (n := k) (xs := flatA ((rowsL fr l cs m).take k)) rfl HOB.out ⟨wr.heap.size, 0, none⟩ 1 1 [.int .i64 ow, .int .i64 u, .int .i64 (v2 - u)] rfl rfl (new3V _ _ _ _ _) (one3W _ _ _) ?_ ?_ ?_ ?_
              · unfold maxLen; omega
              · omega
              · exact HBD.out.size
              intro v' w' ho hg
              obtain ⟨A9, c9, rfl⟩ := row_slice3 ho
              have HO9 := Lib.hid ho
              have HB9 : Hid (Below w2.heap.size w2 w') := HBD.out.grown hg HBD.out.size (fun j hj => (HOB.out.lt j hj).1)
              have HKQ := Lib.hid (HCC.out w' HB9.out)
              clear ho hg))
      all_goals
        go_wp2
        go_roundw
        case rel => exact ⟨k + 1, A9, c9, by omega, by go_num, rfl, by rw [HRT.out, flatA_snoc]; exact HO9.out, HB9.out⟩
        case measure => simp [intOf]; omega
    · obtain rfl : k = m := by omega
      rw [List.take_of_length_le (by rw [rowsL_len]; exact Nat.le_refl _)] at HOWN
      have hbase : w.heap.size ≤ w2.heap.size := HB2.out.size
      have HOF := Lib.hid (row_base HOWN.out hbase)
      have HBF := Lib.hid (HB2.out.trans (HB.out.mono hbase))
      clear HOWN HB hbase
      go_wp2
      go_ret
      exact ⟨_, rfl, HOF.out, HBF.out⟩
end Go.Proofs.YtpjillclladjaaaDoor.Win
