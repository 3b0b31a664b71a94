
/- What the document says of windows in their order, and of two windows' ticks in common. Condition: at most 100 windows. -/

import Derived.Test.YtplllmfbpliciaaDoorWinS

import Derived.Test.YtplllmfbpliciaaDoorWinD

import Derived.Laws.OwnMore

namespace Go.Proofs.YtplllmfbpliciaaDoor.Win

open Go.RowKit Go.PlainAid Go.Proofs.YtplllmfbpliciaaDoor.Oct Go.Proofs.YtplllmfbpliciaaDoor.Flt Go.Proofs.YtplllmfbpliciaaDoor.Rdr Go.Proofs.YtplllmfbpliciaaDoor.Args

open Go.Proofs.YtplllmfbpliciaaDoor.Act (A3 actL flatA flatA_len flatA_get flatA_snoc ActsAt I64 Wide row_beside)

set_option linter.unusedVariables false

set_option linter.unusedSimpArgs false

theorem lessW_cases (x y : A3) : lessW x y = if (x.p != y.p) then decide (x.p < y.p) else if (x.a != y.a) then decide (x.a < y.a) else decide (x.s < y.s) := by
  unfold lessW
  by_cases h1 : x.p = y.p <;> by_cases h2 : x.a = y.a <;> simp [h1, h2]
set_option maxRecDepth 4000 in
theorem less13_any (x y : A3) (w : World) :
    Calls Tryd.prog 25 #[.agg (winC x), .agg (winC y)] w fun e w' => e = .returned (.bool (lessW x y)) ∧ Below w.heap.size w w' := by
  have HB := Lib.hid (fun o1 o2 => two_below w o1 o2)
  rw [lessW_cases]
  obtain ⟨s1, p1, a1⟩ := x
  obtain ⟨s2, p2, a2⟩ := y
  unfold winC
  dsimp only
  cases h1 : (p1 != p2)
  · cases h2 : (a1 != a2)
    · obtain ⟨r, hr⟩ : ∃ r, decide (s1 < s2) = r := ⟨_, rfl⟩
      rw [hr]
      go_enter Tryd.func25, Tryd.ntmps25
      go_wp2
      go_ret
      exact ⟨by simp, HB.out _ _⟩
    · obtain ⟨r, hr⟩ : ∃ r, decide (a1 < a2) = r := ⟨_, rfl⟩
      rw [hr]
      go_enter Tryd.func25, Tryd.ntmps25
      go_wp2
      go_ret
      exact ⟨by simp, HB.out _ _⟩
  · obtain ⟨r, hr⟩ : ∃ r, decide (p1 < p2) = r := ⟨_, rfl⟩
    rw [hr]
    go_enter Tryd.func25, Tryd.ntmps25
    go_wp2
    go_ret
    exact ⟨by simp, HB.out _ _⟩
theorem eqWin (a b c : Int) (w : World) : (Op.equalIn 10000 39 (.agg #[.int .i64 a, .int .i64 b, .int .i64 c]) (.agg #[.int .i64 a, .int .i64 b, .int .i64 c])).run Tryd.prog w = .ok true w := by
  have hS : Tryd.prog.underlying 39 = some (.struct (Tryd.prog.fieldsOf 39)) := by kernel_rfl
  rw [show (10000 : Nat) = 9999 + 1 from rfl, run_equalIn_agg w 9999 39 _ _ hS (by kernel_rfl)]
  simp only [Program.fieldsOf, Tryd.underlying39]
  go_simp
set_option maxRecDepth 4000 in
set_option maxHeartbeats 1600000 in
theorem same13_any (A B : Option Addr) (ca cb : Nat) (l : List A3) (w : World) (h1 : ActsAt w A l) (h2 : ActsAt w B l) (hl : l.length ≤ 1099511627776) :
    Calls Tryd.prog 9 #[.slice A l.length ca, .slice B l.length cb] w fun e w' => e = .returned (.bool true) ∧ ∃ n, w' = w.drewN n := by
  obtain ⟨a, ha⟩ : ∃ a, l.length = a := ⟨_, rfl⟩
  have HA := Lib.hid ha
  rw [ha] at hl
  rw [ha]
  have H1 := Lib.hid h1
  have H2 := Lib.hid h2
  clear h1 h2 ha
  have tne : ((a : Int) != (a : Int)) = false := by simp
  go_enter Tryd.func9, Tryd.ntmps9
  go_wp2
  go_loopw [5] (fun i wr => ∃ k n : Nat, k ≤ a ∧ i = .int .i64 k ∧ wr = w.drewN n) (fun i _ => a - (intOf i).toNat)
  case atStart => exact ⟨0, 0, Nat.zero_le _, rfl, rfl⟩
  case round =>
    obtain ⟨k, n, hk, rfl, hw⟩ := hrel
    have HW := Lib.hid hw
    by_cases hlt : k < a
    · obtain ⟨x, hx⟩ : ∃ x, l[k]? = some x := ⟨_, List.getElem?_eq_getElem (by rw [HA.out]; exact hlt)⟩
      obtain ⟨ax, rfl, c1, c2, c3⟩ := H1.out k x hx
      obtain ⟨ay, rfl, c4, c5, c6⟩ := H2.out k x hx
      have c1' : wr.cell? (ax.add (k * 3)) = some (.int .i64 x.s) := by rw [hw]; exact c1
      have c2' : wr.cell? ⟨(ax.add (k * 3)).block, (ax.add (k * 3)).off + 1, none⟩ = some (.int .i64 x.p) := by rw [hw]; exact c2
      have c3' : wr.cell? ⟨(ax.add (k * 3)).block, (ax.add (k * 3)).off + 2, none⟩ = some (.int .i64 x.a) := by rw [hw]; exact c3
      have c4' : wr.cell? (ay.add (k * 3)) = some (.int .i64 x.s) := by rw [hw]; exact c4
      have c5' : wr.cell? ⟨(ay.add (k * 3)).block, (ay.add (k * 3)).off + 1, none⟩ = some (.int .i64 x.p) := by rw [hw]; exact c5
      have c6' : wr.cell? ⟨(ay.add (k * 3)).block, (ay.add (k * 3)).off + 2, none⟩ = some (.int .i64 x.a) := by rw [hw]; exact c6
      have heq : ∀ wx : World, (Op.equalIn 10000 39 (.agg #[.int .i64 x.s, .int .i64 x.p, .int .i64 x.a]) (.agg #[.int .i64 x.s, .int .i64 x.p, .int .i64 x.a])).run Tryd.prog wx = .ok true wx := fun wx => eqWin _ _ _ wx
      have hki : (0 : Int) ≤ k := by omega
      have hka : (k : Int) < a := by omega
      clear hw hx c1 c2 c3 c4 c5 c6 H1 H2
      go_wp2
      go_quiet (fail)
      go_wp2
      go_roundw
      case rel => exact ⟨k + 1, n + nq, by omega, by go_num, by rw [HW.out, World.drewN_drewN]⟩
      case measure => simp [intOf]; omega
    · obtain rfl : k = a := by omega
      clear hw
      go_wp2
      go_ret
      exact ⟨rfl, n, HW.out⟩
theorem own_wins {w : World} {B G c : Nat} {l : List A3} (h : w.ownsRow B 39 3 (.slice (some ⟨G, 0, none⟩) l.length c) l.length (flatA l)) : ActsAt w (some ⟨G, 0, none⟩) l := by
  intro i x hx
  have hi : i < l.length := (List.getElem?_eq_some_iff.1 hx).1
  have e : (Addr.mk G 0 none).add (i * 3) = ⟨G, i * 3, none⟩ := by
    rcases Nat.eq_zero_or_pos (i * 3) with h0 | h0
    · rw [h0]; simp [Addr.add]
    · simp [Addr.add]; omega
  refine ⟨_, rfl, ?_, ?_, ?_⟩
  · have := h.cellAt (i * 3 + 0) (by omega)
    rw [flatA_get l i x 0 hx (by omega)] at this
    rw [e]; exact this
  · have := h.cellAt (i * 3 + 1) (by omega)
    rw [flatA_get l i x 1 hx (by omega)] at this
    rw [e]; exact this
  · have := h.cellAt (i * 3 + 2) (by omega)
    rw [flatA_get l i x 2 hx (by omega)] at this
    rw [e]; exact this
theorem own_atW {w : World} {B n : Nat} {V : Value} {l : List A3} (h : w.ownsRow B 39 3 V n (flatA l)) (hn : n = l.length) : ∃ A c, V = .slice A n c ∧ ActsAt w A l := by
  subst hn
  rcases h.2 with ⟨rfl, h0⟩ | ⟨g, c, cur, rfl, h2, h3, h4⟩
  · refine ⟨none, 0, by rw [h0], fun i x hx => ?_⟩
    have : l = [] := List.eq_nil_of_length_eq_zero h0
    rw [this] at hx; simp at hx
  · exact ⟨_, c, rfl, own_wins h⟩
/-- A row that grows in the call's own memory, behind w0. -/
structure NW (L : List A3) (N : Value) (w0 wr : World) : Prop where
  own : wr.ownsRow w0.heap.size 39 3 N L.length (flatA L)
  below : Below w0.heap.size w0 wr
theorem NW.keep {L : List A3} {N : Value} {w0 wr w' : World} (f : NW L N w0 wr) (b : Below wr.heap.size wr w') : NW L N w0 w' := ⟨owns_kept f.own b, f.below.trans (b.mono f.below.size)⟩
theorem NW.grown {L : List A3} {x : A3} {N N' : Value} {w0 wr w' : World} (f : NW L N w0 wr) (hg : wr.grownBy w' N.ownBlock) (n : Nat) (hn : n = L.length + 1) (ho : w'.ownsRow w0.heap.size 39 3 N' n (flatA L ++ actL x)) : NW (L ++ [x]) N' w0 w' :=
  ⟨by rw [List.length_append, List.length_singleton, ← hn, flatA_snoc]; exact ho, f.below.grown hg f.below.size (fun j hj => (f.own.lt j hj).1)⟩
def SORel (l : List A3) (w : World) (v i : Value) (wr : World) : Prop := ∃ k : Nat, k ≤ l.length ∧ i = .int .i64 k ∧ wr.ownsRow w.heap.size 39 3 v k (flatA (sortW (l.take k))) ∧ Below w.heap.size w wr
def SIRel (x : A3) (O : List A3) (w0 : World) (nx dn i : Value) (wr : World) : Prop := ∃ j : Nat, j ≤ O.length ∧ i = .int .i64 j ∧ dn = .bool (anyW x (O.take j)) ∧ NW (nxW x (O.take j)) nx w0 wr
theorem sort_take_len (l : List A3) (k : Nat) (hk : k ≤ l.length) : (sortW (l.take k)).length = k := by rw [sort_len, List.length_take]; omega
theorem nx_len (x : A3) (l : List A3) : (nxW x l).length ≤ l.length + 1 := by
  unfold nxW; split
  · rw [ins_len]; omega
  · omega
set_option maxRecDepth 8000 in
set_option maxHeartbeats 6400000 in
theorem sort13_any (P : Option Addr) (pc : Nat) (l : List A3) (w : World) (h1 : ActsAt w P l) (hl : l.length ≤ 100) :
    Calls Tryd.prog 11 #[.slice P l.length pc] w (WPost (sortW l) w) := by
  obtain ⟨i0, hi, hz0, hz1, hz2⟩ := info_parts infoWin
  obtain ⟨a, ha⟩ : ∃ a, l.length = a := ⟨_, rfl⟩
  have HA := Lib.hid ha
  rw [ha] at hl
  rw [ha]
  have H1 := Lib.hid h1
  have hb0 : Below w.heap.size w (w.alloc (.cells #[] 39)) := (Below.refl _ _).alloc (Nat.le_refl _) _
  have HB0 := Lib.hid hb0
  have HO0 : Hid ((w.alloc (.cells #[] 39)).ownsRow w.heap.size 39 3 (.slice (some ⟨w.heap.size, 0, none⟩) 0 0) 0 []) := World.ownsRow_lit w #[] 0 (Nat.le_refl _) (Nat.zero_le _) rfl
  clear ha h1 hb0
  go_enter Tryd.func11, Tryd.ntmps11
  go_wp2_with fail
  go_loopw [3, 4] (fun v i wr => SORel l w v i wr) (fun _ i _ => a - (intOf i).toNat)
  case atStart => exact ⟨0, Nat.zero_le _, rfl, HO0.out, HB0.out⟩
  case round =>
    obtain ⟨k, hk, rfl, hown, hbe⟩ := hrel
    have hka : k ≤ a := by rw [← HA.out]; exact hk
    obtain ⟨VA, vc, hV, hVA⟩ := own_atW hown (sort_take_len l k hk).symm
    have HOW := Lib.hid hown
    have HBE := Lib.hid hbe
    have HVA := Lib.hid hVA
    clear hown hbe hVA hk HB0 HO0
    by_cases hlt : k < a
    · obtain ⟨x, hx⟩ : ∃ x, l[k]? = some x := ⟨_, List.getElem?_eq_getElem (by rw [HA.out]; exact hlt)⟩
      have hts : sortW (l.take (k + 1)) = insW x (sortW (l.take k)) := by
        rw [List.take_add_one, hx]; exact sort_snoc _ _
      have HTS := Lib.hid hts
      obtain ⟨O, hO⟩ : ∃ O, sortW (l.take k) = O := ⟨_, rfl⟩
      have HOL : Hid (O.length = k) := by show _ = _; rw [← hO]; exact sort_take_len l k (by rw [HA.out]; exact hka)
      rw [hO] at HOW HVA HTS
      have HX := Lib.hid hx
      subst hV
      have hb5 : Below wr.heap.size wr (wr.alloc (.cells #[] 39)) := (Below.refl _ _).alloc (Nat.le_refl _) _
      have HN0 : Hid (NW [] (.slice (some ⟨wr.heap.size, 0, none⟩) 0 0) wr (wr.alloc (.cells #[] 39))) := ⟨World.ownsRow_lit wr #[] 0 (Nat.le_refl _) (Nat.zero_le _) rfl, hb5⟩
      have HLX := Lib.hid (fun W (b : Below wr.heap.size wr W) => (H1.out.kept (HBE.out.trans (b.mono HBE.out.size))) k x hx)
      clear hts hO hx hb5
      go_wp2_with fail
      go_loopw [5, 6, 7] (fun nx dn i W => SIRel x O wr nx dn i W) (fun _ _ i _ => k - (intOf i).toNat)
      case atStart => exact ⟨0, Nat.zero_le _, rfl, rfl, HN0.out⟩
      case round =>
        obtain ⟨j, hj, rfl, rfl, hnw⟩ := hrel
        have HNW := Lib.hid hnw
        clear hnw HN0
        by_cases hjk : j < k
        · obtain ⟨y, hy⟩ : ∃ y, O[j]? = some y := ⟨_, List.getElem?_eq_getElem (by rw [HOL.out]; exact hjk)⟩
          obtain ⟨ay, rfl, d1, d2, d3⟩ := (HVA.out.kept HNW.out.below) j y hy
          obtain ⟨ax, rfl, c1, c2, c3⟩ := HLX.out _ HNW.out.below
          have htk : O.take (j + 1) = O.take j ++ [y] := by rw [List.take_add_one, hy]; rfl
          have HY := Lib.hid hy
          have hns := nx_step x y (O.take j)
          have hax := any_snoc x y (O.take j)
          rw [← htk] at hns hax
          have HLN : Hid ((nxW x (O.take j)).length ≤ 101) := by
            show _ ≤ _
            have := nx_len x (O.take j)
            have h2 : (O.take j).length ≤ j := by rw [List.length_take]; omega
            omega
          obtain ⟨L, hL⟩ : ∃ L, nxW x (O.take j) = L := ⟨_, rfl⟩
          obtain ⟨dn, hdn⟩ : ∃ d, anyW x (O.take j) = d := ⟨_, rfl⟩
          rw [hL] at HNW HLN
          rw [hL, hdn] at hns
          rw [hdn] at hax
          rw [hdn]
          have HLESS := Lib.hid (fun W => less13_any x y W)
          obtain ⟨x1, x2, x3⟩ := x
          obtain ⟨y1, y2, y3⟩ := y
          unfold winC at HLESS
          dsimp only at c1 c2 c3 d1 d2 d3 HLESS
          obtain ⟨b, hb⟩ : ∃ b, lessW ⟨x1, x2, x3⟩ ⟨y1, y2, y3⟩ = b := ⟨_, rfl⟩
          rw [hb] at HLESS hns hax
          have HNX0 := Lib.hid hns
          have HAN0 := Lib.hid hax
          have hji : (0 : Int) ≤ (j : Int) := by omega
          have hjb : (j : Int) < k := by omega
          have hki : (0 : Int) ≤ (k : Int) := by omega
          have hkb : (k : Int) < a := by omega
          have hj1 : IntKind.i64.wrap ((j : Int) + 1) = (j : Int) + 1 := IntWalk.i64_in _ (by omega)
          clear hns hax hb hy htk hL hdn
          obtain ⟨W, hW⟩ : ∃ W, wr = W := ⟨_, rfl⟩
          subst hW
          cases dn with
          | true =>
            have HNX : Hid (nxW ⟨x1, x2, x3⟩ (O.take (j + 1)) = L ++ [⟨y1, y2, y3⟩]) := by show _ = _; rw [HNX0.out]; simp
            have HAN : Hid (anyW ⟨x1, x2, x3⟩ (O.take (j + 1)) = true) := by show _ = _; rw [HAN0.out]; simp
            clear HNX0 HAN0 HLESS
            go_wp2
            go_quiet (fail)
            have HQ1 := Lib.hid (HNW.out.keep (w' := wr.drewN nq) ⟨rfl, rfl, rfl, Nat.le_refl _, fun _ _ => rfl⟩)
            have HR1 := Lib.hid (HQ1.out.keep ((Below.refl _ _).alloc (Nat.le_refl _) (.cells #[.int .i64 y1, .int .i64 y2, .int .i64 y3] 39)))
            go_wp2_with (at_builtin; refine wpList_append_own _ rfl _ _ 22 rfl _ 39 i0 (.agg #[.int .i64 0, .int .i64 0, .int .i64 0]) 3 24 Tryd.underlying22 hi hz0 hz1 hz2 rfl (by decide) _ _ _ rfl HR1.out.own ⟨(wr.drewN nq).heap.size, 0, none⟩ 1 1 [.int .i64 y1, .int .i64 y2, .int .i64 y3] rfl rfl ?c1 ?c2 ?c3 ?c4 ?c5 ?_)
            case c1 =>
              intro j u hj
              have hrow := heap_alloc_new (wr.drewN nq) (.cells #[.int .i64 y1, .int .i64 y2, .int .i64 y3] 39)
              have e : (Addr.mk (wr.drewN nq).heap.size 0 none).add j = ⟨(wr.drewN nq).heap.size, j, none⟩ := by cases j <;> simp [Addr.add]
              rw [e, cell_of_row _ _ _ _ _ _ hrow, ← hj]
              simp
            case c2 => intro u hu; simp at hu; rcases hu with rfl | rfl | rfl <;> rfl
            case c3 => have := HLN.out; (try simp only [List.length_append, List.length_singleton]); unfold maxLen; omega
            case c4 => have := HLN.out; (try simp only [List.length_append, List.length_singleton]); omega
            case c5 => exact HR1.out.below.size
            intro V1 W1 ho1 hg1 _
            have HF1 := Lib.hid (HR1.out.grown (x := ⟨y1, y2, y3⟩) hg1 _ (by simp) ho1)
            clear ho1 hg1
            go_wp2
            go_roundw
            case rel => exact ⟨j + 1, by have := HOL.out; omega, by go_num, by rw [HAN.out], by rw [HNX.out]; exact HF1.out⟩
            case measure => simp [intOf]; omega
          | false =>
            have HCE := Lib.hid (And.intro c1 (And.intro c2 (And.intro c3 (And.intro d1 (And.intro d2 d3)))))
            have HCD : Hid (wr.drew.cell? (ax.add (k * 3)) = some (.int .i64 x1) ∧ wr.drew.cell? ⟨(ax.add (k * 3)).block, (ax.add (k * 3)).off + 1, none⟩ = some (.int .i64 x2) ∧ wr.drew.cell? ⟨(ax.add (k * 3)).block, (ax.add (k * 3)).off + 2, none⟩ = some (.int .i64 x3) ∧ wr.drew.cell? (ay.add (j * 3)) = some (.int .i64 y1) ∧ wr.drew.cell? ⟨(ay.add (j * 3)).block, (ay.add (j * 3)).off + 1, none⟩ = some (.int .i64 y2) ∧ wr.drew.cell? ⟨(ay.add (j * 3)).block, (ay.add (j * 3)).off + 2, none⟩ = some (.int .i64 y3)) := HCE.out
            have HND := Lib.hid (HNW.out.keep (w' := wr.drew) ⟨rfl, rfl, rfl, Nat.le_refl _, fun _ _ => rfl⟩)
            go_wp2
            cases b
            all_goals
              go_region_held3 (fun wx => wx.cell? (ax.add (k * 3)) = some (.int .i64 x1) ∧ wx.cell? ⟨(ax.add (k * 3)).block, (ax.add (k * 3)).off + 1, none⟩ = some (.int .i64 x2) ∧ wx.cell? ⟨(ax.add (k * 3)).block, (ax.add (k * 3)).off + 2, none⟩ = some (.int .i64 x3) ∧ wx.cell? (ay.add (j * 3)) = some (.int .i64 y1) ∧ wx.cell? ⟨(ay.add (j * 3)).block, (ay.add (j * 3)).off + 1, none⟩ = some (.int .i64 y2) ∧ wx.cell? ⟨(ay.add (j * 3)).block, (ay.add (j * 3)).off + 2, none⟩ = some (.int .i64 y3)) (first | (go_keep; done) | exact HCE.out | exact HKP.out | (refine ⟨?_, ?_, ?_, ?_, ?_, ?_⟩ <;> assumption))
                (first
                  | (go_at_call 25; refine (HLESS.out _).mono ?_; rintro e w9 ⟨rfl, hb9⟩; have HN9 := Lib.hid (HND.out.keep hb9); have HKP := Lib.hid (kept6 HCD.out hb9); clear hb9))
            · have HNX : Hid (nxW ⟨x1, x2, x3⟩ (O.take (j + 1)) = L ++ [⟨y1, y2, y3⟩]) := by show _ = _; rw [HNX0.out]; simp
              have HAN : Hid (anyW ⟨x1, x2, x3⟩ (O.take (j + 1)) = false) := by show _ = _; rw [HAN0.out]; simp
              obtain ⟨c1, c2, c3, d1, d2, d3⟩ := HKP.out
              clear HNX0 HAN0 HLESS HCE HCD HND
              have HR2 := Lib.hid (HN9.out.keep ((Below.refl _ _).alloc (Nat.le_refl _) (.cells #[.int .i64 y1, .int .i64 y2, .int .i64 y3] 39)))
              go_wp2_with (at_builtin; refine wpList_append_own _ rfl _ _ 22 rfl _ 39 i0 (.agg #[.int .i64 0, .int .i64 0, .int .i64 0]) 3 24 Tryd.underlying22 hi hz0 hz1 hz2 rfl (by decide) _ _ _ rfl HR2.out.own ⟨(w9).heap.size, 0, none⟩ 1 1 [.int .i64 y1, .int .i64 y2, .int .i64 y3] rfl rfl ?c1 ?c2 ?c3 ?c4 ?c5 ?_)
              case c1 =>
                intro j u hj
                have hrow := heap_alloc_new (w9) (.cells #[.int .i64 y1, .int .i64 y2, .int .i64 y3] 39)
                have e : (Addr.mk (w9).heap.size 0 none).add j = ⟨(w9).heap.size, j, none⟩ := by cases j <;> simp [Addr.add]
                rw [e, cell_of_row _ _ _ _ _ _ hrow, ← hj]
                simp
              case c2 => intro u hu; simp at hu; rcases hu with rfl | rfl | rfl <;> rfl
              case c3 => have := HLN.out; (try simp only [List.length_append, List.length_singleton]); unfold maxLen; omega
              case c4 => have := HLN.out; (try simp only [List.length_append, List.length_singleton]); omega
              case c5 => exact HR2.out.below.size
              intro V2 W2 ho2 hg2 _
              have HF2 := Lib.hid (HR2.out.grown (x := ⟨y1, y2, y3⟩) hg2 _ (by simp) ho2)
              clear ho2 hg2
              go_wp2
              go_roundw
              case rel => exact ⟨j + 1, by have := HOL.out; omega, by go_num, by rw [HAN.out], by rw [HNX.out]; exact HF2.out⟩
              case measure => simp [intOf]; omega
            · have HNX : Hid (nxW ⟨x1, x2, x3⟩ (O.take (j + 1)) = L ++ [⟨x1, x2, x3⟩] ++ [⟨y1, y2, y3⟩]) := by show _ = _; rw [HNX0.out]; simp
              have HAN : Hid (anyW ⟨x1, x2, x3⟩ (O.take (j + 1)) = true) := by show _ = _; rw [HAN0.out]; simp
              obtain ⟨c1, c2, c3, d1, d2, d3⟩ := HKP.out
              clear HNX0 HAN0 HLESS HCE HCD HND d1 d2 d3
              have HR3 := Lib.hid (HN9.out.keep ((Below.refl _ _).alloc (Nat.le_refl _) (.cells #[.int .i64 x1, .int .i64 x2, .int .i64 x3] 39)))
              go_wp2_with (at_builtin; refine wpList_append_own _ rfl _ _ 22 rfl _ 39 i0 (.agg #[.int .i64 0, .int .i64 0, .int .i64 0]) 3 24 Tryd.underlying22 hi hz0 hz1 hz2 rfl (by decide) _ _ _ rfl HR3.out.own ⟨(w9).heap.size, 0, none⟩ 1 1 [.int .i64 x1, .int .i64 x2, .int .i64 x3] rfl rfl ?c1 ?c2 ?c3 ?c4 ?c5 ?_)
              case c1 =>
                intro j u hj
                have hrow := heap_alloc_new (w9) (.cells #[.int .i64 x1, .int .i64 x2, .int .i64 x3] 39)
                have e : (Addr.mk (w9).heap.size 0 none).add j = ⟨(w9).heap.size, j, none⟩ := by cases j <;> simp [Addr.add]
                rw [e, cell_of_row _ _ _ _ _ _ hrow, ← hj]
                simp
              case c2 => intro u hu; simp at hu; rcases hu with rfl | rfl | rfl <;> rfl
              case c3 => have := HLN.out; (try simp only [List.length_append, List.length_singleton]); unfold maxLen; omega
              case c4 => have := HLN.out; (try simp only [List.length_append, List.length_singleton]); omega
              case c5 => exact HR3.out.below.size
              intro V3 W3 ho3 hg3 _
              have HF3 := Lib.hid (HR3.out.grown (x := ⟨x1, x2, x3⟩) hg3 _ (by simp) ho3)
              clear ho3 hg3
              obtain ⟨_, hay, d1, d2, d3⟩ := (HVA.out.kept HF3.out.below) j _ HY.out
              obtain rfl := Option.some.inj hay
              dsimp only at d1 d2 d3
              clear hay c1 c2 c3
              have HR4 := Lib.hid (HF3.out.keep ((Below.refl _ _).alloc (Nat.le_refl _) (.cells #[.int .i64 y1, .int .i64 y2, .int .i64 y3] 39)))
              go_wp2_with (at_builtin; refine wpList_append_own _ rfl _ _ 22 rfl _ 39 i0 (.agg #[.int .i64 0, .int .i64 0, .int .i64 0]) 3 24 Tryd.underlying22 hi hz0 hz1 hz2 rfl (by decide) _ _ _ rfl HR4.out.own ⟨(W3).heap.size, 0, none⟩ 1 1 [.int .i64 y1, .int .i64 y2, .int .i64 y3] rfl rfl ?c1 ?c2 ?c3 ?c4 ?c5 ?_)
              case c1 =>
                intro j u hj
                have hrow := heap_alloc_new (W3) (.cells #[.int .i64 y1, .int .i64 y2, .int .i64 y3] 39)
                have e : (Addr.mk (W3).heap.size 0 none).add j = ⟨(W3).heap.size, j, none⟩ := by cases j <;> simp [Addr.add]
                rw [e, cell_of_row _ _ _ _ _ _ hrow, ← hj]
                simp
              case c2 => intro u hu; simp at hu; rcases hu with rfl | rfl | rfl <;> rfl
              case c3 => have := HLN.out; (try simp only [List.length_append, List.length_singleton]); unfold maxLen; omega
              case c4 => have := HLN.out; (try simp only [List.length_append, List.length_singleton]); omega
              case c5 => exact HR4.out.below.size
              intro V4 W4 ho4 hg4 _
              have HF4 := Lib.hid (HR4.out.grown (x := ⟨y1, y2, y3⟩) hg4 _ (by simp) ho4)
              clear ho4 hg4
              go_wp2
              go_roundw
              case rel => exact ⟨j + 1, by have := HOL.out; omega, by go_num, by rw [HAN.out], by rw [HNX.out]; exact HF4.out⟩
              case measure => simp [intOf]; omega
        · obtain rfl : j = k := by have := HOL.out; omega
          rw [List.take_of_length_le (by rw [HOL.out]; exact Nat.le_refl _)] at HNW
          rw [List.take_of_length_le (by rw [HOL.out]; exact Nat.le_refl _)]
          have hne := nx_end x O
          have HLN : Hid ((nxW x O).length ≤ 101) := by
            show _ ≤ _
            have := nx_len x O
            have := HOL.out
            omega
          have HIL : Hid ((insW x O).length = j + 1) := by show _ = _; rw [ins_len, HOL.out]
          obtain ⟨L, hL⟩ : ∃ L, nxW x O = L := ⟨_, rfl⟩
          rw [hL] at HNW HLN hne
          obtain ⟨dn, hdn⟩ : ∃ d, anyW x O = d := ⟨_, rfl⟩
          rw [hdn] at hne
          rw [hdn]
          have HNE := Lib.hid hne
          have hkb : (j : Int) < a := by omega
          have hki : (0 : Int) ≤ (j : Int) := by omega
          have hj1 : IntKind.i64.wrap ((j : Int) + 1) = (j : Int) + 1 := IntWalk.i64_in _ (by omega)
          clear hne hL hdn
          cases dn with
          | true =>
            go_wp2
            go_roundw
            case rel =>
              refine ⟨j + 1, by have := HA.out; omega, by go_num, ?_, HBE.out.trans (HNW.out.below.mono HBE.out.size)⟩
              rw [HTS.out, ← HIL.out, HNE.out]
              exact Go.Proofs.YtplllmfbpliciaaDoor.Act.row_base HNW.out.own HBE.out.size
            case measure => simp [intOf]; omega
          | false =>
            obtain ⟨ax, rfl, c1, c2, c3⟩ := HLX.out _ HNW.out.below
            obtain ⟨x1, x2, x3⟩ := x
            dsimp only at c1 c2 c3
            have HR5 := Lib.hid (HNW.out.keep ((Below.refl _ _).alloc (Nat.le_refl _) (.cells #[.int .i64 x1, .int .i64 x2, .int .i64 x3] 39)))
            go_wp2_with (at_builtin; refine wpList_append_own _ rfl _ _ 22 rfl _ 39 i0 (.agg #[.int .i64 0, .int .i64 0, .int .i64 0]) 3 24 Tryd.underlying22 hi hz0 hz1 hz2 rfl (by decide) _ _ _ rfl HR5.out.own ⟨(wr).heap.size, 0, none⟩ 1 1 [.int .i64 x1, .int .i64 x2, .int .i64 x3] rfl rfl ?c1 ?c2 ?c3 ?c4 ?c5 ?_)
            case c2 => exact ⟨rfl, rfl, rfl⟩
            case c3 => have := HLN.out; (try simp only [List.length_append, List.length_singleton]); unfold maxLen; omega
            case c4 => have := HLN.out; (try simp only [List.length_append, List.length_singleton]); omega
            case c5 => have := HNW.out.below.size; omega
            intro V5 W5 ho5 hg5 _
            have HF5 := Lib.hid (HR5.out.grown (x := ⟨x1, x2, x3⟩) hg5 _ (by simp) ho5)
            clear ho5 hg5
            go_wp2
            go_roundw
            case rel =>
              refine ⟨j + 1, by have := HA.out; omega, by go_num, ?_, HBE.out.trans (HF5.out.below.mono HBE.out.size)⟩
              rw [HTS.out, ← HIL.out, HNE.out]
              exact Go.Proofs.YtplllmfbpliciaaDoor.Act.row_base HF5.out.own HBE.out.size
            case measure => simp [intOf]; omega
    · obtain rfl : k = a := by omega
      rw [List.take_of_length_le (by rw [HA.out]; exact Nat.le_refl _)] at HOW
      clear HVA hV
      go_wp2
      go_ret
      exact ⟨_, rfl, by rw [sort_len, HA.out]; exact HOW.out, HBE.out⟩
end Go.Proofs.YtplllmfbpliciaaDoor.Win
