/- Plans: what is wrong, as the document tells it (countwheelref32's Wrong, law 32's wrong); a plan's schedule; how many ticks needs take (plan.Schedule, plan.Load). Condition: at most 1,000 needs; a frame of at most 200 ticks, or one beyond 4,096. -/
import Derived.Test.YtpjillclladjaaaDoorMg35
import Derived.Test.YtpjillclladjaaaDoorMg36
import Derived.BigQuiet
namespace Go.Proofs.YtpjillclladjaaaDoor.Pln

open Go.RowKit Go.PlainAid Go.Proofs.YtpjillclladjaaaDoor.Oct Go.Proofs.YtpjillclladjaaaDoor.Flt Go.Proofs.YtpjillclladjaaaDoor.Rdr Go.Proofs.YtpjillclladjaaaDoor.Args Go.Proofs.YtpjillclladjaaaDoor.Win Go.Proofs.YtpjillclladjaaaDoor.Nee

open Go.Proofs.YtpjillclladjaaaDoor.Act (A3 actL flatA flatA_get flatA_snoc ActsAt I64 Wide row_beside row_base)

set_option linter.unusedVariables false

set_option linter.unusedSimpArgs false

theorem add_more3 (y : Addr) (n k : Nat) (h : 0 < k) : (⟨(y.add n).block, (y.add n).off + k, none⟩ : Addr) = y.add (n + k) := by
  cases n with
  | zero =>
    obtain ⟨m, rfl⟩ : ∃ m, k = m + 1 := ⟨k - 1, by omega⟩
    simp [Addr.add]
  | succ n =>
    obtain ⟨m, rfl⟩ : ∃ m, k = m + 1 := ⟨k - 1, by omega⟩
    simp [Addr.add]; omega
theorem acts_flat {w : World} {y : Addr} {l : List A3} (h : ActsAt w (some y) l) : ∀ j v, (flatA l)[j]? = some v → w.cell? (y.add j) = some v := by
  intro j v hj
  have hfl : (flatA l).length = l.length * 3 := by
    clear h hj
    induction l with
    | nil => rfl
    | cons x l ih => have e : flatA (x :: l) = actL x ++ flatA l := rfl
                     rw [e, List.length_append, ih, List.length_cons]; show 3 + _ = _; omega
  have hjl : j < l.length * 3 := by rw [← hfl]; exact (List.getElem?_eq_some_iff.1 hj).1
  obtain ⟨x, hx⟩ : ∃ x, l[j / 3]? = some x := ⟨_, List.getElem?_eq_getElem (by omega)⟩
  obtain ⟨y', hy, c1, c2, c3⟩ := h (j / 3) x hx
  obtain rfl := Option.some.inj hy
  rw [add_more3 _ _ _ (by omega)] at c2 c3
  have hg := flatA_get l (j / 3) x (j % 3) hx (by omega)
  rw [show j / 3 * 3 + j % 3 = j by omega, hj] at hg
  rcases (show j % 3 = 0 ∨ j % 3 = 1 ∨ j % 3 = 2 by omega) with h0 | h0 | h0
  · rw [h0] at hg; rw [show j = j / 3 * 3 by omega, c1]; exact hg.symm
  · rw [h0] at hg; rw [show j = j / 3 * 3 + 1 by omega, c2]; exact hg.symm
  · rw [h0] at hg; rw [show j = j / 3 * 3 + 2 by omega, c3]; exact hg.symm
theorem flatA_len3 (l : List A3) : (flatA l).length = l.length * 3 := by
  induction l with
  | nil => rfl
  | cons x l ih => have e : flatA (x :: l) = actL x ++ flatA l := rfl
                   rw [e, List.length_append, ih, List.length_cons]; show 3 + _ = _; omega
theorem flatA_one (l : List A3) : ∀ v ∈ flatA l, v.oneCell' = true := by
  intro v hv
  obtain ⟨x, _, hx⟩ := List.mem_flatMap.1 hv
  simp [actL] at hx
  rcases hx with rfl | rfl | rfl <;> rfl
theorem infoN : (Tryd.prog.info? 44).map (fun i => (i.zero, i.size, i.bytes)) = some (some (.agg #[.int .i64 0, .int .i64 0, .int .i64 0]), 3, 24) := by kernel_rfl
def CRPostN (l : List A3) (w : World) (e : Ending) (w' : World) : Prop := ∃ V, e = .returned V ∧ w'.ownsRow w.heap.size 44 3 V l.length (flatA l) ∧ Below w.heap.size w w'
set_option maxRecDepth 4000 in
set_option maxHeartbeats 800000 in
theorem crowsN_any (A : Option Addr) (cap : Nat) (l : List A3) (w : World) (hx : ActsAt w A l) (hnil : A = none → cap = 0) (hlc : l.length ≤ cap) (hl : l.length ≤ 1099511627776) :
    Calls Tryd.prog 40 #[.slice A l.length cap] w (CRPostN l w) := by
  obtain ⟨i0, hi, hz0, hz1, hz2⟩ := info_parts infoN
  cases A with
  | none =>
    obtain rfl := hnil rfl
    obtain rfl : l = [] := List.eq_nil_of_length_eq_zero (by omega)
    have he : ∀ W, (binOp .eql 22 (.slice none 0 0) (.slice none 0 0)).run Tryd.prog W = .ok (.bool true) W := fun W => Lib.run_eql_slice_nil W _ _ none 0 0 0 0 Tryd.underlying22
    clear hx hnil hl hi
    go_enter Tryd.func40, Tryd.ntmps40
    go_wp2
    go_ret
    exact ⟨_, rfl, World.ownsRow_nil _ _ _ _, Below.refl _ _⟩
  | some a =>
    have hb0 : Below w.heap.size w (w.alloc (.cells #[] 44)) := (Below.refl _ _).alloc (Nat.le_refl _) _
    have HX := Lib.hid (acts_flat (hx.kept hb0))
    have HB := Lib.hid hb0
    have HO : Hid ((w.alloc (.cells #[] 44)).ownsRow w.heap.size 44 3 (.slice (some ⟨w.heap.size, 0, none⟩) 0 0) 0 []) := World.ownsRow_lit w #[] 0 (Nat.le_refl _) (Nat.zero_le _) rfl
    have HFL := Lib.hid (flatA_len3 l)
    have HON := Lib.hid (flatA_one l)
    obtain ⟨LL, hLL⟩ : ∃ LL, l.length = LL := ⟨_, rfl⟩
    have HLL := Lib.hid hLL
    rw [hLL] at hl hlc HFL
    rw [hLL]
    clear hx hnil hb0 hLL
    obtain ⟨ab, ao, asp⟩ := a
    have he : ∀ W, (binOp .eql 22 (.slice (some ⟨ab, ao, asp⟩) LL cap) (.slice none 0 0)).run Tryd.prog W = .ok (.bool false) W := fun W => Lib.run_eql_slice_nil W _ _ (some ⟨ab, ao, asp⟩) LL cap 0 0 Tryd.underlying22
    go_enter Tryd.func40, Tryd.ntmps40
    go_wp2_with (at_builtin; refine wpList_append_own _ rfl _ _ 22 rfl w.heap.size 44 i0 (.agg #[.int .i64 0, .int .i64 0, .int .i64 0]) 3 24 Tryd.underlying22 hi hz0 hz1 hz2 rfl (by decide) _ 0 [] rfl HO.out ⟨ab, ao, asp⟩ LL cap (flatA l) rfl ?c1 ?c2 ?c3 ?c4 ?c5 ?c6 ?_)
    case c1 => exact HFL.out
    case c2 => exact HX.out
    case c3 => exact HON.out
    case c4 => unfold maxLen; omega
    case c5 => omega
    case c6 => simp
    intro v' w2 ho2 hg2 _
    have hb2 := HB.out.grown hg2 (by simp) (fun j hj => by first | (simp [Value.ownBlock] at hj; omega) | exact (ho2.lt j hj).1)
    clear hg2
    go_wp2
    go_ret
    exact ⟨v', rfl, by rw [HLL.out]; simpa using ho2, hb2⟩
theorem results_row_tmp {P : Program} {fn : Func} {p u : Tmp} {ty : TypeId} (h : fn.results = #[.cell p ty, .tmp u]) (tmps : Array Value) (w : World) (g : Nat) (t : TypeId) (cs : Array Value) (fr : Nat × Nat) (d : TypeDesc)
    (hp : tmps.getD p undef = .pointer (some ⟨g, 0, none⟩)) (hg : w.heap[g]? = some (.cells cs t fr))
    (hu : P.underlying ty = some d) (hd : (match d with | .struct _ | .array _ _ => true | _ => false) = true) (hi : (P.info? ty).map (·.size) = some cs.size) :
    (results fn tmps).run P w = .ok (.tuple #[.agg cs, tmps.getD u undef]) w := by
  have hp' : tmps[p]?.getD undef = .pointer (some ⟨g, 0, none⟩) := by simpa using hp
  simp [results, h, hp', asAddr, run_loadVar_row w g t ty cs fr d hg hu hd hi]
theorem size_sc9 : (Tryd.prog.info? 31).map (·.size) = some 4 := by kernel_rfl
theorem size_flt9 : (Tryd.prog.info? 40).map (·.size) = some 3 := by kernel_rfl
/-! ### The document's Wrong -/

/-- What is wrong, and where; -1 is the frame. -/
def wrP (fr : Int) (l : List A3) : Nat × Int := if fr < 1 ∨ 4096 < fr then (18, -1) else chkP fr (-1) 0 l
def WqRel (fr : Int) (l : List A3) (q : Nat × Int) (w : World) (i : Value) (W : World) : Prop :=
  ∃ (k : Nat) (last : Int), k ≤ l.length ∧ i = .int .i64 (k : Int) ∧ (k = 0 → last = -1) ∧ (∀ j, k = j + 1 → last = (nd l j).s) ∧ chkP fr last k (l.drop k) = q ∧ Below w.heap.size w W
set_option maxRecDepth 8000 in
set_option maxHeartbeats 12800000 in
theorem rwrong_any (fr : Int) (P : Option Addr) (pc n : Nat) (l : List A3) (w : World) (h1 : ActsAt w P l) (hw : ∀ x ∈ l, Wide x) (hl : l.length = n) (hl2 : n ≤ 1000) :
    Calls Tryd.prog 11 #[.int .i64 fr, .slice P n pc] w fun e w' => e = .returned (.tuple #[.int .i64 (wrP fr l).2, .int .i64 ((wrP fr l).1 : Nat)]) ∧ Below w.heap.size w w' := by
  by_cases c1 : fr < 1
  · have e : wrP fr l = (18, -1) := by unfold wrP; rw [if_pos (.inl c1)]
    rw [e]
    clear h1 hw hl hl2 e
    go_enter Tryd.func11, Tryd.ntmps11
    go_wp2
    go_ret2
    exact ⟨rfl, Below.refl _ _⟩
  · by_cases c2 : 4096 < fr
    · have e : wrP fr l = (18, -1) := by unfold wrP; rw [if_pos (.inr c2)]
      rw [e]
      clear h1 hw hl hl2 e
      go_enter Tryd.func11, Tryd.ntmps11
      go_wp2
      go_ret2
      exact ⟨rfl, Below.refl _ _⟩
    · have e : wrP fr l = chkP fr (-1) 0 l := by unfold wrP; rw [if_neg (by omega)]
      rw [e]
      obtain ⟨q, hq⟩ : ∃ q, chkP fr (-1) 0 l = q := ⟨_, rfl⟩
      rw [hq]
      have HF : Hid (1 ≤ fr ∧ fr ≤ 4096) := ⟨by omega, by omega⟩
      have HS0 : Hid (WqRel fr l q w (.int .i64 0) w) := ⟨0, -1, Nat.zero_le _, rfl, fun _ => rfl, fun j hj => by omega, hq, Below.refl _ _⟩
      have HACT := Lib.hid (fun W (b : Below w.heap.size w W) => h1.kept b)
      have HW := Lib.hid hw
      have HL := Lib.hid hl
      have HL2 : Hid (n ≤ 1000) := hl2
      obtain ⟨qk, qi⟩ := q
      dsimp only
      clear h1 hw hl hl2 hq e
      go_enter Tryd.func11, Tryd.ntmps11
      go_wp2_with fail
      clear c1 c2
      go_loopw [6] (fun i W => WqRel fr l (qk, qi) w i W) (fun i _ => n - (intOf i).toNat)
      case atStart => exact HS0.out
      case round =>
        obtain ⟨W0, hW0⟩ : ∃ X, wr = X := ⟨_, rfl⟩
        rw [hW0] at hrel
        rw [hW0]
        clear hW0 wr HS0
        obtain ⟨k, last, hk, rfl, hla0, hla1, hch, hb⟩ := hrel
        have HCH := Lib.hid hch
        have HB := Lib.hid hb
        have HLA := Lib.hid hla1
        have hl2 := HL2.out
        have hkn : k ≤ n := by rw [← HL.out]; exact hk
        clear hk hch hb hla1
        by_cases hlt : k < n
        · have hkl : k < l.length := by rw [HL.out]; exact hlt
          obtain ⟨ax, rfl, g0, g1, g2⟩ := HACT.out W0 HB.out k _ (nd_at hkl)
          have hwx := HW.out _ (nd_mem hkl)
          have hdr : l.drop k = nd l k :: l.drop (k + 1) := by
            rw [List.drop_eq_getElem_cons hkl, nd_get hkl]
          have hst := HCH.out
          rw [hdr, chkP] at hst
          have hnxt : ∀ s, (nd l k).s = s → ∀ j, k + 1 = j + 1 → s = (nd l j).s := fun s h j hj => by
            obtain rfl : j = k := by omega
            exact h.symm
          obtain ⟨x, hx⟩ : ∃ x, nd l k = x := ⟨_, rfl⟩
          rw [hx] at g0 g1 g2 hwx hst hnxt
          have hbd : bad1P fr last x = if x.s < 0 ∨ 255 < x.s then 18 else if x.s ≤ last then 9 else if x.p < 1 ∨ ¬ fr % x.p = 0 then 13 else if x.a < 0 ∨ x.p < x.a then 14 else 0 := rfl
          obtain ⟨b, hbb⟩ : ∃ b, bad1P fr last x = b := ⟨_, rfl⟩
          rw [hbb] at hst hbd
          obtain ⟨s, p, a⟩ := x
          have hnx2 := hnxt s rfl
          dsimp only at hst hbd g0 g1 g2 hwx
          have HST := Lib.hid hst
          have HNX2 := Lib.hid hnx2
          have hki : (0 : Int) ≤ k := by omega
          have hkb : (k : Int) < n := by omega
          have hk1 : IntKind.i64.wrap ((k : Int) + 1) = (k : Int) + 1 := IntWalk.i64_in _ (by omega)
          have hb1 : Below W0.heap.size W0 (W0.alloc (.cells #[.int .i64 s, .int .i64 p, .int .i64 a] 44)) := (Below.refl _ _).alloc (Nat.le_refl _) _
          have hx1 := heap_alloc_new W0 (.cells #[.int .i64 s, .int .i64 p, .int .i64 a] 44)
          have HB1 := Lib.hid (HB.out.trans (hb1.mono HB.out.size))
          have HKN : Hid (k < n ∧ n = l.length ∧ n ≤ 1000) := ⟨hlt, HL.out.symm, hl2⟩
          have HDQ : Hid (∀ q, Below w.heap.size w ((W0.alloc (.cells #[.int .i64 s, .int .i64 p, .int .i64 a] 44)).drewN q)) := fun q => ⟨HB1.out.os, HB1.out.tape, HB1.out.output, HB1.out.size, HB1.out.block⟩
          have hm := Int.tmod_eq_emod_of_nonneg (a := fr) (b := p) (by have := HF.out; omega)
          obtain ⟨q, hqq⟩ : ∃ q, fr % p = q := ⟨_, rfl⟩
          rw [hqq] at hm hbd
          have HQ : Hid (1 ≤ p → 0 ≤ q ∧ q ≤ 4096) := fun h => by
            have h1 := Int.emod_nonneg fr (show p ≠ 0 by omega)
            have h2 := Int.emod_add_mul_ediv fr p
            have h3 := Int.mul_nonneg (show 0 ≤ p by omega) (Int.ediv_nonneg (show 0 ≤ fr by have := HF.out; omega) (show 0 ≤ p by omega))
            show _ ∧ _
            have := HF.out
            omega
          have HBD := Lib.hid hbd
          clear hdr hst hnxt hnx2 hbb hb1 hx1 hkn hqq hbd hwx hkl
          by_cases c1 : s < 0
          · have HE : Hid (qk = 18 ∧ qi = (k : Int)) := by
              have hb : b = 18 := by rw [HBD.out, if_pos (.inl c1)]
              have h := HST.out
              rw [hb, if_neg (by omega)] at h
              injection h with h1 h2
              exact ⟨h1.symm, h2.symm⟩
            obtain ⟨rfl, rfl⟩ := HE.out
            clear hm
            go_wp2
            go_ret2
            exact ⟨rfl, HB1.out⟩
          · by_cases c2 : 255 < s
            · have HE : Hid (qk = 18 ∧ qi = (k : Int)) := by
                have hb : b = 18 := by rw [HBD.out, if_pos (.inr c2)]
                have h := HST.out
                rw [hb, if_neg (by omega)] at h
                injection h with h1 h2
                exact ⟨h1.symm, h2.symm⟩
              obtain ⟨rfl, rfl⟩ := HE.out
              clear hm
              go_wp2
              go_ret2
              exact ⟨rfl, HB1.out⟩
            · have HBD2 : Hid (b = if s ≤ last then 9 else if p < 1 ∨ ¬ q = 0 then 13 else if a < 0 ∨ p < a then 14 else 0) := by show _ = _; rw [HBD.out, if_neg (by omega)]
              clear HBD
              rcases Nat.eq_zero_or_pos k with hz | hz
              · obtain rfl := hla0 hz
                have hz0 : decide ((0 : Int) < (k : Int)) = false := decide_eq_false (by omega)
                have hz1 : decide (0 < k) = false := decide_eq_false (by omega)
                have HBD3 : Hid (b = if p < 1 ∨ ¬ q = 0 then 13 else if a < 0 ∨ p < a then 14 else 0) := by show _ = _; rw [HBD2.out, if_neg (by omega)]
                clear hz HBD2 hla0
                by_cases c4 : p < 1
                · have HE : Hid (qk = 13 ∧ qi = (k : Int)) := by
                    have hb : b = 13 := by rw [HBD3.out, if_pos (.inl c4)]
                    have h := HST.out
                    rw [hb, if_neg (by omega)] at h
                    injection h with h1 h2
                    exact ⟨h1.symm, h2.symm⟩
                  obtain ⟨rfl, rfl⟩ := HE.out
                  go_wp2_with fail
                  go_quiet (fail)
                  go_wp2
                  go_ret2
                  exact ⟨rfl, HDQ.out _⟩
                · have hq1 := HQ.out (by omega)
                  have hqw : IntKind.i64.wrap q = q := IntWalk.i64_in _ (by omega)
                  have hp0 : ¬ p = 0 := by omega
                  have hp1 : (p == 0) = false := by simp [hp0]
                  by_cases c5 : q = 0
                  · have c6 : (q != 0) = false := by simp [c5]
                    by_cases c7 : a < 0
                    · have HE : Hid (qk = 14 ∧ qi = (k : Int)) := by
                        have hb : b = 14 := by rw [HBD3.out, if_neg (by omega), if_pos (.inl c7)]
                        have h := HST.out
                        rw [hb, if_neg (by omega)] at h
                        injection h with h1 h2
                        exact ⟨h1.symm, h2.symm⟩
                      obtain ⟨rfl, rfl⟩ := HE.out
                      go_wp2_with fail
                      go_quiet (fail)
                      go_wp2
                      go_ret2
                      exact ⟨rfl, HDQ.out _⟩
                    · by_cases c8 : p < a
                      · have HE : Hid (qk = 14 ∧ qi = (k : Int)) := by
                          have hb : b = 14 := by rw [HBD3.out, if_neg (by omega), if_pos (.inr c8)]
                          have h := HST.out
                          rw [hb, if_neg (by omega)] at h
                          injection h with h1 h2
                          exact ⟨h1.symm, h2.symm⟩
                        obtain ⟨rfl, rfl⟩ := HE.out
                        go_wp2_with fail
                        go_quiet (fail)
                        go_wp2
                        go_ret2
                        exact ⟨rfl, HDQ.out _⟩
                      · have HC2 : Hid (chkP fr s (k + 1) (l.drop (k + 1)) = (qk, qi)) := by
                          have hb : b = 0 := by rw [HBD3.out, if_neg (by omega), if_neg (by omega)]
                          have h := HST.out
                          rw [if_pos hb] at h
                          exact h
                        clear c5
                        go_wp2_with fail
                        go_quiet (fail)
                        go_wp2
                        go_roundw
                        case rel => exact ⟨k + 1, s, by have := HKN.out; omega, by go_num, fun h => by omega, HNX2.out, HC2.out, HDQ.out _⟩
                        case measure => have := HKN.out; simp [intOf]; omega
                  · have c6 : (q != 0) = true := by simp [c5]
                    have HE : Hid (qk = 13 ∧ qi = (k : Int)) := by
                      have hb : b = 13 := by rw [HBD3.out, if_pos (.inr c5)]
                      have h := HST.out
                      rw [hb, if_neg (by omega)] at h
                      injection h with h1 h2
                      exact ⟨h1.symm, h2.symm⟩
                    obtain ⟨rfl, rfl⟩ := HE.out
                    go_wp2_with fail
                    go_quiet (fail)
                    go_wp2
                    go_ret2
                    exact ⟨rfl, HDQ.out _⟩
              · obtain ⟨j, hkj⟩ : ∃ j, k = j + 1 := ⟨k - 1, by omega⟩
                have hlj := HLA.out j hkj
                obtain ⟨ay, ey, f0, f1, f2⟩ := HACT.out W0 HB.out j _ (nd_at (show j < l.length by have := HKN.out; omega))
                obtain rfl := Option.some.inj ey
                rw [← hlj] at f0
                have hz0 : decide ((0 : Int) < (k : Int)) = true := decide_eq_true (by omega)
                have hz1 : decide (0 < k) = true := decide_eq_true (by omega)
                have hj1 : IntKind.i64.wrap ((k : Int) - 1) = (j : Int) := by rw [show (k : Int) - 1 = (j : Int) by omega]; exact IntWalk.i64_in _ (by omega)
                have hj0 : (0 : Int) ≤ (j : Int) := by omega
                have hjn : (j : Int) < n := by omega
                have f0' := ((Below.refl W0.heap.size W0).alloc (Nat.le_refl _) (.cells #[.int .i64 s, .int .i64 p, .int .i64 a] 44) |>.cell (Go.block_lt_of_cell f0)).trans f0
                by_cases c3 : s ≤ last
                · have HE : Hid (qk = 9 ∧ qi = (k : Int)) := by
                    have hb : b = 9 := by rw [HBD2.out, if_pos c3]
                    have h := HST.out
                    rw [hb, if_neg (by omega)] at h
                    injection h with h1 h2
                    exact ⟨h1.symm, h2.symm⟩
                  obtain ⟨rfl, rfl⟩ := HE.out
                  clear hm hkj hlj f1 f2 hla0
                  go_wp2_with fail
                  go_quiet (fail)
                  go_wp2
                  go_ret2
                  exact ⟨rfl, HDQ.out _⟩
                · have HBD3 : Hid (b = if p < 1 ∨ ¬ q = 0 then 13 else if a < 0 ∨ p < a then 14 else 0) := by show _ = _; rw [HBD2.out, if_neg c3]
                  clear HBD2 hkj hlj f1 f2 hla0 hz
                  by_cases c4 : p < 1
                  · have HE : Hid (qk = 13 ∧ qi = (k : Int)) := by
                      have hb : b = 13 := by rw [HBD3.out, if_pos (.inl c4)]
                      have h := HST.out
                      rw [hb, if_neg (by omega)] at h
                      injection h with h1 h2
                      exact ⟨h1.symm, h2.symm⟩
                    obtain ⟨rfl, rfl⟩ := HE.out
                    go_wp2_with fail
                    go_quiet (fail)
                    go_wp2
                    go_ret2
                    exact ⟨rfl, HDQ.out _⟩
                  · have hq1 := HQ.out (by omega)
                    have hqw : IntKind.i64.wrap q = q := IntWalk.i64_in _ (by omega)
                    have hp0 : ¬ p = 0 := by omega
                    have hp1 : (p == 0) = false := by simp [hp0]
                    by_cases c5 : q = 0
                    · have c6 : (q != 0) = false := by simp [c5]
                      by_cases c7 : a < 0
                      · have HE : Hid (qk = 14 ∧ qi = (k : Int)) := by
                          have hb : b = 14 := by rw [HBD3.out, if_neg (by omega), if_pos (.inl c7)]
                          have h := HST.out
                          rw [hb, if_neg (by omega)] at h
                          injection h with h1 h2
                          exact ⟨h1.symm, h2.symm⟩
                        obtain ⟨rfl, rfl⟩ := HE.out
                        go_wp2_with fail
                        go_quiet (fail)
                        go_wp2
                        go_ret2
                        exact ⟨rfl, HDQ.out _⟩
                      · by_cases c8 : p < a
                        · have HE : Hid (qk = 14 ∧ qi = (k : Int)) := by
                            have hb : b = 14 := by rw [HBD3.out, if_neg (by omega), if_pos (.inr c8)]
                            have h := HST.out
                            rw [hb, if_neg (by omega)] at h
                            injection h with h1 h2
                            exact ⟨h1.symm, h2.symm⟩
                          obtain ⟨rfl, rfl⟩ := HE.out
                          go_wp2_with fail
                          go_quiet (fail)
                          go_wp2
                          go_ret2
                          exact ⟨rfl, HDQ.out _⟩
                        · have HC2 : Hid (chkP fr s (k + 1) (l.drop (k + 1)) = (qk, qi)) := by
                            have hb : b = 0 := by rw [HBD3.out, if_neg (by omega), if_neg (by omega)]
                            have h := HST.out
                            rw [if_pos hb] at h
                            exact h
                          clear c5
                          go_wp2_with fail
                          go_quiet (fail)
                          go_wp2
                          go_roundw
                          case rel => exact ⟨k + 1, s, by have := HKN.out; omega, by go_num, fun h => by omega, HNX2.out, HC2.out, HDQ.out _⟩
                          case measure => have := HKN.out; simp [intOf]; omega
                    · have c6 : (q != 0) = true := by simp [c5]
                      have HE : Hid (qk = 13 ∧ qi = (k : Int)) := by
                        have hb : b = 13 := by rw [HBD3.out, if_pos (.inr c5)]
                        have h := HST.out
                        rw [hb, if_neg (by omega)] at h
                        injection h with h1 h2
                        exact ⟨h1.symm, h2.symm⟩
                      obtain ⟨rfl, rfl⟩ := HE.out
                      go_wp2_with fail
                      go_quiet (fail)
                      go_wp2
                      go_ret2
                      exact ⟨rfl, HDQ.out _⟩
        · obtain rfl : k = n := by omega
          have HQ2 : Hid (qk = 0 ∧ qi = 0) := by
            have h := HCH.out
            rw [List.drop_eq_nil_of_le (by rw [HL.out]; exact Nat.le_refl _)] at h
            injection h with h1 h2
            exact ⟨h1.symm, h2.symm⟩
          obtain ⟨rfl, rfl⟩ := HQ2.out
          go_wp2
          go_ret2
          exact ⟨rfl, HB.out⟩
set_option maxRecDepth 4000 in
set_option maxHeartbeats 1600000 in
theorem lwrong_any (i k : Int) (w : World) : Calls Tryd.prog 13 #[.int .i64 i, .int .i64 k] w fun e w' => e = .returned (fltV k 0 (max i 0)) ∧ Below w.heap.size w w' := by
  have hb0 : Below w.heap.size w (w.alloc (.cells #[.int .i64 0, .int .i64 0, .int .i64 0] 40)) := (Below.refl _ _).alloc (Nat.le_refl _) _
  have HX := Lib.hid (heap_alloc_new w (.cells #[.int .i64 0, .int .i64 0, .int .i64 0] 40))
  have HY : Hid (((w.alloc (.cells #[.int .i64 0, .int .i64 0, .int .i64 0] 40)).setRow w.heap.size #[.int .i64 k, .int .i64 0, .int .i64 (max i 0)]).heap[w.heap.size]? = some (.cells #[.int .i64 k, .int .i64 0, .int .i64 (max i 0)] 40 (0, 0))) := setRow_heap _ _ _ _ _ _ HX.out
  have HB : Hid (Below w.heap.size w ((w.alloc (.cells #[.int .i64 0, .int .i64 0, .int .i64 0] 40)).setRow w.heap.size #[.int .i64 k, .int .i64 0, .int .i64 (max i 0)])) := Go.Proofs.YtpjillclladjaaaDoor.Rdr.below_setRow hb0 (Nat.le_refl _)
  unfold fltV
  clear hb0
  go_enter Tryd.func13, Tryd.ntmps13
  go_wp2_with ((with_reducible show wpList _ _ _ _ _ _); refine wpList_store_row rfl 40 (.tmp 4) (.tmp 8) rfl w.heap.size #[.int .i64 k, .int .i64 0, .int .i64 (max i 0)] rfl rfl 40 #[.int .i64 0, .int .i64 0, .int .i64 0] HX.out (by rw [size_flt9]; rfl) rfl (by simp [Value.oneCell']) ?_)
  refine bodyPost_ret (v := .agg #[.int .i64 k, .int .i64 0, .int .i64 (max i 0)]) (results_cell_row (by rfl) _ _ w.heap.size 40 _ (0, 0) _ rfl HY.out Tryd.underlying40 rfl (by rw [size_flt9]; rfl)) rfl ?_
  exact ⟨rfl, HB.out⟩
end Go.Proofs.YtpjillclladjaaaDoor.Pln
