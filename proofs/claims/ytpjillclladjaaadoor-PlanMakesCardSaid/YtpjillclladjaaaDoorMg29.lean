/- Plans: what is wrong with needs by themselves (plan.wrongNeed, plan.wrong, the document's Wrong). Condition: at most 1,000 needs. -/
import Derived.Test.YtpjillclladjaaaDoorMg26
import Derived.Test.YtpjillclladjaaaDoorMg28
namespace Go.Proofs.YtpjillclladjaaaDoor.Pln

open Go.RowKit Go.PlainAid Go.Proofs.YtpjillclladjaaaDoor.Oct Go.Proofs.YtpjillclladjaaaDoor.Flt Go.Proofs.YtpjillclladjaaaDoor.Rdr Go.Proofs.YtpjillclladjaaaDoor.Args Go.Proofs.YtpjillclladjaaaDoor.Nee Go.Proofs.YtpjillclladjaaaDoor.Win

open Go.Proofs.YtpjillclladjaaaDoor.Act (A3 ActsAt I64 Wide)

set_option linter.unusedVariables false

set_option linter.unusedSimpArgs false

/-- What is wrong with a need behind the one of an id. -/
def bad1P (fr last : Int) (x : A3) : Nat := if x.s < 0 ∨ 255 < x.s then 18 else if x.s ≤ last then 9 else if x.p < 1 ∨ ¬ fr % x.p = 0 then 13 else if x.a < 0 ∨ x.p < x.a then 14 else 0
def chkP (fr : Int) : Int → Nat → List A3 → Nat × Int
  | _, _, [] => (0, 0)
  | last, i, x :: r => if bad1P fr last x = 0 then chkP fr x.s (i + 1) r else (bad1P fr last x, (i : Int))
theorem bad1P_le (fr last : Int) (x : A3) : bad1P fr last x ≤ 18 := by
  unfold bad1P
  split
  · omega
  · split
    · omega
    · split
      · omega
      · split <;> omega
set_option maxRecDepth 4000 in
set_option maxHeartbeats 3200000 in
theorem wrongNeed_any (x : A3) (fr last : Int) (w : World) (hf : 1 ≤ fr ∧ fr ≤ 4096) (hx : Wide x) :
    Calls Tryd.prog 57 #[.agg #[.int .i64 x.s, .int .i64 x.p, .int .i64 x.a], .int .i64 last, .int .i64 fr] w fun e w' => e = .returned (.int .i64 (bad1P fr last x : Nat)) ∧ Below w.heap.size w w' := by
  obtain ⟨r, hr⟩ : ∃ r, bad1P fr last x = r := ⟨_, rfl⟩
  rw [hr]
  unfold bad1P at hr
  obtain ⟨s, p, a⟩ := x
  dsimp only at hr ⊢
  have HB : Hid (Below w.heap.size w (w.alloc (.cells #[.int .i64 s, .int .i64 p, .int .i64 a] 44))) := (Below.refl _ _).alloc (Nat.le_refl _) _
  have HP : Hid (I64 p) := hx.2.1
  have hm := Int.tmod_eq_emod_of_nonneg (a := fr) (b := p) (by omega)
  obtain ⟨q, hq⟩ : ∃ q, fr % p = q := ⟨_, rfl⟩
  rw [hq] at hm hr
  have HQ : Hid (1 ≤ p → 0 ≤ q ∧ q ≤ 4096) := fun h => by
    have h1 := Int.emod_nonneg fr (show p ≠ 0 by omega)
    have h2 := Int.emod_add_mul_ediv fr p
    have h3 := Int.mul_nonneg (show 0 ≤ p by omega) (Int.ediv_nonneg (show 0 ≤ fr by omega) (show 0 ≤ p by omega))
    show _ ∧ _
    omega
  clear hx hq
  by_cases c1 : s < 0
  · obtain rfl : r = 18 := by rw [← hr, if_pos (.inl c1)]
    clear hr hm hf
    go_enter Tryd.func57, Tryd.ntmps57
    go_wp2
    go_ret
    exact ⟨rfl, HB.out⟩
  · by_cases c2 : 255 < s
    · obtain rfl : r = 18 := by rw [← hr, if_pos (.inr c2)]
      clear hr hm hf
      go_enter Tryd.func57, Tryd.ntmps57
      go_wp2
      go_ret
      exact ⟨rfl, HB.out⟩
    · rw [if_neg (show ¬ (s < 0 ∨ 255 < s) by omega)] at hr
      by_cases c3 : s ≤ last
      · obtain rfl : r = 9 := by rw [← hr, if_pos c3]
        clear hr hm hf
        go_enter Tryd.func57, Tryd.ntmps57
        go_wp2
        go_ret
        exact ⟨rfl, HB.out⟩
      · rw [if_neg c3] at hr
        by_cases c4 : p < 1
        · obtain rfl : r = 13 := by rw [← hr, if_pos (.inl c4)]
          clear hr hm hf
          go_enter Tryd.func57, Tryd.ntmps57
          go_wp2
          go_ret
          exact ⟨rfl, HB.out⟩
        · have hq1 := HQ.out (by omega)
          have hqw : IntKind.i64.wrap q = q := IntWalk.i64_in _ (by omega)
          have hp0 : ¬ p = 0 := by omega
          have hp1 : (p == 0) = false := by simp [hp0]
          by_cases c5 : q = 0
          · have c6 : (q != 0) = false := by simp [c5]
            rw [if_neg (show ¬ (p < 1 ∨ ¬ q = 0) by omega)] at hr
            by_cases c7 : a < 0
            · obtain rfl : r = 14 := by rw [← hr, if_pos (.inl c7)]
              clear hr c5 hq1 hf
              go_enter Tryd.func57, Tryd.ntmps57
              go_wp2
              go_ret
              exact ⟨rfl, HB.out⟩
            · by_cases c8 : p < a
              · obtain rfl : r = 14 := by rw [← hr, if_pos (.inr c8)]
                clear hr c5 hq1 hf
                go_enter Tryd.func57, Tryd.ntmps57
                go_wp2
                go_ret
                exact ⟨rfl, HB.out⟩
              · obtain rfl : r = 0 := by rw [← hr, if_neg (by omega)]
                clear hr c5 hq1 hf
                go_enter Tryd.func57, Tryd.ntmps57
                go_wp2
                go_ret
                exact ⟨rfl, HB.out⟩
          · have c6 : (q != 0) = true := by simp [c5]
            obtain rfl : r = 13 := by rw [← hr, if_pos (.inr c5)]
            clear hr c5 hq1 hf
            go_enter Tryd.func57, Tryd.ntmps57
            go_wp2
            go_ret
            exact ⟨rfl, HB.out⟩
def PcRel (fr : Int) (l : List A3) (q : Nat × Int) (w : World) (la i : Value) (W : World) : Prop :=
  ∃ (k : Nat) (last : Int), k ≤ l.length ∧ i = .int .i64 (k : Int) ∧ la = .int .i64 last ∧ chkP fr last k (l.drop k) = q ∧ Names W ∧ Below w.heap.size w W
set_option maxRecDepth 8000 in
set_option maxHeartbeats 3200000 in
theorem pwrong_any (fr : Int) (P : Option Addr) (pc n : Nat) (l : List A3) (w : World) (hn : Names w) (h1 : ActsAt w P l) (hw : ∀ x ∈ l, Wide x) (hl : l.length = n) (hl2 : n ≤ 1000) :
    Calls Tryd.prog 32 #[.int .i64 fr, .slice P n pc] w fun e w' => ∃ x, e = .returned x ∧ (fr < 1 ∨ 4096 < fr → IsFault w' x [] 18) ∧ (¬ (fr < 1 ∨ 4096 < fr) → WrongA w' x (chkP fr (-1) 0 l).1 (chkP fr (-1) 0 l).2) ∧ Below w.heap.size w w' := by
  by_cases c1 : fr < 1
  · clear h1 hw hl hl2
    have HN := Lib.hid hn
    clear hn
    go_enter Tryd.func32, Tryd.ntmps32
    go_wp2_with (go_at_call 39; refine (new_yes 18 (by omega) (by omega) _ HN.out).mono ?_; rintro e W8 ⟨rfl, rfl⟩)
    go_ret
    exact ⟨_, rfl, fun _ => rfl, fun h => absurd (.inl c1) h, Below.refl _ _⟩
  · by_cases c2 : 4096 < fr
    · clear h1 hw hl hl2
      have HN := Lib.hid hn
      clear hn
      go_enter Tryd.func32, Tryd.ntmps32
      go_wp2_with (go_at_call 39; refine (new_yes 18 (by omega) (by omega) _ HN.out).mono ?_; rintro e W8 ⟨rfl, rfl⟩)
      go_ret
      exact ⟨_, rfl, fun _ => rfl, fun h => absurd (.inr c2) h, Below.refl _ _⟩
    · obtain ⟨q, hq⟩ : ∃ q, chkP fr (-1) 0 l = q := ⟨_, rfl⟩
      rw [hq]
      have HF : Hid (1 ≤ fr ∧ fr ≤ 4096) := ⟨by omega, by omega⟩
      have HS0 : Hid (PcRel fr l q w (.int .i64 (-1)) (.int .i64 0) w) := ⟨0, -1, Nat.zero_le _, rfl, rfl, hq, hn, Below.refl _ _⟩
      have HACT := Lib.hid h1
      have HW := Lib.hid hw
      have HL := Lib.hid hl
      have HL2 : Hid (n ≤ 1000) := hl2
      have HPOST : Hid (∀ x w', WrongA w' x q.1 q.2 → Below w.heap.size w w' → ∃ y, Ending.returned x = .returned y ∧ (fr < 1 ∨ 4096 < fr → IsFault w' y [] 18) ∧ (¬ (fr < 1 ∨ 4096 < fr) → WrongA w' y q.1 q.2) ∧ Below w.heap.size w w') := fun x w' h b => ⟨x, rfl, fun h2 => by omega, fun _ => h, b⟩
      clear hn h1 hw hl hl2 hq
      go_enter Tryd.func32, Tryd.ntmps32
      go_wp2_with fail
      clear c1 c2
      go_loopw [5, 18] (fun la i W => PcRel fr l q w la i W) (fun _ i _ => n - (intOf i).toNat)
      case atStart => exact HS0.out
      case round =>
        obtain ⟨W0, hW0⟩ : ∃ X, wr = X := ⟨_, rfl⟩
        rw [hW0] at hrel
        rw [hW0]
        clear hW0 wr HS0
        obtain ⟨k, last, hk, rfl, rfl, hch, hnm, hb⟩ := hrel
        have HCH := Lib.hid hch
        have HNM := Lib.hid hnm
        have HB := Lib.hid hb
        have hl2 := HL2.out
        have hkn : k ≤ n := by rw [← HL.out]; exact hk
        clear hk hch hnm hb
        by_cases hlt : k < n
        · obtain ⟨x, hx⟩ : ∃ x, l[k]? = some x := ⟨_, List.getElem?_eq_getElem (by rw [HL.out]; exact hlt)⟩
          obtain ⟨ax, rfl, g0, g1, g2⟩ := (HACT.out.kept HB.out) k x hx
          have hdr : l.drop k = x :: l.drop (k + 1) := by
            rw [List.drop_eq_getElem_cons (by rw [HL.out]; exact hlt)]
            congr 1
            rw [List.getElem?_eq_getElem (by rw [HL.out]; exact hlt)] at hx
            exact Option.some.inj hx
          have hst := HCH.out
          rw [hdr, chkP] at hst
          have HWN := Lib.hid (fun W => wrongNeed_any x fr last W HF.out (HW.out x (List.mem_of_getElem? hx)))
          have hle := bad1P_le fr last x
          obtain ⟨b, hbb⟩ : ∃ b, bad1P fr last x = b := ⟨_, rfl⟩
          rw [hbb] at hst HWN hle
          obtain ⟨s, p, a⟩ := x
          dsimp only at hst HWN g0 g1 g2
          have HST := Lib.hid hst
          have hki : (0 : Int) ≤ k := by omega
          have hkb : (k : Int) < n := by omega
          have hk1 : IntKind.i64.wrap ((k : Int) + 1) = (k : Int) + 1 := IntWalk.i64_in _ (by omega)
          have hb1 : Below W0.heap.size W0 (W0.alloc (.cells #[.int .i64 s, .int .i64 p, .int .i64 a] 44)) := (Below.refl _ _).alloc (Nat.le_refl _) _
          have hx1 := heap_alloc_new W0 (.cells #[.int .i64 s, .int .i64 p, .int .i64 a] 44)
          have HB1 := Lib.hid (HB.out.trans (hb1.mono HB.out.size))
          have HN1 := Lib.hid (HNM.out.kept hb1)
          have HX1 := Lib.hid hx1
          have HKN : Hid (k < n ∧ n = l.length ∧ b ≤ 18) := ⟨hlt, HL.out.symm, hle⟩
          clear hx hdr hst hbb hb1 hx1 hkn hle
          go_wp2_with fail
          obtain ⟨Q, hQ⟩ : ∃ Q, W0.heap.size = Q := ⟨_, rfl⟩
          obtain ⟨W1, hW1⟩ : ∃ X, W0.alloc (.cells #[.int .i64 s, .int .i64 p, .int .i64 a] 44) = X := ⟨_, rfl⟩
          rw [hW1, hQ] at HX1
          rw [hW1] at HB1 HN1
          try rw [hW1]
          try rw [hQ]
          clear hW1 hQ g0 g1 g2
          refine (HWN.out _).mono ?_
          rintro e W6 ⟨rfl, hb6⟩
          have HB6 := Lib.hid (HB1.out.trans (hb6.mono HB1.out.size))
          have HN6 := Lib.hid (HN1.out.kept hb6)
          have HX6 := Lib.hid ((hb6.block _ (lt_of_block HX1.out)).trans HX1.out)
          have z0 : W6.cell? ⟨Q, 0, none⟩ = some (.int .i64 s) := by rw [cell_of_row _ _ _ _ _ _ HX6.out]; rfl
          clear hb6 HWN
          by_cases hb0 : b = 0
          · subst hb0
            have HC2 : Hid (chkP fr s (k + 1) (l.drop (k + 1)) = q) := by have h := HST.out; rw [if_pos rfl] at h; exact h
            clear HST
            go_wp2
            go_roundw
            case rel => exact ⟨k + 1, s, by have := HKN.out; omega, by go_num, rfl, HC2.out, HN6.out, HB6.out⟩
            case measure => have := HKN.out; simp [intOf]; omega
          · have hbn : (((b : Nat) : Int) != 0) = true := by simp [hb0]
            have HBP : Hid (1 ≤ b ∧ b ≤ 18) := ⟨by omega, HKN.out.2.2⟩
            have HQ2 : Hid (q = (b, (k : Int))) := by have h := HST.out; rw [if_neg hb0] at h; exact h.symm
            clear HST hb0
            go_wp2_with (first | (go_at_call 39; refine (new_yes b HBP.out.1 HBP.out.2 _ HN6.out).mono ?_; rintro e W8 ⟨rfl, rfl⟩) | (go_at_call 38; refine (at_any (k : Int) _ [] (b : Int) W6 rfl).mono ?_; rintro e W9 ⟨y9, rfl, hy9, hb9⟩; have HY9 := Lib.hid hy9; have HB9 := Lib.hid (HB6.out.trans (hb9.mono HB6.out.size)); clear hy9 hb9))
            go_ret
            exact HPOST.out _ _ (by rw [HQ2.out]; exact .inr ⟨HBP.out.1, HBP.out.2, HY9.out⟩) HB9.out
        · obtain rfl : k = n := by omega
          have HQ2 : Hid (q = (0, 0)) := by
            have h := HCH.out
            rw [List.drop_eq_nil_of_le (by rw [HL.out]; exact Nat.le_refl _)] at h
            exact h.symm
          go_wp2
          go_ret
          exact HPOST.out _ _ (by rw [HQ2.out]; exact .inl ⟨rfl, rfl, rfl⟩) HB.out
end Go.Proofs.YtpjillclladjaaaDoor.Pln
