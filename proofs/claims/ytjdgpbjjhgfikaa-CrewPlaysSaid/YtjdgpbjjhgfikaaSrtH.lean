
/- A row of acts of the call's own is sorted, likes in the order in which they were (slices.stableCmpFunc, SortStableFunc). Condition: at most a million acts. -/

import Derived.Test.YtjdgpbjjhgfikaaSrtG

namespace Go.Proofs.Ytjdgpbjjhgfikaa.Srt

open Go.RowKit Go.PlainAid

open Go.Proofs.Ytjdgpbjjhgfikaa.Cel (Two two_below)

set_option linter.unusedVariables false

set_option linter.unusedSimpArgs false

theorem cls_mid {M R X M' R2 L : List A3} (h : ∀ s p, cls s p (M ++ R) = cls s p L) (hR : R = X ++ R2) (st : Stab X M') : ∀ s p, cls s p (M ++ M' ++ R2) = cls s p L := by
  intro s p
  rw [← h s p, hR, cls_app, cls_app, st.2, cls_app, cls_app, List.append_assoc]
/-- Blocks are sorted, one behind the other: M so far, the rest R as it was. -/
def StARel (L : List A3) (g : Nat) (tl : List Value) (w : World) (u v : Value) (W : World) : Prop :=
  ∃ (a b : Nat) (M R : List A3), u = .int .i64 (a : Int) ∧ v = .int .i64 (b : Int) ∧ b = a + 20 ∧ a = M.length ∧ M.length + R.length = L.length ∧ BlkP 20 M ∧ (∀ s p, cls s p (M ++ R) = cls s p L) ∧ Row g tl (M ++ R) W ∧ Two g none w W
def StBRel (L : List A3) (g : Nat) (tl : List Value) (w : World) (z : Value) (W : World) : Prop :=
  ∃ (bs : Nat) (M : List A3), z = .int .i64 (bs : Int) ∧ 1 ≤ bs ∧ bs ≤ 2000000 ∧ M.length = L.length ∧ Blk bs M ∧ (∀ s p, cls s p M = cls s p L) ∧ Row g tl M W ∧ Two g none w W
def StCRel (L : List A3) (bs g : Nat) (tl : List Value) (w : World) (u v : Value) (W : World) : Prop :=
  ∃ (a b : Nat) (M R : List A3), u = .int .i64 (a : Int) ∧ v = .int .i64 (b : Int) ∧ b = a + 2 * bs ∧ a = M.length ∧ M.length + R.length = L.length ∧ BlkP (2 * bs) M ∧ Blk bs R ∧ (∀ s p, cls s p (M ++ R) = cls s p L) ∧ Row g tl (M ++ R) W ∧ Two g none w W
set_option maxRecDepth 8000 in
set_option maxHeartbeats 6400000 in
theorem stable_any (L : List A3) (g n cap : Nat) (tl : List Value) (w : World) (hr : Row g tl L w) (hn : L.length = n) (hc : n ≤ cap) (hl : n ≤ 1000000) :
    Calls Try.prog 88 #[.slice (some ⟨g, 0, none⟩) n cap, .int .i64 (n : Int), .func (.func 68) #[] #[]] w fun e w' => e = .returned (.tuple #[]) ∧ SortPost [] L [] g tl w w' := by
  have HST : Hid (StARel L g tl w (.int .i64 0) (.int .i64 20) w) := ⟨0, 20, [], L, rfl, rfl, rfl, rfl, by simp, BlkP.nil _, fun _ _ => rfl, hr, Two.refl _ _ _⟩
  have HN : Hid (L.length = n ∧ n ≤ cap ∧ n ≤ 1000000) := ⟨hn, hc, hl⟩
  clear hr hn hc hl
  go_enter Try.func88, Try.ntmps88
  go_wp2_with fail
  go_loopw [7, 8] (fun u v W => StARel L g tl w u v W) (fun u _ _ => (n + 1) - (intOf u).toNat)
  case atStart => exact HST.out
  case round =>
    rename World => W
    clear HST
    obtain ⟨a, b, M, R, rfl, rfl, hb, ha, hMR, hbl, hcl, hrow, htw⟩ := hrel
    have HROW := Lib.hid hrow
    have HTW := Lib.hid htw
    have HBL : Hid (BlkP 20 M) := hbl
    have HCL := Lib.hid hcl
    clear hrow htw hbl hcl
    have hnn := HN.out
    by_cases hlt : b ≤ n
    · have t0 : decide ((b : Int) ≤ (n : Int)) = true := decide_eq_true (by omega)
      have t0n : decide (b ≤ n) = true := decide_eq_true hlt
      have hRR : R.take 20 ++ R.drop 20 = R := List.take_append_drop _ _
      have hR20 : (R.take 20).length = 20 := by rw [List.length_take]; omega
      have HIN := Lib.hid (insertion_any M (R.take 20) (R.drop 20) g n cap a b tl W (by rw [List.append_assoc, hRR]; exact HROW.out) ha.symm (by rw [hR20]; omega) (by rw [List.append_assoc, hRR]; simp; omega) hnn.2.1 hnn.2.2)
      obtain ⟨b2, hb2⟩ : ∃ b2, b + 20 = b2 := ⟨_, rfl⟩
      have wb : IntKind.i64.wrap ((b : Int) + 20) = (b2 : Int) := by rw [show (b : Int) + 20 = (b2 : Int) by omega]; exact IntWalk.i64_in _ (by omega)
      have HNX : Hid (∀ V S', Stab (R.take 20) S' → Row g tl (M ++ S' ++ R.drop 20) V → Two g none w V → StARel L g tl w (.int .i64 (b : Int)) (.int .i64 (b2 : Int)) V) := fun V S' h1 h2 h3 => by
        have hS : S'.length = 20 := by rw [h1.length]; exact hR20
        refine ⟨b, b2, M ++ S', R.drop 20, rfl, rfl, by omega, by rw [List.length_append, hS]; omega, by rw [List.length_append, hS, List.length_drop]; omega, HBL.out.more hS h1.1, cls_mid HCL.out hRR.symm h1, h2, h3⟩
      have HAB : Hid (a < b ∧ b ≤ n) := by show _ ∧ _; omega
      clear hb ha hMR hnn hlt hRR hR20 hb2 HROW
      go_wp2_with fail
      refine HIN.out.mono ?_
      rintro e w6 ⟨rfl, ⟨S', hs', hr6⟩, ht6⟩
      have HX := Lib.hid (HNX.out w6 S' hs' hr6 (HTW.out.trans ht6))
      clear hs' hr6 ht6
      go_wp2
      go_roundw
      case rel => exact HX.out
      case measure => have := HAB.out; simp [intOf]; omega
    · have t0 : decide ((b : Int) ≤ (n : Int)) = false := decide_eq_false (by omega)
      have t0n : decide (b ≤ n) = false := decide_eq_false hlt
      have HIN := Lib.hid (insertion_any M R [] g n cap a n tl W (by simpa using HROW.out) ha.symm (by omega) (by simp; omega) hnn.2.1 hnn.2.2)
      have HNX : Hid (∀ V S', Stab R S' → Row g tl (M ++ S' ++ []) V → Two g none w V → StBRel L g tl w (.int .i64 20) V) := fun V S' h1 h2 h3 => by
        have hS : S'.length = R.length := h1.length
        refine ⟨20, M ++ S', rfl, by omega, by omega, by rw [List.length_append, hS]; exact hMR, HBL.out _ (.last (by omega) h1.1), fun s p => ?_, by simpa using h2, h3⟩
        rw [← HCL.out s p, cls_app, cls_app, h1.2]
      clear hb ha hMR hnn hlt HROW
      go_wp2_with fail
      refine HIN.out.mono ?_
      rintro e w6 ⟨rfl, ⟨S', hs', hr6⟩, ht6⟩
      have HX := Lib.hid (HNX.out w6 S' hs' hr6 (HTW.out.trans ht6))
      clear hs' hr6 ht6 HIN HNX HTW HBL HCL
      go_wp2_with fail
      go_loopw [6] (fun z W => StBRel L g tl w z W) (fun z _ => (2 * n + 1) - (intOf z).toNat)
      case atStart => exact HX.out
      case round =>
        rename World => W
        clear HX
        obtain ⟨bs, M, rfl, hb1, hb2, hMl, hbl, hcl, hrow, htw⟩ := hrel
        have HROW := Lib.hid hrow
        have HTW := Lib.hid htw
        have HBL : Hid (Blk bs M) := hbl
        have HCL := Lib.hid hcl
        clear hrow htw hbl hcl
        have hnn := HN.out
        by_cases hlt : bs < n
        · have t1 : decide ((bs : Int) < (n : Int)) = true := decide_eq_true (by omega)
          have t1n : decide (bs < n) = true := decide_eq_true hlt
          obtain ⟨b2, hb2s⟩ : ∃ b2, 2 * bs = b2 := ⟨_, rfl⟩
          have wm : IntKind.i64.wrap (2 * (bs : Int)) = (b2 : Int) := by rw [show 2 * (bs : Int) = (b2 : Int) by omega]; exact IntWalk.i64_in _ (by omega)
          have wm2 : IntKind.i64.wrap ((bs : Int) * 2) = (b2 : Int) := by rw [show (bs : Int) * 2 = (b2 : Int) by omega]; exact IntWalk.i64_in _ (by omega)
          have HI0 : Hid (∀ x : Nat, x = 0 → StCRel L bs g tl w (.int .i64 (x : Int)) (.int .i64 (b2 : Int)) W) := fun x hx => ⟨x, b2, [], M, rfl, rfl, by omega, by rw [hx]; rfl, by simp [hMl], BlkP.nil _, HBL.out, HCL.out, HROW.out, HTW.out⟩
          have HBS : Hid (1 ≤ bs ∧ bs < n ∧ 2 * bs = b2 ∧ L.length = n ∧ n ≤ cap ∧ n ≤ 1000000) := ⟨hb1, hlt, hb2s, hnn⟩
          clear hb1 hb2 hMl hnn hlt hb2s HROW HTW HBL HCL
          go_wp2_with fail
          go_loopw [7, 8] (fun u v W => StCRel L bs g tl w u v W) (fun u _ _ => (n + 1) - (intOf u).toNat)
          case atStart => exact HI0.out 0 rfl
          case round =>
            rename World => V
            clear HI0 t1 t1n
            obtain ⟨a, b, M, R, rfl, rfl, hb, ha, hMR, hbl, hbr, hcl, hrow, htw⟩ := hrel
            have HROW := Lib.hid hrow
            have HTW := Lib.hid htw
            have HBL : Hid (BlkP (2 * bs) M) := hbl
            have HBR : Hid (Blk bs R) := hbr
            have HCL := Lib.hid hcl
            clear hrow htw hbl hbr hcl
            have hnn := HBS.out
            obtain ⟨m, hm⟩ : ∃ m, a + bs = m := ⟨_, rfl⟩
            have wam : IntKind.i64.wrap ((a : Int) + (bs : Int)) = (m : Int) := by rw [show (a : Int) + bs = (m : Int) by omega]; exact IntWalk.i64_in _ (by omega)
            by_cases hbn : b ≤ n
            · have t2 : decide ((b : Int) ≤ (n : Int)) = true := decide_eq_true (by omega)
              have t2n : decide (b ≤ n) = true := decide_eq_true hbn
              obtain ⟨x, R1, e1, l1, s1, k1⟩ := HBR.out.cut (by omega)
              have l2 : R.length = x.length + R1.length := by rw [e1]; simp
              obtain ⟨y, R2, e2, l3, s2, k2⟩ := k1.cut (by omega)
              have l4 : R1.length = y.length + R2.length := by rw [e2]; simp
              have e3 : R = (x ++ y) ++ R2 := by rw [e1, e2]; simp
              have HSY := Lib.hid (sym_any (x.length + y.length) M x y R2 g n cap a m b tl V (Nat.le_refl _) (by have h := HROW.out; rw [e3] at h; simpa using h) s1 s2 (by omega) (by omega) ha.symm (by omega) (by omega) (by simp; omega) hnn.2.2.2.2.1 hnn.2.2.2.2.2)
              obtain ⟨b3, hb3⟩ : ∃ b3, b + b2 = b3 := ⟨_, rfl⟩
              have wb3 : IntKind.i64.wrap ((b : Int) + (b2 : Int)) = (b3 : Int) := by rw [show (b : Int) + b2 = (b3 : Int) by omega]; exact IntWalk.i64_in _ (by omega)
              have HNX : Hid (∀ U M', Stab (x ++ y) M' → Row g tl (M ++ M' ++ R2) U → Two g none w U → StCRel L bs g tl w (.int .i64 (b : Int)) (.int .i64 (b3 : Int)) U) := fun U M' h1 h2 h3 => by
                have hS : M'.length = 2 * bs := by rw [h1.length, List.length_append]; omega
                exact ⟨b, b3, M ++ M', R2, rfl, rfl, by omega, by rw [List.length_append, hS]; omega, by rw [List.length_append, hS]; omega, HBL.out.more hS h1.1, k2, cls_mid HCL.out e3 h1, h2, h3⟩
              have HAB : Hid (a < b ∧ b ≤ n) := by show _ ∧ _; omega
              clear hb ha hMR hnn hm hbn e1 l1 s1 k1 l2 e2 l3 s2 k2 l4 e3 hb3 HROW HBL HBR HCL
              go_wp2_with fail
              refine HSY.out.mono ?_
              rintro e w6 ⟨rfl, ⟨M', hs', hr6⟩, ht6⟩
              have HX := Lib.hid (HNX.out w6 M' hs' hr6 (HTW.out.trans ht6))
              clear hs' hr6 ht6
              go_wp2
              go_roundw
              case rel => exact HX.out
              case measure => have := HAB.out; simp [intOf]; omega
            · have t2 : decide ((b : Int) ≤ (n : Int)) = false := decide_eq_false (by omega)
              have t2n : decide (b ≤ n) = false := decide_eq_false hbn
              have HMS : Hid (bs < b2 ∧ bs < n) := by show _ ∧ _; omega
              by_cases hmn : m < n
              · have t3 : decide ((m : Int) < (n : Int)) = true := decide_eq_true (by omega)
                have t3n : decide (m < n) = true := decide_eq_true hmn
                obtain ⟨x, R1, e1, l1, s1, k1⟩ := HBR.out.cut (by omega)
                have l2 : R.length = x.length + R1.length := by rw [e1]; simp
                have s2 : Srt R1 := k1.all (by omega)
                have HSY := Lib.hid (sym_any (x.length + R1.length) M x R1 [] g n cap a m n tl V (Nat.le_refl _) (by have h := HROW.out; rw [e1] at h; simpa using h) s1 s2 (by omega) (by omega) ha.symm (by omega) (by omega) (by simp; omega) hnn.2.2.2.2.1 hnn.2.2.2.2.2)
                have HNX : Hid (∀ U M', Stab (x ++ R1) M' → Row g tl (M ++ M' ++ []) U → Two g none w U → StBRel L g tl w (.int .i64 (b2 : Int)) U) := fun U M' h1 h2 h3 => by
                  have hS : M'.length = R.length := by rw [h1.length, e1]
                  have hc := cls_mid HCL.out (show R = (x ++ R1) ++ [] by rw [e1]; simp) h1
                  refine ⟨b2, M ++ M', rfl, by omega, by omega, by rw [List.length_append, hS]; exact hMR, ?_, by simpa using hc, by simpa using h2, h3⟩
                  rw [← hnn.2.2.1]
                  exact HBL.out _ (.last (by omega) h1.1)
                clear hb ha hMR hnn hm hbn hmn e1 l1 s1 k1 l2 s2 HROW HBL HBR HCL
                go_wp2_with fail
                refine HSY.out.mono ?_
                rintro e w6 ⟨rfl, ⟨M', hs', hr6⟩, ht6⟩
                have HX := Lib.hid (HNX.out w6 M' hs' hr6 (HTW.out.trans ht6))
                clear hs' hr6 ht6
                go_wp2
                go_roundw
                case rel => exact HX.out
                case measure => have := HMS.out; simp [intOf]; omega
              · have t3 : decide ((m : Int) < (n : Int)) = false := decide_eq_false (by omega)
                have t3n : decide (m < n) = false := decide_eq_false hmn
                have s2 : Srt R := HBR.out.all (by omega)
                have HX : Hid (StBRel L g tl w (.int .i64 (b2 : Int)) V) := by
                  refine ⟨b2, M ++ R, rfl, by omega, by omega, by rw [List.length_append]; exact hMR, ?_, HCL.out, HROW.out, HTW.out⟩
                  rw [← hnn.2.2.1]
                  exact HBL.out _ (.last (by omega) s2)
                clear hb ha hMR hnn hm hbn hmn s2 HROW HBL HBR HCL
                go_wp2
                go_roundw
                case rel => exact HX.out
                case measure => have := HMS.out; simp [intOf]; omega
        · have t1 : decide ((bs : Int) < (n : Int)) = false := decide_eq_false (by omega)
          have t1n : decide (bs < n) = false := decide_eq_false hlt
          have HF : Hid (SortPost [] L [] g tl w W) := ⟨⟨M, ⟨HBL.out.all (by omega), HCL.out⟩, by simpa using HROW.out⟩, HTW.out⟩
          clear hb1 hb2 hMl hnn hlt HROW HTW HBL HCL
          go_wp2
          simp [bodyPost, results, Try.results88, go_sem]
          exact HF.out
/-- The whole row is sorted. -/
theorem sortStable_any (L : List A3) (g n cap : Nat) (tl : List Value) (w : World) (hr : Row g tl L w) (hn : L.length = n) (hc : n ≤ cap) (hl : n ≤ 1000000) :
    Calls Try.prog 81 #[.slice (some ⟨g, 0, none⟩) n cap, .func (.func 68) #[] #[]] w fun e w' => e = .returned (.tuple #[]) ∧ SortPost [] L [] g tl w w' := by
  have HS := Lib.hid (stable_any L g n cap tl w hr hn hc hl)
  clear hr hn hc hl
  go_enter Try.func81, Try.ntmps81
  go_wp2_with fail
  refine HS.out.mono ?_
  rintro e w6 ⟨rfl, hp⟩
  have HP := Lib.hid hp
  clear hp
  go_wp2
  simp [bodyPost, results, Try.results81, go_sem]
  exact HP.out
end Go.Proofs.Ytjdgpbjjhgfikaa.Srt
