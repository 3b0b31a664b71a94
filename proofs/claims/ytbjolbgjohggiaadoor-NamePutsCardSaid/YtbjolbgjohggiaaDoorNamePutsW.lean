
/- The function NamePuts returns true for every slice of bytes and every text. Condition: the package-level variables hold what the program lays in them (the card ties that). This text: the walk through the Go text; the row is in the text without the W at its name's end. -/

import Derived.Test.YtbjolbgjohggiaaDoorArgs

import Derived.Test.YtbjolbgjohggiaaDoorNamQ

import Derived.Test.YtbjolbgjohggiaaDoorRdrF

import Derived.Test.YtbjolbgjohggiaaDoorOctW

import Derived.Deep.RegionHeld3

namespace Go.Proofs.YtbjolbgjohggiaaDoor.namePuts

open Go.RowKit Go.PlainAid Go.Proofs.YtbjolbgjohggiaaDoor.Args

set_option linter.unusedVariables false

open Go.Proofs.YtbjolbgjohggiaaDoor.Flt Go.Proofs.YtbjolbgjohggiaaDoor.Rdr Go.Proofs.YtbjolbgjohggiaaDoor.Nam Go.Proofs.YtbjolbgjohggiaaDoor.Oct

/-- What the walk needs of the bytes that came in: the first 'len' of them. -/
theorem bytes_of {w : World} {a : Option Addr} {len cap : Nat} {zs : List Int} (h : IsRow .u8 w a len cap zs) : ∃ xs, IsBytes w a len xs ∧ (∀ x ∈ xs, 0 ≤ x ∧ x ≤ 255) ∧ (a = none → len = 0 ∧ cap = 0) ∧ len ≤ cap := by
  rcases h with ⟨rfl, rfl, rfl, rfl⟩ | ⟨x, rfl, hl, hm, hz, hcell, hwz⟩
  · exact ⟨[], ⟨rfl, fun h => absurd h (by omega)⟩, by simp, fun _ => ⟨rfl, rfl⟩, Nat.le_refl _⟩
  · refine ⟨zs.take len, ⟨by simp; omega, fun _ => ⟨x, rfl, fun j v hj => ?_⟩⟩, fun y hy => ?_, fun h => (by cases h), hl⟩
    · have hjl : j < len := by
        rcases Nat.lt_or_ge j len with h | h
        · exact h
        · rw [List.getElem?_eq_none (by simp; omega)] at hj; cases hj
      rw [hcell j (by omega)]
      have hz2 : j < zs.length := by omega
      simp [hjl, List.getElem?_eq_getElem hz2] at hj
      subst hj
      simp [List.getD, List.getElem?_eq_getElem hz2]
    · exact bounds_u8 (hwz y (List.mem_of_mem_take hy))
theorem conv_kept {w w' : World} {A : Option Addr} {n cap : Nat} {xs : List Int} (h : IsBytes w A n xs) (b : Below w.heap.size w w') : (convert 51 9 (.slice A n cap)).run Tryd.prog w' = .ok (.string (strOfNums xs)) w' := by
  refine conv_bytes (⟨h.1, fun hp => ?_⟩ : IsBytes w' A n xs)
  obtain ⟨ad, e1, e2⟩ := h.2 hp
  exact ⟨ad, e1, fun j u hj => (b.cell (cell_lt (e2 j u hj))).trans (e2 j u hj)⟩
theorem owns_at {w w' : World} {B g n cap : Nat} {xs : List Value} (h : w.ownsRow B 5 1 (.slice (some ⟨g, 0, none⟩) n cap) n xs) (hx : w'.heap[g]? = w.heap[g]?) : w'.ownsRow B 5 1 (.slice (some ⟨g, 0, none⟩) n cap) n xs := by
  obtain ⟨e1, e2⟩ := h
  refine ⟨e1, ?_⟩
  rcases e2 with ⟨h, _⟩ | ⟨g', c', cur, h, h2⟩
  · cases h
  · cases h
    exact .inr ⟨g, cap, cur, rfl, h2.1, by rw [hx]; exact h2.2.1, h2.2.2⟩
set_option maxRecDepth 8000 in
/-- The bytes behind the first as text. -/
theorem conv_part {w w' : World} {B g n cap c' l m : Nat} {xs ys : List Int} (h : w.ownsRow B 5 1 (.slice (some ⟨g, 0, none⟩) n cap) n ((xs ++ ys).map (Value.int .u8))) (hx : w'.heap[g]? = w.heap[g]?) (hl : xs.length = l) (hm : ys.length = m) :
    (convert 51 9 (.slice (some ⟨g, l, none⟩) m c')).run Tryd.prog w' = .ok (.string (strOfNums ys)) w' := by
  have h' := owns_at h hx
  have hn : xs.length + ys.length = n := by have := h.1; simpa using this
  refine run_convert_bytes_arg (P := Tryd.prog) w' 51 5 underU8 rfl g l m c' ys hm ?_ 9 rfl
  intro i hi
  rw [h'.cellAt (l + i) (by omega)]
  subst hl
  rw [List.map_append, List.getElem?_append_right (by rw [List.length_map]; omega), List.length_map, Nat.add_sub_cancel_left]
  simp [List.getD, List.getElem?_eq_getElem (show i < ys.length by omega)]
set_option maxRecDepth 8000 in
theorem low_slice (w : World) (G l n c : Nat) (h1 : l < n) (h2 : n ≤ c) :
    (Instr.slice 51 (.slice (some ⟨G, 0, none⟩) n c) (some (.int .i64 (l : Int))) none none).run Tryd.prog w = .ok (.slice (some ⟨G, l, none⟩) (n - l) (c - l)) w := by
  have hne : ¬ c = l := by omega
  rw [run_slice_l (P := Tryd.prog) w 51 (some ⟨G, 0, none⟩) n c rfl .i64 (l : Int) (by omega) (by omega)]
  go_simp
set_option maxRecDepth 8000 in
set_option maxHeartbeats 1600000 in
theorem walk (a0 : Option Addr) (len0 cap0 : Nat) (z0 : List Int) (a1 : ByteArray) (w : World) (w0 : IsRow .u8 w a0 len0 cap0 z0) (w1 : a1.size ≤ maxLen) (hn : Go.Proofs.YtbjolbgjohggiaaDoor.Flt.Names w) :
    Calls Tryd.prog 6 #[.slice a0 len0 cap0, .string a1] w fun e w' => e = .returned (.bool true) ∧ Below w.heap.size w w' := by
  have HN := Lib.hid hn
  clear hn
  obtain ⟨xs, hxs, hxr, hnil, hlc⟩ := bytes_of w0
  by_cases hl : 50 < (len0 : Int) ∨ 100 < (a1.size : Int)
  · have hor : (decide (50 < (len0 : Int)) = true) ∨ (decide (50 < (len0 : Int)) = false ∧ decide (100 < (a1.size : Int)) = true) := by
      by_cases h3 : 50 < (len0 : Int)
      · exact .inl (decide_eq_true h3)
      · exact .inr ⟨decide_eq_false h3, decide_eq_true (by omega)⟩
    clear hl w0 w1 hxs hxr hnil hlc
    rcases hor with t | ⟨t, t'⟩
    all_goals
      go_enter Tryd.func6, Tryd.ntmps6
      go_wp2_with (go_at_call 23; refine (Go.Proofs.YtbjolbgjohggiaaDoor.Nam.awake_any _).mono ?_; rintro e w' ⟨rfl, hb⟩)
      go_ret
      exact ⟨rfl, hb⟩
  · have t : decide (50 < (len0 : Int)) = false := decide_eq_false (by omega)
    have t' : decide (100 < (a1.size : Int)) = false := decide_eq_false (by omega)
    have hl0 : (len0 : Int) ≤ 50 := by omega
    have HCV : Hid (∀ w', Below w.heap.size w w' → (convert 51 9 (.slice a0 len0 cap0)).run Tryd.prog w' = .ok (.string (strOfNums xs)) w') := fun w' b => conv_kept hxs b
    have hc0 := HCV.out w (Below.refl _ _)
    obtain ⟨Z, hZ⟩ : ∃ Z, strOfNums xs = Z := ⟨_, rfl⟩
    have hzz : (Z.toList == Z.toList) = true := by simp
    have hzz2 : (Z.toList != Z.toList) = false := by simp
    cases hr : rightB a1 with
    | false =>
      have HP : Hid (Calls Tryd.prog 24 #[.slice a0 len0 cap0, .string a1] w (PPost w xs 7)) := nput_no a0 len0 cap0 xs a1 w hxs hnil (by omega) w1 hr
      have H1 : Hid (∀ w, Calls Tryd.prog 25 #[.string a1] w fun e w' => e = .returned (.bool false) ∧ w = w') := fun w => by rw [← hr]; exact right_any a1 w w1
      have H2 : Hid (∀ w, Calls Tryd.prog 26 #[.string a1] w fun e w' => e = .returned (.bool false) ∧ w = w') := fun w => by rw [← hr]; exact rright_any a1 w w1
      have HCO : Hid (∀ w1 V n, w1.ownsRow w.heap.size 5 1 V n (xs.map (Value.int .u8)) → (convert 51 9 V).run Tryd.prog w1 = .ok (.string Z) w1) := fun w1 V n h => by rw [← hZ]; exact conv_owns h
      rw [hZ] at HCV hc0
      clear hl w0 w1 hxs hxr hnil hlc hr hZ
      go_enter Tryd.func6, Tryd.ntmps6
      go_wp2_with (first
        | (go_at_call 24; refine (HP.out).mono ?_; rintro e w2 ⟨V, n, rfl, ho, hb⟩; have hc1 := HCV.out w2 hb; have hc2 := HCO.out w2 V n ho; have HB := Lib.hid hb; clear hb ho)
        | (go_at_call 25; refine (H1.out _).mono ?_; rintro e w' ⟨rfl, rfl⟩)
        | (go_at_call 26; refine (H2.out _).mono ?_; rintro e w' ⟨rfl, rfl⟩)
        | (go_at_call 23; refine (Go.Proofs.YtbjolbgjohggiaaDoor.Nam.awake_any _).mono ?_; rintro e w9 ⟨rfl, hb9⟩; have HB9 := Lib.hid (HB.out.trans (hb9.mono HB.out.size)); clear hb9))
      go_ret
      exact ⟨rfl, HB9.out⟩
    | true =>
      have hsz : 1 ≤ a1.size ∧ a1.size ≤ 16 := by
        by_cases h : 1 ≤ a1.size ∧ a1.size ≤ 16
        · exact h
        · rw [right_out h] at hr; cases hr
      have hxl : xs.length = len0 := hxs.1
      have HP : Hid (Calls Tryd.prog 24 #[.slice a0 len0 cap0, .string a1] w (PPost w (xs ++ ((a1.size : Int) :: bytesOf a1)) 0)) := nput_yes a0 len0 cap0 xs a1 w hxs (by omega) hsz.2 hr
      have H1 : Hid (∀ w, Calls Tryd.prog 25 #[.string a1] w fun e w' => e = .returned (.bool true) ∧ w = w') := fun w => by rw [← hr]; exact right_any a1 w w1
      have H2 : Hid (∀ w, Calls Tryd.prog 26 #[.string a1] w fun e w' => e = .returned (.bool true) ∧ w = w') := fun w => by rw [← hr]; exact rright_any a1 w w1
      obtain ⟨M, hM⟩ : ∃ M, nmB a1 = M := ⟨_, rfl⟩
      have hMs : M.size = 1 + a1.size := by rw [← hM]; exact nmB_size a1
      have HT : Hid (∀ w, Calls Tryd.prog 27 #[.string a1] w fun e w' => e = .returned (.string M) ∧ Below w.heap.size w w') := fun w => by rw [← hM]; exact rtext_any a1 w hsz.2
      have hbk := back a1 hsz.1 hsz.2 hr
      rw [hM] at hbk
      have HO : Ok ⟨M, 0, 0, 0, 0, 0⟩ := ⟨Nat.zero_le _, by show M.size ≤ _; omega⟩
      have HGG : Hid (∀ g w, Flt.Names w → IsRdr w g ⟨M, 0, 0, 0, 0, 0⟩ → Calls Tryd.prog 28 #[.pointer (some ⟨g, 0, none⟩)] w (SPost g ⟨M, 1 + a1.size, 0, 0, 0, 0⟩ a1 w)) := fun g w hn h => by
        have := get_any g _ w hn h HO
        rw [hbk.1, hbk.2] at this
        exact this
      have HL : Hid (∀ g w, IsRdr w g ⟨M, 1 + a1.size, 0, 0, 0, 0⟩ → Calls Tryd.prog 14 #[.pointer (some ⟨g, 0, none⟩)] w fun e w' => e = .returned (.int .i64 0) ∧ ∃ n, w' = w.drewN n) := fun g w h => by
        have := left_int g _ w h ⟨by show 1 + a1.size ≤ M.size; omega, by show M.size ≤ _; omega⟩
        have e : ((M.size : Int) - ((1 + a1.size : Nat) : Int)) = 0 := by omega
        rw [← e]; exact this
      have hMc : strOfNums ((a1.size : Int) :: bytesOf a1) = M := hM
      have hZs : (strOfNums xs).size = len0 := by rw [strOfNums_size]; exact hxl
      obtain ⟨Y, hY⟩ : ∃ Y, Z ++ M = Y := ⟨_, rfl⟩
      have hYc : strOfNums (xs ++ ((a1.size : Int) :: bytesOf a1)) = Y := by rw [strOf_append, hMc, hZ]; exact hY
      rw [hZ] at HCV hc0 hZs
      have hsum : ¬ 9223372036854775807 < Z.size + M.size := by omega
      have hyy : (Y.toList == Y.toList) = true := by simp
      have haa : (a1.toList == a1.toList) = true := by simp
      have HOPEN : Hid (∀ (w2 : World) (V : Value) (n : Nat), w2.ownsRow w.heap.size 5 1 V n ((xs ++ ((a1.size : Int) :: bytesOf a1)).map (Value.int .u8)) → ∃ G c : Nat, V = .slice (some ⟨G, 0, none⟩) n c ∧ G < w2.heap.size ∧ w.heap.size ≤ G ∧ decide ((n : Int) < (len0 : Int)) = false ∧ len0 < n ∧ n ≤ c ∧ (∀ wx : World, wx.heap[G]? = w2.heap[G]? → (convert 51 9 (.slice (some ⟨G, 0, none⟩) n c)).run Tryd.prog wx = .ok (.string Y) wx ∧ (convert 51 9 (.slice (some ⟨G, len0, none⟩) (n - len0) (c - len0))).run Tryd.prog wx = .ok (.string M) wx)) := by
        intro w2 V n ho
        have hn : n = len0 + (a1.size + 1) := by have := ho.1; simp [bytesOf_len] at this; omega
        obtain ⟨G, c, cur, rfl, h3, h4, h5, h6⟩ : ∃ G c cur, V = .slice (some ⟨G, 0, none⟩) n c ∧ w.heap.size ≤ G ∧ w2.heap[G]? = some (.cells cur 5 (0, 0)) ∧ n ≤ c ∧ c ≤ maxLen := by
          rcases ho.2 with ⟨_, h0⟩ | ⟨g, cap, cur, h, h2, h3, h4, h5, _⟩
          · omega
          · exact ⟨g, cap, cur, h, h2, h3, h4, h5⟩
        refine ⟨G, c, rfl, lt_of_block h4, h3, decide_eq_false (by omega), by omega, h5, fun wx hx => ⟨?_, ?_⟩⟩
        · rw [← hYc]; exact conv_own (owns_at ho hx)
        · rw [← hMc]
          exact conv_part ho hx hxl (by rw [List.length_cons, bytesOf_len]; omega)
      clear hl w0 w1 hxs hxr hnil hlc hr hZ hbk HO hM hMc hYc hxl hZs
      go_enter Tryd.func6, Tryd.ntmps6
      go_wp2_with (first
        | (go_at_call 24; refine (HP.out).mono ?_; rintro e w2 ⟨V, n, rfl, ho, hb⟩; obtain ⟨G, c, rfl, hG1, hG2, hnl, hn1, hn2, hcs⟩ := HOPEN.out w2 V n ho; have hc1 := HCV.out w2 hb; have HB := Lib.hid hb; have HG1 := Lib.hid hG1; have HG2 := Lib.hid hG2; have HCS := Lib.hid hcs; have hc2 := (hcs w2 rfl).2; have hsl := fun w => low_slice w G len0 n c hn1 hn2; have hcne : ¬ c = len0 := (by omega); clear hb ho hG1 hG2 hcs HOPEN)
        | (go_at_call 25; refine (H1.out _).mono ?_; rintro e w' ⟨rfl, rfl⟩)
        | (go_at_call 26; refine (H2.out _).mono ?_; rintro e w' ⟨rfl, rfl⟩))
      refine (new_any M _).mono ?_
      rintro e w3 ⟨g, hg, rfl, hr3, hb3⟩
      have HB3 := Lib.hid (HB.out.trans (hb3.mono HB.out.size))
      have HN3 := Lib.hid (HN.out.kept HB3.out)
      have HR3 := Lib.hid hr3
      have HGW : Hid (w.heap.size ≤ g) := Nat.le_trans HB.out.size hg
      have HGN : Hid (G ≠ g) := by have h1 := HG1.out; have h2 : w2.heap.size ≤ g := hg; show _ ≠ _; omega
      have HG3 : Hid (G < w3.heap.size) := Nat.lt_of_lt_of_le HG1.out hb3.size
      have HC3 : Hid (∀ wx : World, wx.heap[G]? = w3.heap[G]? → (convert 51 9 (.slice (some ⟨G, 0, none⟩) n c)).run Tryd.prog wx = .ok (.string Y) wx) := fun wx hx => (HCS.out wx (hx.trans (hb3.block G HG1.out))).1
      have hc3 := HC3.out w3 rfl
      clear hb3 hr3 hg HCS HP H1 H2 hc0 hc1 hc2 hsl hcne hn1 hn2 hnl HCV HG1 HG2 HB hMs hsz hl0
      go_wp2_with fail
      go_region_held3 (fun w' => (convert 51 9 (.slice (some ⟨G, 0, none⟩) n c)).run Tryd.prog w' = .ok (.string Y) w') (first | (go_keep; done) | assumption | exact HC3.out _ rfl)
        (first
          | (go_at_call 27; refine (HT.out _).mono ?_; rintro e w4 ⟨rfl, hb4⟩; have HJ4 := Lib.hid (((Just.refl g w3).drewN 1).trans (Just.of_below hb4)); have HR4 := Lib.hid ((HR3.out.drewN 1).kept hb4); have HN4 := Lib.hid (Rdr.Names.just HN3.out HR3.out HJ4.out); have hc4 := HC3.out w4 (HJ4.out.block G HG3.out HGN.out); clear hb4)
          | (go_at_call 28; refine (HGG.out g _ (by exact HN4.out) (by exact HR4.out)).mono ?_; rintro e w5 ⟨rfl, hr5, hj5⟩; have HR5 := Lib.hid hr5; have HJ5 := Lib.hid (HJ4.out.trans hj5); have hc5 := HC3.out w5 (HJ5.out.block G HG3.out HGN.out); clear hr5 hj5)
          | (go_at_call 14; refine (HL.out g _ HR5.out).mono ?_; rintro e w6 ⟨rfl, k6, rfl⟩; have HR6 := Lib.hid (HR5.out.drewN k6); have HJ6 := Lib.hid (HJ5.out.drewN k6); have hc6 := HC3.out (w5.drewN k6) (HJ6.out.block G HG3.out HGN.out))
          | (go_at_call 15; refine (err_ok g _ _ HR6.out rfl).mono ?_; rintro e w' ⟨rfl, rfl⟩)
          | (go_at_call 23; refine (Go.Proofs.YtbjolbgjohggiaaDoor.Nam.awake_any _).mono ?_; rintro e w8 ⟨rfl, hb8⟩; have HJ8 := Lib.hid (HJ6.out.trans (Just.of_below hb8)); have hc8 := HC3.out w8 (HJ8.out.block G HG3.out HGN.out); clear hb8))
      all_goals go_wp2
      all_goals go_ret
      all_goals exact ⟨rfl, HB3.out.trans (HJ8.out.below HGW.out HR3.out.lt)⟩

end Go.Proofs.YtbjolbgjohggiaaDoor.namePuts
