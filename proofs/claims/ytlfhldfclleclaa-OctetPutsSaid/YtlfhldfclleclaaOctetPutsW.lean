/- The function OctetPuts returns true for every slice of bytes, every number and every size. Condition: none. This text: the walk through the Go text; the row is in the text without the W at its name's end. -/
import Derived.Test.YtlfhldfclleclaaArgs
import Derived.Test.YtlfhldfclleclaaOctW
import Derived.Deep.RegionWith
namespace Go.Proofs.Ytlfhldfclleclaa.octetPuts
open Go.RowKit Go.PlainAid Go.Proofs.Ytlfhldfclleclaa.Args
set_option linter.unusedVariables false

open Go.Proofs.Ytlfhldfclleclaa.Oct
/-- What the walk needs of the bytes that came in: the first 'len' of them. -/
theorem bytes_of {w : World} {a : Option Addr} {len cap : Nat} {zs : List Int} (h : IsRow .u8 w a len cap zs) : ∃ xs, IsBytes w a len xs ∧ ∀ x ∈ xs, 0 ≤ x ∧ x ≤ 255 := by
  rcases h with ⟨rfl, rfl, rfl, rfl⟩ | ⟨x, rfl, hl, hm, hz, hcell, hwz⟩
  · exact ⟨[], ⟨rfl, fun h => absurd h (by omega)⟩, by simp⟩
  · refine ⟨zs.take len, ⟨by simp; omega, fun _ => ⟨x, rfl, fun j v hj => ?_⟩⟩, fun y hy => ?_⟩
    · have hjl : j < len := by
        rcases Nat.lt_or_ge j len with h | h
        · exact h
        · rw [List.getElem?_eq_none (by simp; omega)] at hj; cases hj
      rw [hcell j (by omega)]
      have hz2 : j < zs.length := by omega
      simp [hjl, List.getElem?_eq_getElem hz2] at hj
      subst hj
      simp [List.getD, List.getElem?_eq_getElem hz2]
    · exact bounds_u8 (hwz y (List.mem_of_mem_take hy))
theorem owns_at {w w' : World} {B g n cap : Nat} {xs : List Value} (h : w.ownsRow B 5 1 (.slice (some ⟨g, 0, none⟩) n cap) n xs) (hx : w'.heap[g]? = w.heap[g]?) : w'.ownsRow B 5 1 (.slice (some ⟨g, 0, none⟩) n cap) n xs := by
  obtain ⟨e1, e2⟩ := h
  refine ⟨e1, ?_⟩
  rcases e2 with ⟨h, _⟩ | ⟨g', c', cur, h, h2⟩
  · cases h
  · cases h
    exact .inr ⟨g, cap, cur, rfl, h2.1, by rw [hx]; exact h2.2.1, h2.2.2⟩
theorem nat_two (v : Nat) (n : Int) (hv : v ≤ 18446744073709551615) (hf : fitB v n = true) : ∃ k : Nat, n = k ∧ v < 256 ^ k ∧ 1 ≤ k ∧ k ≤ 8 ∧ sizeB k = true := by
  obtain ⟨k, rfl, h1, h8, hw⟩ := size_nat (fit_size hf)
  exact ⟨k, rfl, fit_lt hf hv, h1, h8, fit_size hf⟩
set_option maxHeartbeats 400000 in
theorem walk (a0 : Option Addr) (len0 cap0 : Nat) (z0 : List Int) (a1 : Int) (a2 : Int) (w : World) (w0 : IsRow .u8 w a0 len0 cap0 z0) (w1 : (Lit.int .u64 a1).wf = true) (w2 : (Lit.int .i64 a2).wf = true) :
    Calls Try.prog 3 #[.slice a0 len0 cap0, .int .u64 a1, .int .i64 a2] w fun e w' => e = .returned (.bool true) ∧ Below w.heap.size w w' := by
  have b1 := bounds_u64 w1
  obtain ⟨v, rfl⟩ : ∃ v : Nat, a1 = v := ⟨a1.toNat, by omega⟩
  have hv : v ≤ 18446744073709551615 := by omega
  obtain ⟨xs, hxs, hxr⟩ := bytes_of w0
  by_cases hl : 200 < (len0 : Int)
  · have t : decide (200 < (len0 : Int)) = true := decide_eq_true hl
    clear w0 w1 w2 b1 hxs hxr hv
    go_enter Try.func3, Try.ntmps3
    go_wp2_with (go_at_call 9; refine (awake_any _).mono ?_; rintro e w' ⟨rfl, hb⟩)
    go_ret
    exact ⟨rfl, hb⟩
  · have t : decide (200 < (len0 : Int)) = false := decide_eq_false hl
    have hl2 : len0 ≤ 200 := by omega
    have hc0 : (convert 22 9 (.slice a0 len0 cap0)).run Try.prog w = .ok (.string (strOfNums xs)) w := conv_bytes hxs
    have hxl : Hid (xs.length = len0) := hxs.1
    clear w0 w1 w2 b1
    cases hf : fitB v a2 with
    | false =>
      go_enter Try.func3, Try.ntmps3
      go_wp2_with fail
      refine (put_no a0 len0 cap0 xs v a2 _ hxs (by omega) hv hf).mono ?_
      rintro e w1 ⟨n, cap, rfl, hown, hbel⟩
      have hc1 : (convert 22 9 (.slice a0 len0 cap0)).run Try.prog w1 = .ok (.string (strOfNums xs)) w1 :=
        conv_bytes ⟨hxs.1, fun h => by obtain ⟨ad, e1, e2⟩ := hxs.2 h; exact ⟨ad, e1, fun j u hj => (hbel.cell (cell_lt (e2 j u hj))).trans (e2 j u hj)⟩⟩
      rw [List.append_nil] at hown
      have hc2 := conv_own hown
      clear hown hc0 hxs hxr
      go_wp2_with (first
        | (go_at_call 11; refine (rfits_any v a2 hv _).mono ?_; rw [hf]; rintro e w' ⟨rfl, rfl⟩)
        | (go_at_call 12; refine (fits_any v a2 hv _).mono ?_; rw [hf]; rintro e w' ⟨rfl, rfl⟩)
        | (go_at_call 9; refine (awake_any _).mono ?_; rintro e w' ⟨rfl, hb⟩))
      go_ret
      exact ⟨rfl, hbel.trans (hb.mono hbel.size)⟩
    | true =>
      obtain ⟨k, rfl, hk, h1, h8, hz⟩ := nat_two v a2 hv hf
      have HV := Lib.hid (Nat.mod_eq_of_lt hk)
      have hget := getN_low xs v k hxr
      rw [HV.out] at hget
      clear hk
      go_enter Try.func3, Try.ntmps3
      go_wp2_with fail
      refine (put_yes a0 len0 cap0 xs v k _ hxs (by omega) hv hf).mono ?_
      rintro e w1 ⟨n, cap, rfl, hown, hbel⟩
      have hc1 : (convert 22 9 (.slice a0 len0 cap0)).run Try.prog w1 = .ok (.string (strOfNums xs)) w1 :=
        conv_bytes ⟨hxs.1, fun h => by obtain ⟨ad, e1, e2⟩ := hxs.2 h; exact ⟨ad, e1, fun j u hj => (hbel.cell (cell_lt (e2 j u hj))).trans (e2 j u hj)⟩⟩
      have hc2 := conv_own hown
      have hgs : getB (strOfNums (xs ++ low v k)) (len0 : Int) (k : Int) = true := by
        unfold getB; rw [hz]; simp [strOfNums_size, low_length]; rw [hxs.1]; omega
      have HG : Hid (getV (strOfNums (xs ++ low v k)) (len0 : Int) (k : Int) = v) := by
        show _ = _
        unfold getV; rw [hgs]; simp only [if_true, Int.toNat_natCast]; rw [← hxs.1]; exact hget
      have HGS := Lib.hid hgs
      have hsz : (strOfNums (xs ++ low v k)).size ≤ maxLen := by rw [strOfNums_size]; simp [low_length]; rw [hxs.1]; unfold maxLen; omega
      have HSZ := Lib.hid hsz
      clear hc0 hxs hxr hgs hget hsz
      go_wp2_with (first
        | (go_at_call 11; refine (rfits_any v _ hv _).mono ?_; rw [hf]; rintro e w' ⟨rfl, rfl⟩)
        | (go_at_call 12; refine (fits_any v _ hv _).mono ?_; rw [hf]; rintro e w' ⟨rfl, rfl⟩)
        | (go_at_call 13; refine (get_any _ _ _ (by omega) HSZ.out _).mono ?_; rw [HG.out, HGS.out]; rintro e w' ⟨rfl, rfl⟩))
      obtain ⟨T, hT⟩ : ∃ T, T = strOfNums (low v k) := ⟨_, rfl⟩
      have hTs : T.size = k := by rw [hT, strOfNums_size, low_length]
      obtain ⟨X, hX⟩ : ∃ X, X = strOfNums xs := ⟨_, rfl⟩
      have hXs : X.size = len0 := by rw [hX, strOfNums_size]; exact hxl.out
      obtain ⟨S, hS⟩ : ∃ S, S = X ++ T := ⟨_, rfl⟩
      have hown' : Hid (∀ wx : World, wx.heap[w.heap.size]? = w1.heap[w.heap.size]? → (convert 22 9 (.slice (some ⟨w.heap.size, 0, none⟩) n cap)).run Try.prog wx = .ok (.string S) wx) := by
        intro wx hx
        rw [hS, hX, hT, ← strOf_append]
        exact conv_own (owns_at hown hx)
      have hlt : w.heap.size < w1.heap.size := by
        have := hown.lt w.heap.size rfl
        omega
      have hcd := hown'.out w1.drew rfl
      have htx : Hid (∀ wx : World, Calls Try.prog 14 #[.int .u64 v, .int .i64 k] wx fun e w' => e = .returned (.string T) ∧ Below wx.heap.size wx w') := by
        intro wx; rw [hT]; exact text_any v k h8 hv wx
      have hsum : ¬ 9223372036854775807 < X.size + T.size := by omega
      have hcat : X ++ T = S := hS.symm
      have hbeq : (S.toList == S.toList) = true := by simp
      rw [← hX]
      have HSX := Lib.hid hX
      clear hown hc1 hc2 hT hTs hX hXs hS
      refine wp_region_any (by kernel_rfl) ?_
      try (change wpAny _ _ _ _ _ _ _ (World.drew _))
      refine wpAny_take (i := 0) (v := ?_) rfl (by kernel_rfl) (by kernel_rfl) (by kernel_rfl) (fun _ _ _ h => h) (Or.inl ⟨by kernel_rfl, ?_⟩) ?_
      rotate_left
      · intro w; go_simp <;> with_reducible rfl
      refine wpAny_take (i := 2) (v := ?_) rfl (by kernel_rfl) (by kernel_rfl) (by kernel_rfl) (fun _ _ _ h => h) (Or.inl ⟨by kernel_rfl, ?_⟩) ?_
      rotate_left
      · intro w; go_simp <;> with_reducible rfl
      refine wpAny_take (i := 3) (v := ?_) rfl (by kernel_rfl) (by kernel_rfl) (by kernel_rfl) (fun _ _ _ h => h) (Or.inl ⟨by kernel_rfl, ?_⟩) ?_
      rotate_left
      · intro w; go_simp <;> with_reducible rfl
      refine wpAny_take (i := 4) (v := ?_) rfl (by kernel_rfl) (by kernel_rfl) (by kernel_rfl) (fun _ _ _ h => h) (Or.inl ⟨by kernel_rfl, ?_⟩) ?_
      rotate_left
      · intro w; go_simp <;> with_reducible rfl
      refine wpAny_ready (rs := [1, 5]) (by kernel_rfl) (by simp) ?_
      refine AllReady.cons rfl (fun K hK => ?_) (AllReady.cons rfl (fun K hK => ?_) AllReady.nil)
      ·
        go_simp
        refine hK _ _ ?_; clear hK K
        refine wpAny_ready (rs := [5]) (by kernel_rfl) (by simp) ?_
        refine AllReady.cons rfl (fun K hK => ?_) AllReady.nil
        go_simp
        go_wp2_with (go_at_call 14; refine (htx.out _).mono ?_; rintro e w3 ⟨rfl, hb3⟩; have hc3 := hown'.out w3 (hb3.block _ hlt))
        refine wpAny_take (i := 6) (v := ?_) rfl (by kernel_rfl) (by kernel_rfl) (by kernel_rfl) (fun _ _ _ h => h) (Or.inl ⟨by kernel_rfl, ?_⟩) ?_
        rotate_left
        · intro w; go_simp <;> with_reducible rfl
        refine wpAny_take (i := 7) (v := ?_) rfl (by kernel_rfl) (by kernel_rfl) (by kernel_rfl) (fun _ _ _ h => h) (Or.inl ⟨by kernel_rfl, ?_⟩) ?_
        rotate_left
        · intro w; go_simp <;> with_reducible rfl
        refine wpAny_take (i := 8) (v := ?_) rfl (by kernel_rfl) (by kernel_rfl) (by kernel_rfl) (fun _ _ _ h => h) (Or.inl ⟨by kernel_rfl, ?_⟩) ?_
        rotate_left
        · intro w; go_simp <;> with_reducible rfl
        refine wpAny_take (i := 9) (v := ?_) rfl (by kernel_rfl) (by kernel_rfl) (by kernel_rfl) (fun _ _ _ h => h) (Or.inl ⟨by kernel_rfl, ?_⟩) ?_
        rotate_left
        · intro w; go_simp <;> with_reducible rfl
        refine wpAny_take (i := 10) (v := ?_) rfl (by kernel_rfl) (by kernel_rfl) (by kernel_rfl) (fun _ _ _ h => h) (Or.inl ⟨by kernel_rfl, ?_⟩) ?_
        rotate_left
        · intro w; go_simp <;> with_reducible rfl
        refine wpAny_take (i := 11) (v := ?_) rfl (by kernel_rfl) (by kernel_rfl) (by kernel_rfl) (fun _ _ _ h => h) (Or.inl ⟨by kernel_rfl, ?_⟩) ?_
        rotate_left
        · intro w; go_simp <;> with_reducible rfl
        refine wpAny_take (i := 12) (v := ?_) rfl (by kernel_rfl) (by kernel_rfl) (by kernel_rfl) (fun _ _ _ h => h) (Or.inl ⟨by kernel_rfl, ?_⟩) ?_
        rotate_left
        · intro w; go_simp <;> with_reducible rfl
        refine wpAny_take (i := 13) (v := ?_) rfl (by kernel_rfl) (by kernel_rfl) (by kernel_rfl) (fun _ _ _ h => h) (Or.inl ⟨by kernel_rfl, ?_⟩) ?_
        rotate_left
        · intro w; go_simp <;> with_reducible rfl
        refine wpAny_take (i := 14) (v := ?_) rfl (by kernel_rfl) (by kernel_rfl) (by kernel_rfl) (fun _ _ _ h => h) (Or.inl ⟨by kernel_rfl, ?_⟩) ?_
        rotate_left
        · intro w; go_simp <;> with_reducible rfl
        refine wpAny_take (i := 15) (v := ?_) rfl (by kernel_rfl) (by kernel_rfl) (by kernel_rfl) (fun _ _ _ h => h) (Or.inl ⟨by kernel_rfl, ?_⟩) ?_
        rotate_left
        · intro w; go_simp <;> with_reducible rfl
        refine wpAny_take (i := 16) (v := ?_) rfl (by kernel_rfl) (by kernel_rfl) (by kernel_rfl) (fun _ _ _ h => h) (Or.inl ⟨by kernel_rfl, ?_⟩) ?_
        rotate_left
        · intro w; go_simp <;> with_reducible rfl
        refine wpAny_ready (rs := [17]) (by kernel_rfl) (by simp) ?_
        refine AllReady.cons rfl (fun K hK => ?_) AllReady.nil
        go_simp
        go_wp2_with (go_at_call 9; refine (awake_any _).mono ?_; rintro e w4 ⟨rfl, hb4⟩)
        refine wpAny_take (i := 18) (v := ?_) rfl (by kernel_rfl) (by kernel_rfl) (by kernel_rfl) (fun _ _ _ h => h) (Or.inl ⟨by kernel_rfl, ?_⟩) ?_
        rotate_left
        · intro w; go_simp <;> with_reducible rfl
        refine wpAny_take (i := 19) (v := ?_) rfl (by kernel_rfl) (by kernel_rfl) (by kernel_rfl) (fun _ _ _ h => h) (Or.inl ⟨by kernel_rfl, ?_⟩) ?_
        rotate_left
        · intro w; go_simp <;> with_reducible rfl
        refine wpAny_done (by kernel_rfl) ?_ _
        go_wp2
        go_ret
        exact ⟨rfl, hbel.drew.trans ((hb3.trans (hb4.mono hb3.size)).mono hbel.size)⟩
      · go_simp
        go_wp2_with (go_at_call 14; refine (htx.out _).mono ?_; rintro e w3 ⟨rfl, hb3⟩; have hc3 := hown'.out w3 (hb3.block _ hlt))
        refine wpAny_take (i := 6) (v := ?_) rfl (by kernel_rfl) (by kernel_rfl) (by kernel_rfl) (fun _ _ _ h => h) (Or.inl ⟨by kernel_rfl, ?_⟩) ?_
        rotate_left
        · intro w; go_simp <;> with_reducible rfl
        refine wpAny_ready (rs := [1]) (by kernel_rfl) (by simp) ?_
        refine AllReady.cons rfl (fun K hK => ?_) AllReady.nil
        go_simp
        refine hK _ _ ?_; clear hK K
        refine wpAny_take (i := 7) (v := ?_) rfl (by kernel_rfl) (by kernel_rfl) (by kernel_rfl) (fun _ _ _ h => h) (Or.inl ⟨by kernel_rfl, ?_⟩) ?_
        rotate_left
        · intro w; go_simp <;> with_reducible rfl
        refine wpAny_take (i := 8) (v := ?_) rfl (by kernel_rfl) (by kernel_rfl) (by kernel_rfl) (fun _ _ _ h => h) (Or.inl ⟨by kernel_rfl, ?_⟩) ?_
        rotate_left
        · intro w; go_simp <;> with_reducible rfl
        refine wpAny_take (i := 9) (v := ?_) rfl (by kernel_rfl) (by kernel_rfl) (by kernel_rfl) (fun _ _ _ h => h) (Or.inl ⟨by kernel_rfl, ?_⟩) ?_
        rotate_left
        · intro w; go_simp <;> with_reducible rfl
        refine wpAny_take (i := 10) (v := ?_) rfl (by kernel_rfl) (by kernel_rfl) (by kernel_rfl) (fun _ _ _ h => h) (Or.inl ⟨by kernel_rfl, ?_⟩) ?_
        rotate_left
        · intro w; go_simp <;> with_reducible rfl
        refine wpAny_take (i := 11) (v := ?_) rfl (by kernel_rfl) (by kernel_rfl) (by kernel_rfl) (fun _ _ _ h => h) (Or.inl ⟨by kernel_rfl, ?_⟩) ?_
        rotate_left
        · intro w; go_simp <;> with_reducible rfl
        refine wpAny_take (i := 12) (v := ?_) rfl (by kernel_rfl) (by kernel_rfl) (by kernel_rfl) (fun _ _ _ h => h) (Or.inl ⟨by kernel_rfl, ?_⟩) ?_
        rotate_left
        · intro w; go_simp <;> with_reducible rfl
        refine wpAny_take (i := 13) (v := ?_) rfl (by kernel_rfl) (by kernel_rfl) (by kernel_rfl) (fun _ _ _ h => h) (Or.inl ⟨by kernel_rfl, ?_⟩) ?_
        rotate_left
        · intro w; go_simp <;> with_reducible rfl
        refine wpAny_take (i := 14) (v := ?_) rfl (by kernel_rfl) (by kernel_rfl) (by kernel_rfl) (fun _ _ _ h => h) (Or.inl ⟨by kernel_rfl, ?_⟩) ?_
        rotate_left
        · intro w; go_simp <;> with_reducible rfl
        refine wpAny_take (i := 15) (v := ?_) rfl (by kernel_rfl) (by kernel_rfl) (by kernel_rfl) (fun _ _ _ h => h) (Or.inl ⟨by kernel_rfl, ?_⟩) ?_
        rotate_left
        · intro w; go_simp <;> with_reducible rfl
        refine wpAny_take (i := 16) (v := ?_) rfl (by kernel_rfl) (by kernel_rfl) (by kernel_rfl) (fun _ _ _ h => h) (Or.inl ⟨by kernel_rfl, ?_⟩) ?_
        rotate_left
        · intro w; go_simp <;> with_reducible rfl
        refine wpAny_ready (rs := [17]) (by kernel_rfl) (by simp) ?_
        refine AllReady.cons rfl (fun K hK => ?_) AllReady.nil
        go_simp
        go_wp2_with (go_at_call 9; refine (awake_any _).mono ?_; rintro e w4 ⟨rfl, hb4⟩)
        refine wpAny_take (i := 18) (v := ?_) rfl (by kernel_rfl) (by kernel_rfl) (by kernel_rfl) (fun _ _ _ h => h) (Or.inl ⟨by kernel_rfl, ?_⟩) ?_
        rotate_left
        · intro w; go_simp <;> with_reducible rfl
        refine wpAny_take (i := 19) (v := ?_) rfl (by kernel_rfl) (by kernel_rfl) (by kernel_rfl) (fun _ _ _ h => h) (Or.inl ⟨by kernel_rfl, ?_⟩) ?_
        rotate_left
        · intro w; go_simp <;> with_reducible rfl
        refine wpAny_done (by kernel_rfl) ?_ _
        go_wp2
        go_ret
        exact ⟨rfl, hbel.drew.trans ((hb3.trans (hb4.mono hb3.size)).mono hbel.size)⟩

end Go.Proofs.Ytlfhldfclleclaa.octetPuts
