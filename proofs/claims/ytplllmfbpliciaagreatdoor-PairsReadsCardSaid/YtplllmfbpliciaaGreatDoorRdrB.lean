
/- What package reader's Fail and Need do to a reader: the first that is wrong is kept. Condition: the table of names holds what the program lays there. -/

import Derived.Test.YtplllmfbpliciaaGreatDoorRdrA

namespace Go.Proofs.YtplllmfbpliciaaGreatDoor.Rdr

open Go.RowKit Go.PlainAid Go.Proofs.YtplllmfbpliciaaGreatDoor.Flt

def failS (t : St) (k a : Int) : St := if t.k = 0 ∧ 1 ≤ k ∧ k ≤ 18 then { t with k := k.toNat, fs := t.sec, fa := a } else t
theorem fail_had {t : St} {k a : Int} (h : t.k ≠ 0) : failS t k a = t := by unfold failS; rw [if_neg (by omega)]
theorem fail_no {t : St} {k a : Int} (h : k < 1 ∨ 18 < k) : failS t k a = t := by unfold failS; rw [if_neg (by omega)]
theorem fail_yes {t : St} {k : Nat} {a : Int} (h0 : t.k = 0) (h1 : 1 ≤ k) (h2 : k ≤ 18) : failS t k a = { t with k := k, fs := t.sec, fa := a } := by
  unfold failS; rw [if_pos (by omega)]; simp
theorem in_nil (n : Int) (w : World) :
    Calls Tryz.prog 33 #[.int .i64 n, .nilIface] w fun e w' => e = .returned .nilIface ∧ w = w' := by
  go_enter Tryz.func33, Tryz.ntmps33
  go_wp2_with (go_at_call 50; refine (wrapped_nil _ _ _).mono ?_; rintro e w' ⟨rfl, rfl⟩)
  go_ret
  exact ⟨rfl, rfl⟩

theorem err_of {w : World} {x : Value} {ws : List (Bool × Int)} {k : Int} (h : IsFault w x ws k) : ∃ u y, x = .iface u y := by
  cases ws with
  | nil => exact ⟨_, _, h⟩
  | cons a ws => obtain ⟨g, y, e, _⟩ := h; exact ⟨_, _, e⟩
def FPost (g : Nat) (t : St) (w : World) (e : Ending) (w' : World) : Prop := e = .returned (.tuple #[]) ∧ IsRdr w' g t ∧ Just g w w'
theorem fail_1 (g : Nat) (t : St) (k a : Int) (w : World) (h : IsRdr w g t) (hk : t.k ≠ 0) :
    Calls Tryz.prog 40 #[.pointer (some ⟨g, 0, none⟩), .int .i64 k, .int .i64 a] w (FPost g t w) := by
  have H := Lib.hid h
  obtain ⟨x, h1, h2⟩ := h
  obtain ⟨_, _, _, hc, _⟩ := cells_of h1
  obtain ⟨u, y, rfl⟩ : ∃ u y, x = .iface u y := by
    rcases h2 with ⟨h, _⟩ | ⟨_, _, g, y, e, _⟩
    · exact absurd h hk
    · exact ⟨_, _, e⟩
  clear h1 h2 hk
  go_enter Tryz.func40, Tryz.ntmps40
  go_wp2
  simp [bodyPost, results, Tryz.results40, go_sem]
  exact ⟨rfl, H.out, Just.refl _ _⟩
set_option maxRecDepth 4000 in
set_option maxHeartbeats 800000 in
theorem fail_2 (g : Nat) (t : St) (k : Nat) (a : Int) (w : World) (hn : Names w) (h : IsRdr w g t) (h0 : t.k = 0) (hk1 : 1 ≤ k) (hk2 : k ≤ 18) :
    Calls Tryz.prog 40 #[.pointer (some ⟨g, 0, none⟩), .int .i64 k, .int .i64 a] w (FPost g { t with k := k, fs := t.sec, fa := a } w) := by
  have H := Lib.hid h
  obtain ⟨x, h1, h2⟩ := h
  obtain ⟨_, _, hc2, hc, _⟩ := cells_of h1
  obtain rfl : x = .nilIface := by
    rcases h2 with ⟨_, _, _, h⟩ | ⟨h, _⟩
    · exact h
    · omega
  have HN := Lib.hid hn
  have HG := Lib.hid h1
  have HA : Hid (∀ w1, Below w.heap.size w w1 → w1.cell? ⟨g, 2, none⟩ = some (.int .i64 t.sec)) := fun w1 hb => (hb.cell (lt_of_block h1)).trans hc2
  have HF : Hid (∀ w1, Below w.heap.size w w1 → w1.frozen? ⟨g, 3, none⟩ = false ∧ w1.cell? ⟨g, 3, none⟩ = some .nilIface) := fun w1 hb => have hh := cells_of ((hb.block _ (lt_of_block h1)).trans h1); ⟨hh.2.2.2.2 3, hh.2.2.2.1⟩
  have HE : Hid (∀ w1 y, Below w.heap.size w w1 → IsFault w1 y [(true, t.sec), (false, a)] k → FPost g { t with k := k, fs := t.sec, fa := a } w (.returned (.tuple #[])) (w1.setCell ⟨g, 3, none⟩ y)) := by
    intro w1 y hb hy
    have h1' := (hb.block _ (lt_of_block h1)).trans h1
    exact ⟨rfl, ⟨y, set_wrong h1' y, .inr ⟨hk1, hk2, hy.only (keptW_just h1' ((Just.refl g w1).setCell 3 y))⟩⟩, (Just.of_below hb).setCell 3 y⟩
  have HK1 := Lib.hid hk1
  have HK2 := Lib.hid hk2
  obtain ⟨c, hcc⟩ : ∃ c, t.sec = c := ⟨_, rfl⟩
  rw [hcc] at hc2 HA HE ⊢
  clear h1 h2 hn h0 hk1 hk2 hcc
  go_enter Tryz.func40, Tryz.ntmps40
  go_wp2
  have hb0 : Below w.heap.size w w.drew := (Below.refl _ _).drew
  refine wp_region_any (by kernel_rfl) ?_
  try (change wpAny _ _ _ _ _ _ _ (World.drew _))
  refine wpAny_take (i := 0) (v := ?_) rfl (by kernel_rfl) (by kernel_rfl) (by kernel_rfl) (fun _ _ _ h => h) (Or.inl ⟨by kernel_rfl, ?_⟩) ?_
  rotate_left
  · intro w; go_simp <;> with_reducible rfl
  refine wpAny_take (i := 1) (v := ?_) rfl (by kernel_rfl) (by kernel_rfl) (by kernel_rfl) (fun _ _ _ h => h) (Or.inl ⟨by kernel_rfl, ?_⟩) ?_
  rotate_left
  · intro w; go_simp <;> with_reducible rfl
  refine wpAny_take (i := 2) (v := ?_) rfl (by kernel_rfl) (by kernel_rfl) (by kernel_rfl) (fun _ _ _ h => h) (Or.inl ⟨by kernel_rfl, ?_⟩) ?_
  rotate_left
  · intro w; go_simp <;> with_reducible rfl
  refine wpAny_take (i := 3) (v := ?_) rfl (by kernel_rfl) (by kernel_rfl) (by kernel_rfl) (fun _ _ _ h => h) (Or.inl ⟨by kernel_rfl, ?_⟩) ?_
  rotate_left
  · intro w; go_simp <;> with_reducible rfl
  refine wpAny_take (i := 5) (v := ?_) rfl (by kernel_rfl) (by kernel_rfl) (by kernel_rfl) (fun _ _ _ h => h) (Or.inl ⟨by kernel_rfl, ?_⟩) ?_
  rotate_left
  · intro w; go_simp <;> with_reducible rfl
  refine wpAny_take (i := 6) (v := ?_) rfl (by kernel_rfl) (by kernel_rfl) (by kernel_rfl) (fun _ _ _ h => h) (Or.inl ⟨by kernel_rfl, ?_⟩) ?_
  rotate_left
  · intro w; go_simp <;> with_reducible rfl
  refine wpAny_ready (rs := [4, 7]) (by kernel_rfl) (by simp) ?_
  refine AllReady.cons rfl (fun K hK => ?_) (AllReady.cons rfl (fun K hK => ?_) AllReady.nil)
  ·
    go_simp
    refine hK _ _ ?_; clear hK K
    refine wpAny_ready (rs := [7]) (by kernel_rfl) (by simp) ?_
    refine AllReady.cons rfl (fun K hK => ?_) AllReady.nil
    go_simp
    go_wp2_with (go_at_call 35; refine (new_yes k HK1.out HK2.out _ (HN.out.kept hb0)).mono ?_; rintro e w1 ⟨rfl, rfl⟩)
    refine wpAny_ready (rs := [8]) (by kernel_rfl) (by simp) ?_
    refine AllReady.cons rfl (fun K hK => ?_) AllReady.nil
    go_simp
    go_wp2_with (go_at_call 34; refine (at_any a _ [] k _ rfl).mono ?_; rintro e w2 ⟨y, rfl, hy, hb2⟩; have hc4 := HA.out w2 (hb0.trans (hb2.mono hb0.size)))
    refine wpAny_ready (rs := [9]) (by kernel_rfl) (by simp) ?_
    refine AllReady.cons rfl (fun K hK => ?_) AllReady.nil
    go_simp
    go_wp2_with (go_at_call 33; refine (in_any c y _ k _ hy).mono ?_; rintro e w3 ⟨z, rfl, hz, hb3⟩; obtain ⟨uz, vz, rfl⟩ := err_of hz; have hb4 : Below w.heap.size w w3 := hb0.trans ((hb2.mono hb0.size).trans (hb3.mono (Nat.le_trans hb0.size hb2.size))); obtain ⟨hf4, hc5⟩ := HF.out w3 hb4; have HZ := Lib.hid (HE.out w3 _ hb4 hz); clear hz hb4 hb3 hb2 hy)
    refine wpAny_take (i := 10) (v := ?_) rfl (by kernel_rfl) (by kernel_rfl) (by kernel_rfl) (fun _ _ _ h => h) (Or.inl ⟨by kernel_rfl, ?_⟩) ?_
    rotate_left
    · intro w; go_simp <;> with_reducible rfl
    refine wpAny_take (i := 11) (v := ?_) rfl (by kernel_rfl) (by kernel_rfl) (by kernel_rfl) (fun _ _ _ h => h) (Or.inl ⟨by kernel_rfl, ?_⟩) ?_
    rotate_left
    · intro w; go_simp <;> with_reducible rfl
    refine wpAny_ready (rs := [12]) (by kernel_rfl) (by simp) ?_
    refine AllReady.cons rfl (fun K hK => ?_) AllReady.nil
    go_simp
    refine hK _ _ ?_; clear hK K
    refine wpAny_done (by kernel_rfl) ?_ _
    go_wp2
    simp [bodyPost, results, Tryz.results40, go_sem]
    exact HZ.out
  ·
    go_simp
    go_wp2_with (go_at_call 35; refine (new_yes k HK1.out HK2.out _ (HN.out.kept hb0)).mono ?_; rintro e w1 ⟨rfl, rfl⟩)
    refine wpAny_ready (rs := [4, 8]) (by kernel_rfl) (by simp) ?_
    refine AllReady.cons rfl (fun K hK => ?_) (AllReady.cons rfl (fun K hK => ?_) AllReady.nil)
    ·
      go_simp
      refine hK _ _ ?_; clear hK K
      refine wpAny_ready (rs := [8]) (by kernel_rfl) (by simp) ?_
      refine AllReady.cons rfl (fun K hK => ?_) AllReady.nil
      go_simp
      go_wp2_with (go_at_call 34; refine (at_any a _ [] k _ rfl).mono ?_; rintro e w2 ⟨y, rfl, hy, hb2⟩; have hc4 := HA.out w2 (hb0.trans (hb2.mono hb0.size)))
      refine wpAny_ready (rs := [9]) (by kernel_rfl) (by simp) ?_
      refine AllReady.cons rfl (fun K hK => ?_) AllReady.nil
      go_simp
      go_wp2_with (go_at_call 33; refine (in_any c y _ k _ hy).mono ?_; rintro e w3 ⟨z, rfl, hz, hb3⟩; obtain ⟨uz, vz, rfl⟩ := err_of hz; have hb4 : Below w.heap.size w w3 := hb0.trans ((hb2.mono hb0.size).trans (hb3.mono (Nat.le_trans hb0.size hb2.size))); obtain ⟨hf4, hc5⟩ := HF.out w3 hb4; have HZ := Lib.hid (HE.out w3 _ hb4 hz); clear hz hb4 hb3 hb2 hy)
      refine wpAny_take (i := 10) (v := ?_) rfl (by kernel_rfl) (by kernel_rfl) (by kernel_rfl) (fun _ _ _ h => h) (Or.inl ⟨by kernel_rfl, ?_⟩) ?_
      rotate_left
      · intro w; go_simp <;> with_reducible rfl
      refine wpAny_take (i := 11) (v := ?_) rfl (by kernel_rfl) (by kernel_rfl) (by kernel_rfl) (fun _ _ _ h => h) (Or.inl ⟨by kernel_rfl, ?_⟩) ?_
      rotate_left
      · intro w; go_simp <;> with_reducible rfl
      refine wpAny_ready (rs := [12]) (by kernel_rfl) (by simp) ?_
      refine AllReady.cons rfl (fun K hK => ?_) AllReady.nil
      go_simp
      refine hK _ _ ?_; clear hK K
      refine wpAny_done (by kernel_rfl) ?_ _
      go_wp2
      simp [bodyPost, results, Tryz.results40, go_sem]
      exact HZ.out
    ·
      go_simp
      go_wp2_with (go_at_call 34; refine (at_any a _ [] k _ rfl).mono ?_; rintro e w2 ⟨y, rfl, hy, hb2⟩; have hc4 := HA.out w2 (hb0.trans (hb2.mono hb0.size)))
      refine wpAny_ready (rs := [4]) (by kernel_rfl) (by simp) ?_
      refine AllReady.cons rfl (fun K hK => ?_) AllReady.nil
      go_simp
      refine hK _ _ ?_; clear hK K
      refine wpAny_ready (rs := [9]) (by kernel_rfl) (by simp) ?_
      refine AllReady.cons rfl (fun K hK => ?_) AllReady.nil
      go_simp
      go_wp2_with (go_at_call 33; refine (in_any c y _ k _ hy).mono ?_; rintro e w3 ⟨z, rfl, hz, hb3⟩; obtain ⟨uz, vz, rfl⟩ := err_of hz; have hb4 : Below w.heap.size w w3 := hb0.trans ((hb2.mono hb0.size).trans (hb3.mono (Nat.le_trans hb0.size hb2.size))); obtain ⟨hf4, hc5⟩ := HF.out w3 hb4; have HZ := Lib.hid (HE.out w3 _ hb4 hz); clear hz hb4 hb3 hb2 hy)
      refine wpAny_take (i := 10) (v := ?_) rfl (by kernel_rfl) (by kernel_rfl) (by kernel_rfl) (fun _ _ _ h => h) (Or.inl ⟨by kernel_rfl, ?_⟩) ?_
      rotate_left
      · intro w; go_simp <;> with_reducible rfl
      refine wpAny_take (i := 11) (v := ?_) rfl (by kernel_rfl) (by kernel_rfl) (by kernel_rfl) (fun _ _ _ h => h) (Or.inl ⟨by kernel_rfl, ?_⟩) ?_
      rotate_left
      · intro w; go_simp <;> with_reducible rfl
      refine wpAny_ready (rs := [12]) (by kernel_rfl) (by simp) ?_
      refine AllReady.cons rfl (fun K hK => ?_) AllReady.nil
      go_simp
      refine hK _ _ ?_; clear hK K
      refine wpAny_done (by kernel_rfl) ?_ _
      go_wp2
      simp [bodyPost, results, Tryz.results40, go_sem]
      exact HZ.out
set_option maxRecDepth 4000 in
set_option maxHeartbeats 800000 in
theorem fail_3 (g : Nat) (t : St) (k a : Int) (w : World) (hn : Names w) (hk : -9223372036854775808 ≤ k ∧ k ≤ 9223372036854775807) (h : IsRdr w g t) (h0 : t.k = 0) (hno : k < 1 ∨ 18 < k) :
    Calls Tryz.prog 40 #[.pointer (some ⟨g, 0, none⟩), .int .i64 k, .int .i64 a] w (FPost g t w) := by
  obtain ⟨x, h1, h2⟩ := h
  obtain ⟨_, _, hc2, hc, hff⟩ := cells_of h1
  have hf3 := hff 3
  obtain rfl : x = .nilIface := by
    rcases h2 with ⟨_, _, _, h⟩ | ⟨h, _⟩
    · exact h
    · omega
  have HNN : Hid (∀ w : World, Names w → Calls Tryz.prog 35 #[.int .i64 k] w fun e w' => e = .returned .nilIface ∧ w = w') := fun w hn => new_no k hk hno w hn
  have HN := Lib.hid hn
  have HE : Hid (FPost g t w (.returned (.tuple #[])) (w.drew.setCell ⟨g, 3, none⟩ .nilIface)) := by
    exact ⟨rfl, ⟨.nilIface, set_wrong (w := w.drew) h1 _, h2.kept (keptW_just h1 (((Just.refl g w).drew).setCell 3 _))⟩, ((Just.refl g w).drew).setCell 3 _⟩
  obtain ⟨c, hcc⟩ : ∃ c, t.sec = c := ⟨_, rfl⟩
  rw [hcc] at hc2
  clear h1 h2 hn h0 hno hff hk hcc
  have hb0 : Below w.heap.size w w.drew := (Below.refl _ _).drew
  go_enter Tryz.func40, Tryz.ntmps40
  go_wp2
  refine wp_region_any (by kernel_rfl) ?_
  try (change wpAny _ _ _ _ _ _ _ (World.drew _))
  refine wpAny_take (i := 0) (v := ?_) rfl (by kernel_rfl) (by kernel_rfl) (by kernel_rfl) (fun _ _ _ h => h) (Or.inl ⟨by kernel_rfl, ?_⟩) ?_
  rotate_left
  · intro w; go_simp <;> with_reducible rfl
  refine wpAny_take (i := 1) (v := ?_) rfl (by kernel_rfl) (by kernel_rfl) (by kernel_rfl) (fun _ _ _ h => h) (Or.inl ⟨by kernel_rfl, ?_⟩) ?_
  rotate_left
  · intro w; go_simp <;> with_reducible rfl
  refine wpAny_take (i := 2) (v := ?_) rfl (by kernel_rfl) (by kernel_rfl) (by kernel_rfl) (fun _ _ _ h => h) (Or.inl ⟨by kernel_rfl, ?_⟩) ?_
  rotate_left
  · intro w; go_simp <;> with_reducible rfl
  refine wpAny_take (i := 3) (v := ?_) rfl (by kernel_rfl) (by kernel_rfl) (by kernel_rfl) (fun _ _ _ h => h) (Or.inl ⟨by kernel_rfl, ?_⟩) ?_
  rotate_left
  · intro w; go_simp <;> with_reducible rfl
  refine wpAny_take (i := 5) (v := ?_) rfl (by kernel_rfl) (by kernel_rfl) (by kernel_rfl) (fun _ _ _ h => h) (Or.inl ⟨by kernel_rfl, ?_⟩) ?_
  rotate_left
  · intro w; go_simp <;> with_reducible rfl
  refine wpAny_take (i := 6) (v := ?_) rfl (by kernel_rfl) (by kernel_rfl) (by kernel_rfl) (fun _ _ _ h => h) (Or.inl ⟨by kernel_rfl, ?_⟩) ?_
  rotate_left
  · intro w; go_simp <;> with_reducible rfl
  refine wpAny_ready (rs := [4, 7]) (by kernel_rfl) (by simp) ?_
  refine AllReady.cons rfl (fun K hK => ?_) (AllReady.cons rfl (fun K hK => ?_) AllReady.nil)
  ·
    go_simp
    refine hK _ _ ?_; clear hK K
    refine wpAny_ready (rs := [7]) (by kernel_rfl) (by simp) ?_
    refine AllReady.cons rfl (fun K hK => ?_) AllReady.nil
    go_simp
    go_wp2_with (go_at_call 35; refine (HNN.out _ (HN.out.kept hb0)).mono ?_; rintro e w1 ⟨rfl, rfl⟩)
    refine wpAny_ready (rs := [8]) (by kernel_rfl) (by simp) ?_
    refine AllReady.cons rfl (fun K hK => ?_) AllReady.nil
    go_simp
    go_wp2_with (go_at_call 34; refine (at_nil a _).mono ?_; rintro e w2 ⟨rfl, rfl⟩)
    refine wpAny_ready (rs := [9]) (by kernel_rfl) (by simp) ?_
    refine AllReady.cons rfl (fun K hK => ?_) AllReady.nil
    go_simp
    go_wp2_with (go_at_call 33; refine (in_nil c _).mono ?_; rintro e w3 ⟨rfl, rfl⟩)
    refine wpAny_take (i := 10) (v := ?_) rfl (by kernel_rfl) (by kernel_rfl) (by kernel_rfl) (fun _ _ _ h => h) (Or.inl ⟨by kernel_rfl, ?_⟩) ?_
    rotate_left
    · intro w; go_simp <;> with_reducible rfl
    refine wpAny_take (i := 11) (v := ?_) rfl (by kernel_rfl) (by kernel_rfl) (by kernel_rfl) (fun _ _ _ h => h) (Or.inl ⟨by kernel_rfl, ?_⟩) ?_
    rotate_left
    · intro w; go_simp <;> with_reducible rfl
    refine wpAny_ready (rs := [12]) (by kernel_rfl) (by simp) ?_
    refine AllReady.cons rfl (fun K hK => ?_) AllReady.nil
    go_simp
    refine hK _ _ ?_; clear hK K
    refine wpAny_done (by kernel_rfl) ?_ _
    go_wp2
    simp [bodyPost, results, Tryz.results40, go_sem]
    exact HE.out
  ·
    go_simp
    go_wp2_with (go_at_call 35; refine (HNN.out _ (HN.out.kept hb0)).mono ?_; rintro e w1 ⟨rfl, rfl⟩)
    refine wpAny_ready (rs := [4, 8]) (by kernel_rfl) (by simp) ?_
    refine AllReady.cons rfl (fun K hK => ?_) (AllReady.cons rfl (fun K hK => ?_) AllReady.nil)
    ·
      go_simp
      refine hK _ _ ?_; clear hK K
      refine wpAny_ready (rs := [8]) (by kernel_rfl) (by simp) ?_
      refine AllReady.cons rfl (fun K hK => ?_) AllReady.nil
      go_simp
      go_wp2_with (go_at_call 34; refine (at_nil a _).mono ?_; rintro e w2 ⟨rfl, rfl⟩)
      refine wpAny_ready (rs := [9]) (by kernel_rfl) (by simp) ?_
      refine AllReady.cons rfl (fun K hK => ?_) AllReady.nil
      go_simp
      go_wp2_with (go_at_call 33; refine (in_nil c _).mono ?_; rintro e w3 ⟨rfl, rfl⟩)
      refine wpAny_take (i := 10) (v := ?_) rfl (by kernel_rfl) (by kernel_rfl) (by kernel_rfl) (fun _ _ _ h => h) (Or.inl ⟨by kernel_rfl, ?_⟩) ?_
      rotate_left
      · intro w; go_simp <;> with_reducible rfl
      refine wpAny_take (i := 11) (v := ?_) rfl (by kernel_rfl) (by kernel_rfl) (by kernel_rfl) (fun _ _ _ h => h) (Or.inl ⟨by kernel_rfl, ?_⟩) ?_
      rotate_left
      · intro w; go_simp <;> with_reducible rfl
      refine wpAny_ready (rs := [12]) (by kernel_rfl) (by simp) ?_
      refine AllReady.cons rfl (fun K hK => ?_) AllReady.nil
      go_simp
      refine hK _ _ ?_; clear hK K
      refine wpAny_done (by kernel_rfl) ?_ _
      go_wp2
      simp [bodyPost, results, Tryz.results40, go_sem]
      exact HE.out
    ·
      go_simp
      go_wp2_with (go_at_call 34; refine (at_nil a _).mono ?_; rintro e w2 ⟨rfl, rfl⟩)
      refine wpAny_ready (rs := [4]) (by kernel_rfl) (by simp) ?_
      refine AllReady.cons rfl (fun K hK => ?_) AllReady.nil
      go_simp
      refine hK _ _ ?_; clear hK K
      refine wpAny_ready (rs := [9]) (by kernel_rfl) (by simp) ?_
      refine AllReady.cons rfl (fun K hK => ?_) AllReady.nil
      go_simp
      go_wp2_with (go_at_call 33; refine (in_nil c _).mono ?_; rintro e w3 ⟨rfl, rfl⟩)
      refine wpAny_take (i := 10) (v := ?_) rfl (by kernel_rfl) (by kernel_rfl) (by kernel_rfl) (fun _ _ _ h => h) (Or.inl ⟨by kernel_rfl, ?_⟩) ?_
      rotate_left
      · intro w; go_simp <;> with_reducible rfl
      refine wpAny_take (i := 11) (v := ?_) rfl (by kernel_rfl) (by kernel_rfl) (by kernel_rfl) (fun _ _ _ h => h) (Or.inl ⟨by kernel_rfl, ?_⟩) ?_
      rotate_left
      · intro w; go_simp <;> with_reducible rfl
      refine wpAny_ready (rs := [12]) (by kernel_rfl) (by simp) ?_
      refine AllReady.cons rfl (fun K hK => ?_) AllReady.nil
      go_simp
      refine hK _ _ ?_; clear hK K
      refine wpAny_done (by kernel_rfl) ?_ _
      go_wp2
      simp [bodyPost, results, Tryz.results40, go_sem]
      exact HE.out

theorem fail_any (g : Nat) (t : St) (k a : Int) (w : World) (hn : Names w) (hk : -9223372036854775808 ≤ k ∧ k ≤ 9223372036854775807) (h : IsRdr w g t) :
    Calls Tryz.prog 40 #[.pointer (some ⟨g, 0, none⟩), .int .i64 k, .int .i64 a] w (FPost g (failS t k a) w) := by
  by_cases h0 : t.k = 0
  · by_cases hc : 1 ≤ k ∧ k ≤ 18
    · obtain ⟨m, rfl⟩ : ∃ m : Nat, k = m := ⟨k.toNat, by omega⟩
      rw [fail_yes h0 (by omega) (by omega)]
      exact fail_2 g t m a w hn h h0 (by omega) (by omega)
    · rw [fail_no (by omega)]
      exact fail_3 g t k a w hn hk h h0 (by omega)
  · rw [fail_had h0]
    exact fail_1 g t k a w h h0

/-- What Need answers: is nothing wrong? -/
def NPost (g : Nat) (t : St) (w : World) (e : Ending) (w' : World) : Prop := e = .returned (.bool (t.k == 0)) ∧ IsRdr w' g t ∧ Just g w w'
theorem need_ok (g : Nat) (t : St) (k a : Int) (w : World) (h : IsRdr w g t) :
    Calls Tryz.prog 26 #[.pointer (some ⟨g, 0, none⟩), .bool true, .int .i64 k, .int .i64 a] w fun e w' => e = .returned (.bool (t.k == 0)) ∧ w = w' := by
  obtain ⟨x, h1, h2⟩ := h
  obtain ⟨_, _, _, hc, _⟩ := cells_of h1
  rcases h2 with ⟨h, _, _, rfl⟩ | ⟨h, _, g', y, rfl, _⟩
  · rw [h]
    clear h h1
    go_enter Tryz.func26, Tryz.ntmps26
    go_wp2
    go_ret
    exact ⟨rfl, rfl⟩
  · have e : (t.k == 0) = false := by simp; omega
    rw [e]
    clear h h1 e
    go_enter Tryz.func26, Tryz.ntmps26
    go_wp2
    go_ret
    exact ⟨rfl, rfl⟩
theorem need_no (g : Nat) (t : St) (k a : Int) (w : World) (hn : Names w) (hk : -9223372036854775808 ≤ k ∧ k ≤ 9223372036854775807) (h : IsRdr w g t) :
    Calls Tryz.prog 26 #[.pointer (some ⟨g, 0, none⟩), .bool false, .int .i64 k, .int .i64 a] w (NPost g (failS t k a) w) := by
  have HF : Hid (Calls Tryz.prog 40 #[.pointer (some ⟨g, 0, none⟩), .int .i64 k, .int .i64 a] w (FPost g (failS t k a) w)) := fail_any g t k a w hn hk h
  obtain ⟨t', ht'⟩ : ∃ t', failS t k a = t' := ⟨_, rfl⟩
  rw [ht'] at HF ⊢
  clear hn hk h ht'
  go_enter Tryz.func26, Tryz.ntmps26
  go_wp2_with fail
  refine HF.out.mono ?_
  rintro e w1 ⟨rfl, h, hj⟩
  have H := Lib.hid h
  have HJ := Lib.hid hj
  obtain ⟨x, h1, h2⟩ := h
  obtain ⟨_, _, _, hc, _⟩ := cells_of h1
  rcases h2 with ⟨h, _, _, rfl⟩ | ⟨h, _, g', y, rfl, _⟩
  · have HB : Hid ((t'.k == 0) = true) := by show _ = _; rw [h]; rfl
    clear h h1 hj
    go_wp2
    go_ret
    exact ⟨by rw [HB.out]; rfl, H.out, HJ.out⟩
  · have HB : Hid ((t'.k == 0) = false) := by show _ = _; simp; omega
    clear h h1 hj
    go_wp2
    go_ret
    exact ⟨by rw [HB.out]; rfl, H.out, HJ.out⟩
end Go.Proofs.YtplllmfbpliciaaGreatDoor.Rdr
