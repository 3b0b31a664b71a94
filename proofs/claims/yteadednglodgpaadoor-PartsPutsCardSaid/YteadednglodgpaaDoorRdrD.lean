
/- What package reader's U8, U16, U32, U64 and Text do to a reader. Condition: the table of names holds what the program lays there. -/

import Derived.Test.YteadednglodgpaaDoorRdrC

import Derived.StillTailTactics

namespace Go.Proofs.YteadednglodgpaaDoor.Rdr

open Go.RowKit Go.PlainAid Go.Proofs.YteadednglodgpaaDoor.Flt Go.Proofs.YteadednglodgpaaDoor.Oct

set_option linter.unusedVariables false

theorem numV_lt (t : St) (n : Nat) (h : n = 1 ∨ n = 2 ∨ n = 4 ∨ n = 8) : numV t n < 256 ^ n := by
  have hp : 0 < 256 ^ n := Nat.pow_pos (by omega)
  unfold numV
  split
  · unfold getV
    split
    · have := getN_lt t.s (t.p : Int).toNat (n : Int).toNat
      simpa using this
    · exact hp
  · exact hp
theorem u8_le (t : St) : numV t 1 ≤ 255 := by have := numV_lt t 1 (by omega); omega
theorem u16_le (t : St) : numV t 2 ≤ 65535 := by have := numV_lt t 2 (by omega); omega
theorem u32_le (t : St) : numV t 4 ≤ 4294967295 := by have := numV_lt t 4 (by omega); omega
theorem u64_le (t : St) : numV t 8 ≤ 18446744073709551615 := by have := numV_lt t 8 (by omega); omega
def IPost (k : IntKind) (g : Nat) (t : St) (v : Nat) (w : World) (e : Ending) (w' : World) : Prop := e = .returned (.int k v) ∧ IsRdr w' g t ∧ Just g w w'
theorem u8_any (g : Nat) (t : St) (w : World) (hn : Names w) (h : IsRdr w g t) (ho : Ok t) :
    Calls Tryd.prog 45 #[.pointer (some ⟨g, 0, none⟩)] w (IPost .i64 g (numS t 1) (numV t 1) w) := by
  have HC := Lib.hid (number_any g t 1 w hn h ho (by omega))
  have hle := u8_le t
  obtain ⟨v, hv⟩ : ∃ v, numV t 1 = v := ⟨_, rfl⟩
  rw [hv] at HC hle ⊢
  clear hv hn h ho
  go_enter Tryd.func45, Tryd.ntmps45
  go_wp2_with (go_at_call 72; refine (HC.out).mono ?_; rintro e w1 ⟨rfl, hr, hj⟩)
  go_ret
  exact ⟨rfl, hr, hj⟩
theorem u16_any (g : Nat) (t : St) (w : World) (hn : Names w) (h : IsRdr w g t) (ho : Ok t) :
    Calls Tryd.prog 73 #[.pointer (some ⟨g, 0, none⟩)] w (IPost .i64 g (numS t 2) (numV t 2) w) := by
  have HC := Lib.hid (number_any g t 2 w hn h ho (by omega))
  have hle := u16_le t
  obtain ⟨v, hv⟩ : ∃ v, numV t 2 = v := ⟨_, rfl⟩
  rw [hv] at HC hle ⊢
  clear hv hn h ho
  go_enter Tryd.func73, Tryd.ntmps73
  go_wp2_with (go_at_call 72; refine (HC.out).mono ?_; rintro e w1 ⟨rfl, hr, hj⟩)
  go_ret
  exact ⟨rfl, hr, hj⟩
theorem wrap_u32_in {v : Nat} (h : v ≤ 4294967295) : IntKind.u32.wrap (v : Int) = (v : Int) := by rw [IntKind.wrap_u32]; omega
theorem u32_any (g : Nat) (t : St) (w : World) (hn : Names w) (h : IsRdr w g t) (ho : Ok t) :
    Calls Tryd.prog 46 #[.pointer (some ⟨g, 0, none⟩)] w (IPost .u32 g (numS t 4) (numV t 4) w) := by
  have HC := Lib.hid (number_any g t 4 w hn h ho (by omega))
  have hle := u32_le t
  obtain ⟨v, hv⟩ : ∃ v, numV t 4 = v := ⟨_, rfl⟩
  rw [hv] at HC hle ⊢
  have hw := wrap_u32_in hle
  clear hv hn h ho hle
  go_enter Tryd.func46, Tryd.ntmps46
  go_wp2_with (go_at_call 72; refine (HC.out).mono ?_; rintro e w1 ⟨rfl, hr, hj⟩)
  go_ret
  exact ⟨rfl, hr, hj⟩
theorem u64_any (g : Nat) (t : St) (w : World) (hn : Names w) (h : IsRdr w g t) (ho : Ok t) :
    Calls Tryd.prog 47 #[.pointer (some ⟨g, 0, none⟩)] w (IPost .u64 g (numS t 8) (numV t 8) w) := by
  have HC := Lib.hid (number_any g t 8 w hn h ho (by omega))
  obtain ⟨v, hv⟩ : ∃ v, numV t 8 = v := ⟨_, rfl⟩
  rw [hv] at HC ⊢
  clear hv hn h ho
  go_enter Tryd.func47, Tryd.ntmps47
  go_wp2_with (go_at_call 72; refine (HC.out).mono ?_; rintro e w1 ⟨rfl, hr, hj⟩)
  go_ret
  exact ⟨rfl, hr, hj⟩

theorem clone_any (s : ByteArray) (w : World) (hs : s.size ≤ 1099511627776) : Calls Tryd.prog 50 #[.string s] w fun e w' => e = .returned (.string s) ∧ Below w.heap.size w w' := by
  go_enter Tryd.func50, Tryd.ntmps50
  go_wp2_with (go_at_call 74; refine (Tryd.stringslite_Clone s _ (by omega)).mono ?_; rintro e w1 ⟨rfl, hb⟩)
  go_ret
  exact ⟨rfl, hb⟩

theorem still_tail_drew {P : Program} {id : Nat} {Q : Exit → Act → World → Prop} {a : Act} {w : World} {l : List Oper} (n : Nat) (hm : P.follows .mixedOrders = true) (hB : Region.lexTailB .any l.toArray n = true)
    (h : wpStill P l.toArray w.drew (fun a' => wpList P l.toArray Q (l.drop n) a' w.drew) (l.take n) a) : (Code.region id l.toArray true).wp P Q a w := wp_region_still_tail n hm hB h
/-- The next n bytes. -/
def txtS (t : St) (n : Int) : St := if t.k = 0 then (if t.p + n.toNat ≤ t.s.size then { t with p := t.p + n.toNat } else failS t 2 t.p) else t
def txtV (t : St) (n : Int) : ByteArray := if t.k = 0 ∧ t.p + n.toNat ≤ t.s.size then t.s.extract t.p (t.p + n.toNat) else ⟨#[]⟩
def SPost (g : Nat) (t : St) (v : ByteArray) (w : World) (e : Ending) (w' : World) : Prop := e = .returned (.string v) ∧ IsRdr w' g t ∧ Just g w w'

set_option maxRecDepth 4000 in
set_option maxHeartbeats 800000 in
theorem txt_yes (g : Nat) (t : St) (n : Int) (m : Nat) (w : World) (hm : max n 0 = (m : Int)) (hn : Names w) (h : IsRdr w g t) (ho : Ok t) (hk : t.k = 0) (hp : t.p + m ≤ t.s.size) :
    Calls Tryd.prog 17 #[.pointer (some ⟨g, 0, none⟩), .int .i64 n] w (SPost g { t with p := t.p + m } (t.s.extract t.p (t.p + m)) w) := by
  have H := Lib.hid h
  have HN := Lib.hid hn
  have HK := Lib.hid hk
  have HO := Lib.hid ho
  obtain ⟨L, hL⟩ : ∃ L, t.s.size - t.p = L := ⟨_, rfl⟩
  have tle : decide (m ≤ L) = true := decide_eq_true (by omega)
  have HL : Hid (∀ n, Calls Tryd.prog 16 #[.pointer (some ⟨g, 0, none⟩)] (w.drewN n) fun e w' => e = .returned (.int .i64 L) ∧ ∃ k, w' = (w.drewN n).drewN k) := fun n => by rw [← hL]; exact left_any g t _ (h.drewN n) ho.1 (by have := ho.2; unfold maxLen; omega)
  have HD : Hid (∀ n, Calls Tryd.prog 44 #[.pointer (some ⟨g, 0, none⟩), .bool true, .int .i64 2, .int .i64 t.p] (w.drewN n) fun e w' => e = .returned (.bool true) ∧ w' = (w.drewN n)) := fun n => (need_ok g t 2 t.p _ (h.drewN n)).mono fun _ _ ⟨a, b⟩ => ⟨by rw [a, hk]; rfl, b.symm⟩
  have hkb : Hid ((t.k == 0) = true) := by show _ = _; simp; exact hk
  obtain ⟨x, h1, h2⟩ := h
  obtain ⟨hc0, hc1, _, _, _⟩ := cells_of h1
  have hps := ho.2
  have hb0 : Below w.heap.size w w.drew := (Below.refl _ _).drew
  clear h1 h2 hn hk ho hL hps
  go_enter Tryd.func17, Tryd.ntmps17
  go_wp2
  go_quiet ((first
    | (go_at_call 16; with_reducible exact Calls.quiet_of (HL.out _))
    | (go_at_call 44; with_reducible exact Calls.quiet_of_same (HD.out _))))
  have HQ := Lib.hid (H.out.drewN nq)
  obtain ⟨x, h1, h2⟩ := H.out.drewN nq
  obtain ⟨hc0, hc1, _, _, hff⟩ := cells_of h1
  have hf1 := hff 1
  have hsp := set_place h1 (t.p + m)
  have hjj := ((Just.refl g w).drewN nq).setCell 1 (.int .i64 ((t.p + m : Nat) : Int))
  have hww := h2.kept (keptW_just h1 (((Just.refl g (w.drewN nq))).setCell 1 (.int .i64 ((t.p + m : Nat) : Int))))
  have epn : ((t.p + m : Nat) : Int) = (t.p : Int) + (m : Int) := by omega
  have hle : (t.p : Int) + (m : Int) ≤ (t.s.size : Int) := by omega
  have hle2 : (t.p : Int) + (m : Int) ≤ 1099511627776 := by have := HO.out.2; omega
  rw [epn] at hsp hjj hww
  obtain ⟨hd0, hd1, _, _, _⟩ := cells_of hsp
  rw [show (({ t with p := t.p + m } : St).p : Int) = (t.p : Int) + (m : Int) from epn] at hd1
  have HSP := Lib.hid hsp
  have HJJ := Lib.hid hjj
  have HWW := Lib.hid hww
  obtain ⟨X, hX⟩ : ∃ X, t.s.extract t.p (t.p + m) = X := ⟨_, rfl⟩
  have eX : t.s.extract (t.p : Int).toNat ((t.p : Int) + (m : Int)).toNat = X := by rw [← hX]; congr 1 <;> omega
  have hsl : ∀ w : World, (Instr.slice 9 (.string t.s) (some (.int .i64 t.p)) (some (.int .i64 ((t.p : Int) + (m : Int)))) none).run Tryd.prog w = .ok (.string X) w := by
    intro w; rw [run_slice_string w 9 t.s .i64 .i64 _ _ Tryd.underlying9 (by omega) (by omega) hle, eX]
  have eX2 : t.s.extract t.p ((t.p : Int) + (m : Int)).toNat = X := by rw [← hX]; congr 1 <;> omega
  have hXs : X.size ≤ 1099511627776 := by rw [← hX, ByteArray.size_extract]; omega
  have HX := Lib.hid hX
  clear h1 h2 hff hsp hjj hww epn hX eX
  go_wp2
  refine still_tail_drew 10 (by kernel_rfl) (by kernel_rfl) ?_
  simp only [List.take_succ_cons, List.take_zero, List.drop_succ_cons, List.drop_zero]
  generalize hW : World.drew _ = W
  have he0 : W.cell? ⟨g, 0, none⟩ = some (.string t.s) := by rw [← hW]; exact hd0
  have he1 : W.cell? ⟨g, 1, none⟩ = some (.int .i64 ((t.p : Int) + (m : Int))) := by rw [← hW]; exact hd1
  have HR : Hid (IsRdr W g { t with p := t.p + m }) := by rw [← hW]; exact ⟨x, HSP.out, HWW.out⟩
  have HJ : Hid (Just g w W) := by rw [← hW]; exact HJJ.out.drew
  clear hW hd0 hd1 hc0 hc1 eX2
  repeat still_step
  try refine wpStill_nil ?_
  go_wp2_with (go_at_call 50; refine (clone_any X _ hXs).mono ?_; rintro e w1 ⟨rfl, hb1⟩)
  go_ret
  exact ⟨by rw [HX.out]; rfl, HR.out.kept hb1, HJ.out.trans (Just.of_below hb1)⟩
set_option maxRecDepth 4000 in
set_option maxHeartbeats 800000 in
theorem txt_no (g : Nat) (t : St) (n : Int) (m : Nat) (w : World) (hm : max n 0 = (m : Int)) (hn : Names w) (h : IsRdr w g t) (ho : Ok t) (hp : t.s.size < t.p + m) :
    Calls Tryd.prog 17 #[.pointer (some ⟨g, 0, none⟩), .int .i64 n] w (SPost g (failS t 2 t.p) ⟨#[]⟩ w) := by
  obtain ⟨L, hL⟩ : ∃ L, t.s.size - t.p = L := ⟨_, rfl⟩
  have tle : decide (m ≤ L) = false := decide_eq_false (by have := ho.1; omega)
  have hkb : ((failS t 2 t.p).k == 0) = false := by
    by_cases hk : t.k = 0
    · rw [fail_k hk]; rfl
    · rw [fail_had hk]; simp; exact hk
  have HL : Hid (∀ n, Calls Tryd.prog 16 #[.pointer (some ⟨g, 0, none⟩)] (w.drewN n) fun e w' => e = .returned (.int .i64 L) ∧ ∃ k, w' = (w.drewN n).drewN k) := fun n => by rw [← hL]; exact left_any g t _ (h.drewN n) ho.1 (by have := ho.2; unfold maxLen; omega)
  have HD : Hid (∀ n, Calls Tryd.prog 44 #[.pointer (some ⟨g, 0, none⟩), .bool false, .int .i64 2, .int .i64 t.p] (w.drewN n) fun e w' => e = .returned (.bool false) ∧ IsRdr w' g (failS t 2 t.p) ∧ Just g (w.drewN n) w') := fun n => (need_no g t 2 t.p _ (names_drewN hn n) (by omega) (h.drewN n)).mono fun _ _ ⟨a, b, c⟩ => ⟨by rw [a, hkb], b, c⟩
  obtain ⟨T, hT⟩ : ∃ T, failS t 2 t.p = T := ⟨_, rfl⟩
  rw [hT] at HD ⊢
  obtain ⟨x, h1, h2⟩ := h
  obtain ⟨hc0, hc1, _, _, _⟩ := cells_of h1
  have hcd : ∀ n, (w.drewN n).cell? ⟨g, 1, none⟩ = some (.int .i64 t.p) := fun _ => hc1
  clear h1 h2 hn ho hL hp hkb hT hc0 hc1
  go_enter Tryd.func17, Tryd.ntmps17
  go_wp2
  refine wp_region_any (by kernel_rfl) ?_
  change wpAny _ _ _ _ _ _ _ (World.drew _)
  rw [show w.drew = w.drewN 1 from rfl]
  refine wpAny_take (i := 0) (v := ?_) rfl (by kernel_rfl) (by kernel_rfl) (by kernel_rfl) (fun _ _ _ h => h) (Or.inl ⟨by kernel_rfl, ?_⟩) ?_
  rotate_left
  · intro w; go_simp <;> with_reducible rfl
  refine wpAny_take (i := 1) (v := ?_) rfl (by kernel_rfl) (by kernel_rfl) (by kernel_rfl) (fun _ _ _ h => h) (Or.inl ⟨by kernel_rfl, ?_⟩) ?_
  rotate_left
  · intro w; go_simp <;> with_reducible rfl
  refine wpAny_take (i := 2) (v := ?_) rfl (by kernel_rfl) (by kernel_rfl) (by kernel_rfl) (fun _ _ _ h => h) (Or.inl ⟨by kernel_rfl, ?_⟩) ?_
  rotate_left
  · intro w; go_simp <;> with_reducible rfl
  refine wpAny_take (i := 5) (v := ?_) rfl (by kernel_rfl) (by kernel_rfl) (by kernel_rfl) (fun _ _ _ h => h) (Or.inl ⟨by kernel_rfl, ?_⟩) ?_
  rotate_left
  · intro w; go_simp <;> with_reducible rfl
  refine wpAny_take (i := 6) (v := ?_) rfl (by kernel_rfl) (by kernel_rfl) (by kernel_rfl) (fun _ _ _ h => h) (Or.inl ⟨by kernel_rfl, ?_⟩) ?_
  rotate_left
  · intro w; go_simp <;> with_reducible rfl
  refine wpAny_take (i := 7) (v := ?_) rfl (by kernel_rfl) (by kernel_rfl) (by kernel_rfl) (fun _ _ _ h => h) (Or.inl ⟨by kernel_rfl, ?_⟩) ?_
  rotate_left
  · intro w; go_simp <;> with_reducible rfl
  refine wpAny_ready (rs := [3, 8]) (by kernel_rfl) (by simp) ?_
  refine AllReady.cons rfl (fun K hK => ?_) (AllReady.cons rfl (fun K hK => ?_) AllReady.nil)
  ·
    go_simp
    go_wp2_with (go_at_call 16; refine (HL.out _).mono ?_; rintro e w1 ⟨rfl, nl, rfl⟩)
    refine wpAny_take (i := 4) (v := ?_) rfl (by kernel_rfl) (by kernel_rfl) (by kernel_rfl) (fun _ _ _ h => h) (Or.inl ⟨by kernel_rfl, ?_⟩) ?_
    rotate_left
    · intro w; go_simp <;> with_reducible rfl
    refine wpAny_ready (rs := [8]) (by kernel_rfl) (by simp) ?_
    refine AllReady.cons rfl (fun K hK => ?_) AllReady.nil
    go_simp
    refine hK _ _ ?_; clear hK K
    refine wpAny_ready (rs := [9]) (by kernel_rfl) (by simp) ?_
    refine AllReady.cons rfl (fun K hK => ?_) AllReady.nil
    go_simp
    go_wp2_with (go_at_call 44; refine (HD.out _).mono ?_; rintro e w2 ⟨rfl, hr, hj⟩; have HR := Lib.hid hr; have HJ := Lib.hid hj; clear hr hj)
    refine wpAny_take (i := 10) (v := ?_) rfl (by kernel_rfl) (by kernel_rfl) (by kernel_rfl) (fun _ _ _ h => h) (Or.inl ⟨by kernel_rfl, ?_⟩) ?_
    rotate_left
    · intro w; go_simp <;> with_reducible rfl
    refine wpAny_done (by kernel_rfl) ?_ _
    go_wp2
    go_ret
    exact ⟨rfl, HR.out, ((Just.refl g w).drewN _).trans HJ.out⟩
  ·
    go_simp
    refine hK _ _ ?_; clear hK K
    refine wpAny_ready (rs := [3]) (by kernel_rfl) (by simp) ?_
    refine AllReady.cons rfl (fun K hK => ?_) AllReady.nil
    go_simp
    go_wp2_with (go_at_call 16; refine (HL.out _).mono ?_; rintro e w1 ⟨rfl, nl, rfl⟩)
    refine wpAny_take (i := 4) (v := ?_) rfl (by kernel_rfl) (by kernel_rfl) (by kernel_rfl) (fun _ _ _ h => h) (Or.inl ⟨by kernel_rfl, ?_⟩) ?_
    rotate_left
    · intro w; go_simp <;> with_reducible rfl
    refine wpAny_ready (rs := [9]) (by kernel_rfl) (by simp) ?_
    refine AllReady.cons rfl (fun K hK => ?_) AllReady.nil
    go_simp
    go_wp2_with (go_at_call 44; refine (HD.out _).mono ?_; rintro e w2 ⟨rfl, hr, hj⟩; have HR := Lib.hid hr; have HJ := Lib.hid hj; clear hr hj)
    refine wpAny_take (i := 10) (v := ?_) rfl (by kernel_rfl) (by kernel_rfl) (by kernel_rfl) (fun _ _ _ h => h) (Or.inl ⟨by kernel_rfl, ?_⟩) ?_
    rotate_left
    · intro w; go_simp <;> with_reducible rfl
    refine wpAny_done (by kernel_rfl) ?_ _
    go_wp2
    go_ret
    exact ⟨rfl, HR.out, ((Just.refl g w).drewN _).trans HJ.out⟩
set_option maxRecDepth 4000 in
set_option maxHeartbeats 800000 in
theorem txt_had (g : Nat) (t : St) (n : Int) (m : Nat) (w : World) (hm : max n 0 = (m : Int)) (h : IsRdr w g t) (ho : Ok t) (hk : t.k ≠ 0) (hp : t.p + m ≤ t.s.size) :
    Calls Tryd.prog 17 #[.pointer (some ⟨g, 0, none⟩), .int .i64 n] w (SPost g t ⟨#[]⟩ w) := by
  have H := Lib.hid h
  obtain ⟨L, hL⟩ : ∃ L, t.s.size - t.p = L := ⟨_, rfl⟩
  have tle : decide (m ≤ L) = true := decide_eq_true (by omega)
  have HL : Hid (∀ n, Calls Tryd.prog 16 #[.pointer (some ⟨g, 0, none⟩)] (w.drewN n) fun e w' => e = .returned (.int .i64 L) ∧ ∃ k, w' = (w.drewN n).drewN k) := fun n => by rw [← hL]; exact left_any g t _ (h.drewN n) ho.1 (by have := ho.2; unfold maxLen; omega)
  have HD : Hid (∀ n, Calls Tryd.prog 44 #[.pointer (some ⟨g, 0, none⟩), .bool true, .int .i64 2, .int .i64 t.p] (w.drewN n) fun e w' => e = .returned (.bool false) ∧ w' = (w.drewN n)) := fun n => (need_ok g t 2 t.p _ (h.drewN n)).mono fun _ _ ⟨a, b⟩ => ⟨by rw [a, show (t.k == 0) = false by simp; exact hk], b.symm⟩
  obtain ⟨x, h1, h2⟩ := h
  obtain ⟨hc0, hc1, _, _, _⟩ := cells_of h1
  clear h1 h2 hk ho hL hp
  go_enter Tryd.func17, Tryd.ntmps17
  go_wp2
  go_quiet ((first
    | (go_at_call 16; with_reducible exact Calls.quiet_of (HL.out _))
    | (go_at_call 44; with_reducible exact Calls.quiet_of_same (HD.out _))))
  go_wp2
  go_ret
  exact ⟨rfl, H.out.drewN _, (Just.refl _ _).drewN _⟩
theorem extract_none (s : ByteArray) (p : Nat) : s.extract p (p + 0) = ⟨#[]⟩ := by
  apply ByteArray.ext; simp
theorem txt_any (g : Nat) (t : St) (n : Int) (w : World) (hn : Names w) (h : IsRdr w g t) (ho : Ok t) :
    Calls Tryd.prog 17 #[.pointer (some ⟨g, 0, none⟩), .int .i64 n] w (SPost g (txtS t n) (txtV t n) w) := by
  have hm : max n 0 = ((n.toNat : Nat) : Int) := by omega
  by_cases hk : t.k = 0
  · by_cases hp : t.p + n.toNat ≤ t.s.size
    · have e1 : txtS t n = { t with p := t.p + n.toNat } := by unfold txtS; rw [if_pos hk, if_pos hp]
      have e2 : txtV t n = t.s.extract t.p (t.p + n.toNat) := by unfold txtV; rw [if_pos ⟨hk, hp⟩]
      rw [e1, e2]
      exact txt_yes g t n n.toNat w hm hn h ho hk hp
    · have e1 : txtS t n = failS t 2 t.p := by unfold txtS; rw [if_pos hk, if_neg hp]
      have e2 : txtV t n = ⟨#[]⟩ := by unfold txtV; rw [if_neg (fun h => hp h.2)]
      rw [e1, e2]
      exact txt_no g t n n.toNat w hm hn h ho (by omega)
  · have e1 : txtS t n = t := by unfold txtS; rw [if_neg hk]
    have e2 : txtV t n = ⟨#[]⟩ := by unfold txtV; rw [if_neg (fun h => hk h.1)]
    rw [e1, e2]
    by_cases hp : t.p + n.toNat ≤ t.s.size
    · exact txt_had g t n n.toNat w hm h ho hk hp
    · have := txt_no g t n n.toNat w hm hn h ho (by omega)
      rwa [fail_had hk] at this
end Go.Proofs.YteadednglodgpaaDoor.Rdr
