
/- Plans: the chapter's example; numbers that came in. No condition but the names of what is wrong. -/

import Derived.Test.YtpjillclladjaaaDoorPlnJ

import Derived.Test.YtpjillclladjaaaDoorPlnK

import Derived.BigQuiet

namespace Go.Proofs.YtpjillclladjaaaDoor.Pln

open Go.RowKit Go.PlainAid Go.Proofs.YtpjillclladjaaaDoor.Oct Go.Proofs.YtpjillclladjaaaDoor.Flt Go.Proofs.YtpjillclladjaaaDoor.Rdr Go.Proofs.YtpjillclladjaaaDoor.Args Go.Proofs.YtpjillclladjaaaDoor.Win Go.Proofs.YtpjillclladjaaaDoor.Nee

open Go.Proofs.YtpjillclladjaaaDoor.Act (A3 ActsAt I64 Wide)

set_option linter.unusedVariables false

set_option linter.unusedSimpArgs false

theorem wat_row {w : World} {a : Option Addr} {len cap : Nat} {zs : List Int} (h : IsRow .i64 w a len cap zs) : WAt w a (zs.take len) ∧ (zs.take len).length = len ∧ len ≤ maxLen ∧ ∀ n ∈ zs.take len, I64 n := by
  rcases h with ⟨rfl, rfl, rfl, rfl⟩ | ⟨x, rfl, h1, h2, h3, h4, h5⟩
  · exact ⟨fun j hj => by simp at hj, rfl, Nat.zero_le _, fun n hn => by simp at hn⟩
  · have hlen : (zs.take len).length = len := by rw [List.length_take]; omega
    refine ⟨fun j hj => ⟨x, rfl, ?_⟩, hlen, by omega, fun n hn => bounds_i64 (h5 n (List.mem_of_mem_take hn))⟩
    rw [h4 j (by omega)]
    unfold vz
    rw [List.getElem?_take_of_lt (by omega), List.getD]
theorem own_some1 {w : World} {B n : Nat} {T : TypeId} {A : Option Addr} {c : Nat} {L : List Value} (h : w.ownsRow B T 1 (.slice A n c) n L) (hn : 0 < n) : ∃ g, A = some ⟨g, 0, none⟩ ∧ B ≤ g := by
  rcases h.2 with ⟨_, h0⟩ | ⟨g, cap, cur, e, hb, _, h1, h2, _⟩
  · omega
  · cases e; exact ⟨g, rfl, hb⟩
theorem row_acts {w : World} {B c : Nat} {A : Option Addr} {l : List A3} (h : w.ownsRow B 82 3 (.slice A l.length c) l.length (Go.Proofs.YtpjillclladjaaaDoor.Act.flatA l)) : ActsAt w A l := by
  intro i x hx
  have hi : i < l.length := (List.getElem?_eq_some_iff.1 hx).1
  have hA : ∃ G, A = some ⟨G, 0, none⟩ := by
    rcases h.2 with ⟨_, h0⟩ | ⟨g, cap, cur, e, _⟩
    · omega
    · cases e; exact ⟨g, rfl⟩
  obtain ⟨G, rfl⟩ := hA
  have e : (Addr.mk G 0 none).add (i * 3) = ⟨G, i * 3, none⟩ := by
    rcases Nat.eq_zero_or_pos (i * 3) with h0 | h0
    · rw [h0]; simp [Addr.add]
    · simp [Addr.add]; omega
  refine ⟨_, rfl, ?_, ?_, ?_⟩
  · have := h.cellAt (i * 3 + 0) (by omega)
    rw [Go.Proofs.YtpjillclladjaaaDoor.Act.flatA_get l i x 0 hx (by omega)] at this
    rw [e]; exact this
  · have := h.cellAt (i * 3 + 1) (by omega)
    rw [Go.Proofs.YtpjillclladjaaaDoor.Act.flatA_get l i x 1 hx (by omega)] at this
    rw [e]; exact this
  · have := h.cellAt (i * 3 + 2) (by omega)
    rw [Go.Proofs.YtpjillclladjaaaDoor.Act.flatA_get l i x 2 hx (by omega)] at this
    rw [e]; exact this
def exN : List A3 := [⟨0, 2, 1⟩, ⟨1, 4, 2⟩]
theorem ex_mk : mkW 4 exN = (0, []) := by rfl
theorem ex_run : (runR exN 4).2 = [0, 1, 0, 1] := by rfl
theorem ex_lit (W : World) : (W.alloc (.cells #[.int .i64 0, .int .i64 1, .int .i64 0, .int .i64 1] 3)).ownsRow W.heap.size 3 1 (.slice (some ⟨W.heap.size, 0, none⟩) 4 4) 4 (([0, 1, 0, 1] : List Int).map (Value.int .i64)) :=
  ⟨rfl, .inr ⟨W.heap.size, 4, _, rfl, Nat.le_refl _, heap_alloc_new _ _, Nat.le_refl _, by unfold maxLen; omega, rfl, rfl⟩⟩
set_option maxRecDepth 8000 in
set_option maxHeartbeats 3200000 in
theorem awake32 (w : World) (hn : Names w) : Calls Tryd.prog 7 #[] w fun e w' => e = .returned (.bool true) ∧ Below w.heap.size w w' := by
  have hb0 : Below w.heap.size w (w.alloc (.cells #[.int .i64 0, .int .i64 2, .int .i64 1, .int .i64 1, .int .i64 4, .int .i64 2] 44)) := (Below.refl _ _).alloc (Nat.le_refl _) _
  have hx0 := heap_alloc_new w (.cells #[.int .i64 0, .int .i64 2, .int .i64 1, .int .i64 1, .int .i64 4, .int .i64 2] 44)
  obtain ⟨W1, hW1⟩ : ∃ X, w.alloc (.cells #[.int .i64 0, .int .i64 2, .int .i64 1, .int .i64 1, .int .i64 4, .int .i64 2] 44) = X := ⟨_, rfl⟩
  rw [hW1] at hb0 hx0
  have hat : ActsAt W1 (some ⟨w.heap.size, 0, none⟩) exN := fun i x hx => by
    rcases i with _ | _ | i
    · obtain rfl : (⟨0, 2, 1⟩ : A3) = x := Option.some.inj hx
      exact ⟨_, rfl, (cell_of_row _ _ _ _ _ _ hx0).trans rfl, (cell_of_row _ _ _ _ _ _ hx0).trans rfl, (cell_of_row _ _ _ _ _ _ hx0).trans rfl⟩
    · obtain rfl : (⟨1, 4, 2⟩ : A3) = x := Option.some.inj hx
      exact ⟨_, rfl, (cell_of_row _ _ _ _ _ _ hx0).trans rfl, (cell_of_row _ _ _ _ _ _ hx0).trans rfl, (cell_of_row _ _ _ _ _ _ hx0).trans rfl⟩
    · simp [exN] at hx
  have hwd : ∀ x ∈ exN, Wide x := fun x hx => by
    unfold exN at hx
    rcases List.mem_cons.1 hx with rfl | hx
    · unfold Wide I64; dsimp only; omega
    · obtain rfl := List.mem_singleton.1 hx
      unfold Wide I64; dsimp only; omega
  have HMK := Lib.hid (make_any 4 (some ⟨w.heap.size, 0, none⟩) 2 2 exN W1 (hn.kept hb0) hat hwd rfl (by omega))
  have HB0 := Lib.hid hb0
  have HSI : Hid (∀ (g g' c c' B B' : Nat) (W : World), W.ownsRow B 3 1 (.slice (some ⟨g, 0, none⟩) 4 c) 4 (([0, 1, 0, 1] : List Int).map (Value.int .i64)) → W.ownsRow B' 3 1 (.slice (some ⟨g', 0, none⟩) 4 c') 4 (([0, 1, 0, 1] : List Int).map (Value.int .i64)) → Calls Tryd.prog 16 #[.slice (some ⟨g, 0, none⟩) 4 c, .slice (some ⟨g', 0, none⟩) 4 c'] W fun e w' => e = .returned (.bool true) ∧ Below W.heap.size W w') := fun g g' c c' B B' W h1 h2 => sameints_any [0, 1, 0, 1] g g' 4 c c' B B' W h1 h2 rfl (by omega)
  clear hb0 hx0 hat hwd hn
  go_enter Tryd.func7, Tryd.ntmps7
  go_wp2_with fail
  try rw [hW1]
  refine HMK.out.mono ?_
  rintro e W2 ⟨V, x, rfl, _, hok, hb2⟩
  rw [ex_mk] at hok
  obtain ⟨rfl, A, c, rfl, ho⟩ := hok rfl
  have ho2 : W2.ownsRow W1.heap.size 3 1 (.slice A 4 c) 4 (([0, 1, 0, 1] : List Int).map (Value.int .i64)) := by
    have h := ho
    rw [show ((4 : Int)).toNat = 4 from rfl, ex_run] at h
    exact h
  have e4 : ((4 : Int)).toNat = 4 := rfl
  rw [e4]
  obtain ⟨g, rfl, hg⟩ := own_some1 ho2 (by omega)
  have HO2 := Lib.hid ho2
  have HB2 := Lib.hid (HB0.out.trans (hb2.mono HB0.out.size))
  have hb3 : Below W2.heap.size W2 (W2.alloc (.cells #[.int .i64 0, .int .i64 1, .int .i64 0, .int .i64 1] 3)) := (Below.refl _ _).alloc (Nat.le_refl _) _
  have HB3 := Lib.hid (HB2.out.trans (hb3.mono HB2.out.size))
  have HS := Lib.hid (HSI.out g W2.heap.size c 4 _ _ _ (owns_kept HO2.out hb3) (ex_lit W2))
  clear ho ho2 hg hb2 hb3 HMK HSI
  go_wp2_with (go_at_call 16; refine HS.out.mono ?_; rintro e W5 ⟨rfl, hb5⟩; have HB5 := Lib.hid (HB3.out.trans (hb5.mono HB3.out.size)); clear hb5)
  go_ret
  exact ⟨rfl, HB5.out⟩
end Go.Proofs.YtpjillclladjaaaDoor.Pln
