/- Plans: the longest row without an owner (plan.Spread). Condition: at most 1,048,576 ticks. Plans: the chapter's example; numbers that came in. No condition but the names of what is wrong. -/
import Derived.Test.YtpjillclladjaaaDoorMg26
import Derived.Test.YtpjillclladjaaaDoorMg32
import Derived.BigQuiet
namespace Go.Proofs.YtpjillclladjaaaDoor.Pln

open Go.RowKit Go.PlainAid Go.Proofs.YtpjillclladjaaaDoor.Oct Go.Proofs.YtpjillclladjaaaDoor.Flt Go.Proofs.YtpjillclladjaaaDoor.Rdr Go.Proofs.YtpjillclladjaaaDoor.Args Go.Proofs.YtpjillclladjaaaDoor.Win Go.Proofs.YtpjillclladjaaaDoor.Nee

set_option linter.unusedVariables false

set_option linter.unusedSimpArgs false

theorem wat_addr {W : World} {P : Option Addr} {xs : List Int} (h : WAt W P xs) (h0 : 0 < xs.length) : ∃ b o, P = some ⟨b, o, none⟩ ∧ ∀ j, j < xs.length → W.cell? ⟨b, o + j, none⟩ = some (.int .i64 (vz xs j)) := by
  obtain ⟨y, rfl, c0⟩ := h 0 h0
  obtain ⟨b, o, sp⟩ := y
  have hsp : sp = none := by
    cases sp with
    | none => rfl
    | some s =>
      exfalso
      simp only [Addr.add, if_pos, World.cell?] at c0
      cases hh : W.heap[b]? with
      | none => simp [hh] at c0
      | some ob => cases ob <;> simp [hh] at c0
  subst hsp
  refine ⟨b, o, rfl, fun j hj => ?_⟩
  obtain ⟨y, e, c⟩ := h j hj
  obtain rfl := Option.some.inj e
  rw [show (Addr.mk b o none).add j = ⟨b, o + j, none⟩ from by cases j <;> simp [Addr.add]] at c
  exact c
theorem index1_any (P : Option Addr) (pc n : Nat) (xs : List Int) (z : Int) (W : World) (h : WAt W P xs) (hn : xs.length = n) (hl : n ≤ 1048576) :
    Calls Tryd.prog 47 #[.slice P n pc, .int .i64 z] W fun e w' => e = .returned (.int .i64 (Lib.idxOf xs z)) ∧ w' = W := by
  rcases Nat.eq_zero_or_pos n with h0 | h0
  · subst h0
    obtain rfl : xs = [] := List.eq_nil_of_length_eq_zero hn
    exact Tryd.slices_Index_int_empty P pc z W
  · obtain ⟨b, o, rfl, hc⟩ := wat_addr h (by omega)
    have hh := Tryd.slices_Index_int b o n pc xs z W (by omega) (by omega) (fun j hj => by
      have e : vz xs j = xs.getD j 0 := by unfold vz; rw [List.getD]
      rw [hc j hj, e])
    rw [List.take_of_length_le (by omega)] at hh
    exact hh
set_option maxRecDepth 8000 in
set_option maxHeartbeats 6400000 in
theorem spread_any (P : Option Addr) (pc : Nat) (l : List Int) (n : Nat) (z : Int) (w : World) (h : WAt w P l) (hn : l.length = n) (hl : n ≤ 1048576) :
    Calls Tryd.prog 24 #[.slice P n pc, .int .i64 z] w fun e w' => e = .returned (.int .i64 (bestD z l n : Nat)) ∧ w' = w := by
  have HIX := Lib.hid (index1_any P pc n l z w h hn hl)
  have HW := Lib.hid h
  have HN := Lib.hid hn
  have HL : Hid (n ≤ 1048576) := hl
  obtain ⟨bd, hbd⟩ : ∃ b, bestD z l n = b := ⟨_, rfl⟩
  have HBD := Lib.hid hbd
  rw [hbd]
  clear h hl hbd
  by_cases hz : z ∈ l
  · obtain ⟨f, hf, hfz, hfi⟩ := idx_some hz
    rw [hfi] at HIX
    have hbs := spread_is z l f hfz
    rw [hn, HBD.out] at hbs
    have hnl : nextI l f < l.length := Nat.mod_lt _ (by omega)
    have hrl := rot_len l (nextI l f) (by omega)
    rw [hn] at hrl
    have HRG : Hid (∀ k, k < n → (rotZ l (nextI l f))[k]? = l[(f + 1 + k) % n]?) := fun k hk => by
      rw [rot_get l (nextI l f) k hnl (by omega)]
      unfold nextI
      rw [hn, Nat.mod_add_mod]
    obtain ⟨r, hr⟩ : ∃ r, rotZ l (nextI l f) = r := ⟨_, rfl⟩
    rw [hr] at hbs hrl HRG
    have HBS := Lib.hid hbs
    have HRL := Lib.hid hrl
    have HFN : Hid (f < n) := by show _ < _; omega
    have q1 : ¬ (f : Int) < 0 := by omega
    clear hz hf hfz hfi hbs hnl hrl hr hn
    go_enter Tryd.func24, Tryd.ntmps24
    go_wp2_with fail
    refine HIX.out.mono ?_
    rintro e w3 ⟨rfl, rfl⟩
    go_wp2
    go_loop [18, 7, 6] (fun i row lg => BkRel z r i row lg) (fun i _ _ => n - (intOf i).toNat)
    case atStart => exact ⟨0, Nat.zero_le _, rfl, rfl, rfl⟩
    case round =>
      obtain ⟨k, hk, rfl, rfl, rfl⟩ := hrel
      have hkn : k ≤ n := by rw [← HRL.out]; exact hk
      have hll := HL.out
      have hff := HFN.out
      have hin := fold_in z r k
      by_cases hlt : k < n
      · have hql : (f + 1 + k) % n < n := Nat.mod_lt _ (by omega)
        obtain ⟨y, rfl, hc⟩ := HW.out ((f + 1 + k) % n) (by rw [HN.out]; exact hql)
        have hv : r[k]? = some (vz l ((f + 1 + k) % n)) := by rw [HRG.out k hlt]; exact vz_at (by rw [HN.out]; exact hql)
        have hm := fold_more z r k _ hv
        obtain ⟨v, hvv⟩ : ∃ v, vz l ((f + 1 + k) % n) = v := ⟨_, rfl⟩
        rw [hvv] at hm hc
        obtain ⟨s, hs⟩ : ∃ s, (r.take k).foldl (rowF z) (0, 0) = s := ⟨_, rfl⟩
        rw [hs] at hm hin
        rw [hs]
        have hki : (0 : Int) ≤ k := by omega
        have hkb : (k : Int) < n := by omega
        have hk1 : IntKind.i64.wrap ((k : Int) + 1) = (k : Int) + 1 := IntWalk.i64_in _ (by omega)
        have hs1 : IntKind.i64.wrap ((s.1 : Int) + 1) = ((s.1 + 1 : Nat) : Int) := IntWalk.i64_in _ (by omega)
        have hf1 : IntKind.i64.wrap ((f : Int) + 1) = (f : Int) + 1 := IntWalk.i64_in _ (by omega)
        have hf2 : IntKind.i64.wrap ((f : Int) + 1 + (k : Int)) = (f : Int) + 1 + (k : Int) := IntWalk.i64_in _ (by omega)
        have hmd : Int.tmod ((f : Int) + 1 + (k : Int)) (n : Int) = (((f + 1 + k) % n : Nat) : Int) := by
          have e : (f : Int) + 1 + (k : Int) = ((f + 1 + k : Nat) : Int) := by omega
          rw [Int.tmod_eq_emod_of_nonneg (by omega), e]; rfl
        obtain ⟨p, hp⟩ : ∃ p, (f + 1 + k) % n = p := ⟨_, rfl⟩
        rw [hp] at hmd hql hc
        have hqw : IntKind.i64.wrap (p : Int) = (p : Int) := IntWalk.i64_in _ (by omega)
        have hq0 : (0 : Int) ≤ p := by omega
        have hqn : (p : Int) < n := by omega
        have hn0 : ¬ n = 0 := by omega
        have hn1 : ¬ (n : Int) = 0 := by omega
        have HM := Lib.hid hm
        have HKN : Hid (k < n) := hlt
        clear hv hm hs hk hvv hp
        by_cases hvz : v = z
        · have hvb : (v == z) = true := by simp [hvz]
          have hmx : max (s.2 : Int) 0 = (s.2 : Int) := by omega
          have hmx2 : max (s.2 : Int) ((0 : Nat) : Int) = (s.2 : Int) := by omega
          have e3 : rowF z s v = (0, s.2) := by unfold rowF; rw [if_pos hvz]; simp
          rw [e3] at HM
          clear hvz e3
          go_wp2
          go_round
          case rel => exact ⟨k + 1, by rw [HRL.out]; omega, by go_num, by rw [HM.out]; first | done | rfl, by rw [HM.out]; first | done | rfl | simp⟩
          case measure => simp [intOf]; omega
        · have hvb : (v == z) = false := by simp [hvz]
          have hmx : max (s.2 : Int) ((s.1 + 1 : Nat) : Int) = ((max s.2 (s.1 + 1) : Nat) : Int) := by omega
          have e3 : rowF z s v = (s.1 + 1, max s.2 (s.1 + 1)) := by unfold rowF; rw [if_neg hvz]
          rw [e3] at HM
          clear hvz e3
          go_wp2
          go_round
          case rel => exact ⟨k + 1, by rw [HRL.out]; omega, by go_num, by rw [HM.out]; first | done | rfl | go_num | simp, by rw [HM.out]; first | done | rfl | (dsimp only; go_num) | (dsimp only; congr 1; omega) | simp⟩
          case measure => simp [intOf]; omega
      · obtain rfl : k = n := by omega
        have e : ((r.take k).foldl (rowF z) (0, 0)).2 = bd := by rw [List.take_of_length_le (by rw [HRL.out]; exact Nat.le_refl _), fold_best0, HBS.out]
        rw [e]
        clear e
        go_wp2
        go_ret
        exact ⟨rfl, rfl⟩
  · have hi := idx_none hz
    rw [hi] at HIX
    have hbn := best_none z l hz
    rw [hn, HBD.out] at hbn
    have HBN := Lib.hid hbn
    clear hz hi hbn hn
    go_enter Tryd.func24, Tryd.ntmps24
    go_wp2_with fail
    refine HIX.out.mono ?_
    rintro e w3 ⟨rfl, rfl⟩
    go_wp2
    go_ret
    exact ⟨by rw [HBN.out]; rfl, rfl⟩
end Go.Proofs.YtpjillclladjaaaDoor.Pln
namespace Go.Proofs.YtpjillclladjaaaDoor.Pln

open Go.RowKit Go.PlainAid Go.Proofs.YtpjillclladjaaaDoor.Oct Go.Proofs.YtpjillclladjaaaDoor.Flt Go.Proofs.YtpjillclladjaaaDoor.Rdr Go.Proofs.YtpjillclladjaaaDoor.Args Go.Proofs.YtpjillclladjaaaDoor.Win Go.Proofs.YtpjillclladjaaaDoor.Nee

open Go.Proofs.YtpjillclladjaaaDoor.Act (A3 ActsAt I64 Wide)

set_option linter.unusedVariables false

set_option linter.unusedSimpArgs false

theorem wat_row {w : World} {a : Option Addr} {len cap : Nat} {zs : List Int} (h : IsRow .i64 w a len cap zs) : WAt w a (zs.take len) ∧ (zs.take len).length = len ∧ len ≤ maxLen ∧ ∀ n ∈ zs.take len, I64 n := by
  rcases h with ⟨rfl, rfl, rfl, rfl⟩ | ⟨x, rfl, h1, h2, h3, h4, h5⟩
  · exact ⟨fun j hj => by simp at hj, rfl, Nat.zero_le _, fun n hn => by simp at hn⟩
  · have hlen : (zs.take len).length = len := by rw [List.length_take]; omega
    refine ⟨fun j hj => ⟨x, rfl, ?_⟩, hlen, by omega, fun n hn => bounds_i64 (h5 n (List.mem_of_mem_take hn))⟩
    rw [h4 j (by omega)]
    unfold vz
    rw [List.getElem?_take_of_lt (by omega), List.getD]
theorem own_some1 {w : World} {B n : Nat} {T : TypeId} {A : Option Addr} {c : Nat} {L : List Value} (h : w.ownsRow B T 1 (.slice A n c) n L) (hn : 0 < n) : ∃ g, A = some ⟨g, 0, none⟩ ∧ B ≤ g := by
  rcases h.2 with ⟨_, h0⟩ | ⟨g, cap, cur, e, hb, _, h1, h2, _⟩
  · omega
  · cases e; exact ⟨g, rfl, hb⟩
theorem row_acts {w : World} {B c : Nat} {A : Option Addr} {l : List A3} (h : w.ownsRow B 82 3 (.slice A l.length c) l.length (Go.Proofs.YtpjillclladjaaaDoor.Act.flatA l)) : ActsAt w A l := by
  intro i x hx
  have hi : i < l.length := (List.getElem?_eq_some_iff.1 hx).1
  have hA : ∃ G, A = some ⟨G, 0, none⟩ := by
    rcases h.2 with ⟨_, h0⟩ | ⟨g, cap, cur, e, _⟩
    · omega
    · cases e; exact ⟨g, rfl⟩
  obtain ⟨G, rfl⟩ := hA
  have e : (Addr.mk G 0 none).add (i * 3) = ⟨G, i * 3, none⟩ := by
    rcases Nat.eq_zero_or_pos (i * 3) with h0 | h0
    · rw [h0]; simp [Addr.add]
    · simp [Addr.add]; omega
  refine ⟨_, rfl, ?_, ?_, ?_⟩
  · have := h.cellAt (i * 3 + 0) (by omega)
    rw [Go.Proofs.YtpjillclladjaaaDoor.Act.flatA_get l i x 0 hx (by omega)] at this
    rw [e]; exact this
  · have := h.cellAt (i * 3 + 1) (by omega)
    rw [Go.Proofs.YtpjillclladjaaaDoor.Act.flatA_get l i x 1 hx (by omega)] at this
    rw [e]; exact this
  · have := h.cellAt (i * 3 + 2) (by omega)
    rw [Go.Proofs.YtpjillclladjaaaDoor.Act.flatA_get l i x 2 hx (by omega)] at this
    rw [e]; exact this
def exN : List A3 := [⟨0, 2, 1⟩, ⟨1, 4, 2⟩]
theorem ex_mk : mkW 4 exN = (0, []) := by rfl
theorem ex_run : (runR exN 4).2 = [0, 1, 0, 1] := by rfl
theorem ex_lit (W : World) : (W.alloc (.cells #[.int .i64 0, .int .i64 1, .int .i64 0, .int .i64 1] 3)).ownsRow W.heap.size 3 1 (.slice (some ⟨W.heap.size, 0, none⟩) 4 4) 4 (([0, 1, 0, 1] : List Int).map (Value.int .i64)) :=
  ⟨rfl, .inr ⟨W.heap.size, 4, _, rfl, Nat.le_refl _, heap_alloc_new _ _, Nat.le_refl _, by unfold maxLen; omega, rfl, rfl⟩⟩
set_option maxRecDepth 8000 in
set_option maxHeartbeats 3200000 in
theorem awake32 (w : World) (hn : Names w) : Calls Tryd.prog 7 #[] w fun e w' => e = .returned (.bool true) ∧ Below w.heap.size w w' := by
  have hb0 : Below w.heap.size w (w.alloc (.cells #[.int .i64 0, .int .i64 2, .int .i64 1, .int .i64 1, .int .i64 4, .int .i64 2] 44)) := (Below.refl _ _).alloc (Nat.le_refl _) _
  have hx0 := heap_alloc_new w (.cells #[.int .i64 0, .int .i64 2, .int .i64 1, .int .i64 1, .int .i64 4, .int .i64 2] 44)
  obtain ⟨W1, hW1⟩ : ∃ X, w.alloc (.cells #[.int .i64 0, .int .i64 2, .int .i64 1, .int .i64 1, .int .i64 4, .int .i64 2] 44) = X := ⟨_, rfl⟩
  rw [hW1] at hb0 hx0
  have hat : ActsAt W1 (some ⟨w.heap.size, 0, none⟩) exN := fun i x hx => by
    rcases i with _ | _ | i
    · obtain rfl : (⟨0, 2, 1⟩ : A3) = x := Option.some.inj hx
      exact ⟨_, rfl, (cell_of_row _ _ _ _ _ _ hx0).trans rfl, (cell_of_row _ _ _ _ _ _ hx0).trans rfl, (cell_of_row _ _ _ _ _ _ hx0).trans rfl⟩
    · obtain rfl : (⟨1, 4, 2⟩ : A3) = x := Option.some.inj hx
      exact ⟨_, rfl, (cell_of_row _ _ _ _ _ _ hx0).trans rfl, (cell_of_row _ _ _ _ _ _ hx0).trans rfl, (cell_of_row _ _ _ _ _ _ hx0).trans rfl⟩
    · simp [exN] at hx
  have hwd : ∀ x ∈ exN, Wide x := fun x hx => by
    unfold exN at hx
    rcases List.mem_cons.1 hx with rfl | hx
    · unfold Wide I64; dsimp only; omega
    · obtain rfl := List.mem_singleton.1 hx
      unfold Wide I64; dsimp only; omega
  have HMK := Lib.hid (make_any 4 (some ⟨w.heap.size, 0, none⟩) 2 2 exN W1 (hn.kept hb0) hat hwd rfl (by omega))
  have HB0 := Lib.hid hb0
  have HSI : Hid (∀ (g g' c c' B B' : Nat) (W : World), W.ownsRow B 3 1 (.slice (some ⟨g, 0, none⟩) 4 c) 4 (([0, 1, 0, 1] : List Int).map (Value.int .i64)) → W.ownsRow B' 3 1 (.slice (some ⟨g', 0, none⟩) 4 c') 4 (([0, 1, 0, 1] : List Int).map (Value.int .i64)) → Calls Tryd.prog 16 #[.slice (some ⟨g, 0, none⟩) 4 c, .slice (some ⟨g', 0, none⟩) 4 c'] W fun e w' => e = .returned (.bool true) ∧ Below W.heap.size W w') := fun g g' c c' B B' W h1 h2 => sameints_any [0, 1, 0, 1] g g' 4 c c' B B' W h1 h2 rfl (by omega)
  clear hb0 hx0 hat hwd hn
  go_enter Tryd.func7, Tryd.ntmps7
  go_wp2_with fail
  try rw [hW1]
  refine HMK.out.mono ?_
  rintro e W2 ⟨V, x, rfl, _, hok, hb2⟩
  rw [ex_mk] at hok
  obtain ⟨rfl, A, c, rfl, ho⟩ := hok rfl
  have ho2 : W2.ownsRow W1.heap.size 3 1 (.slice A 4 c) 4 (([0, 1, 0, 1] : List Int).map (Value.int .i64)) := by
    have h := ho
    rw [show ((4 : Int)).toNat = 4 from rfl, ex_run] at h
    exact h
  have e4 : ((4 : Int)).toNat = 4 := rfl
  rw [e4]
  obtain ⟨g, rfl, hg⟩ := own_some1 ho2 (by omega)
  have HO2 := Lib.hid ho2
  have HB2 := Lib.hid (HB0.out.trans (hb2.mono HB0.out.size))
  have hb3 : Below W2.heap.size W2 (W2.alloc (.cells #[.int .i64 0, .int .i64 1, .int .i64 0, .int .i64 1] 3)) := (Below.refl _ _).alloc (Nat.le_refl _) _
  have HB3 := Lib.hid (HB2.out.trans (hb3.mono HB2.out.size))
  have HS := Lib.hid (HSI.out g W2.heap.size c 4 _ _ _ (owns_kept HO2.out hb3) (ex_lit W2))
  clear ho ho2 hg hb2 hb3 HMK HSI
  go_wp2_with (go_at_call 16; refine HS.out.mono ?_; rintro e W5 ⟨rfl, hb5⟩; have HB5 := Lib.hid (HB3.out.trans (hb5.mono HB3.out.size)); clear hb5)
  go_ret
  exact ⟨rfl, HB5.out⟩
end Go.Proofs.YtpjillclladjaaaDoor.Pln
