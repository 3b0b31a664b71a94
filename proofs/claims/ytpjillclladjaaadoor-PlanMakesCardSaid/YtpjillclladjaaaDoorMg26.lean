/- Plans: the windows of a word, as the program and as the document tell them; how often the owner changes; the longest row without an owner. Condition: at most 1,048,576 ticks. -/
import Derived.Test.YtpjillclladjaaaDoorMg20
import Derived.Test.YtpjillclladjaaaDoorMg15
import Derived.Test.YtpjillclladjaaaDoorMg25
namespace Go.Proofs.YtpjillclladjaaaDoor.Pln

open Go.RowKit Go.PlainAid Go.Proofs.YtpjillclladjaaaDoor.Oct Go.Proofs.YtpjillclladjaaaDoor.Flt Go.Proofs.YtpjillclladjaaaDoor.Rdr Go.Proofs.YtpjillclladjaaaDoor.Args Go.Proofs.YtpjillclladjaaaDoor.Win Go.Proofs.YtpjillclladjaaaDoor.Nee

open Go.Proofs.YtpjillclladjaaaDoor.Act (A3 actL flatA flatA_snoc flatA_get flatA_len ActsAt I64 Wide row_beside row_base)

set_option linter.unusedVariables false

set_option linter.unusedSimpArgs false

/-- Numbers lie at an address, or there are none. -/
def WAt (W : World) (P : Option Addr) (xs : List Int) : Prop := ∀ j, j < xs.length → ∃ y, P = some y ∧ W.cell? (y.add j) = some (.int .i64 (vz xs j))
theorem WAt.kept {w w' : World} {P : Option Addr} {xs : List Int} (h : WAt w P xs) (b : Below w.heap.size w w') : WAt w' P xs := fun j hj => by
  obtain ⟨y, e, c⟩ := h j hj
  exact ⟨y, e, (b.cell (Go.block_lt_of_cell c)).trans c⟩
theorem WAt.below {N : Nat} {w w' : World} {P : Option Addr} {xs : List Int} (h : WAt w P xs) (b : Below N w w') (hN : w.heap.size ≤ N) : WAt w' P xs := fun j hj => by
  obtain ⟨y, e, c⟩ := h j hj
  exact ⟨y, e, (b.cell (Nat.lt_of_lt_of_le (Go.block_lt_of_cell c) hN)).trans c⟩
theorem wat_own {w : World} {B n c : Nat} {A : Option Addr} {xs : List Int} (h : w.ownsRow B 3 1 (.slice A n c) n (xs.map (Value.int .i64))) (hn : xs.length = n) : WAt w A xs := fun j hj => by
  rcases h.2 with ⟨e, h0⟩ | ⟨g, cap, cur, e, hb, hg, _⟩
  · omega
  · cases e
    refine ⟨_, rfl, ?_⟩
    have e : (Addr.mk g 0 none).add j = ⟨g, j, none⟩ := by cases j <;> simp [Addr.add]
    rw [e, h.cellAt j (by omega), List.getElem?_map, vz_at hj]; rfl
def PwRel (n : Nat) (l : List Int) (w : World) (v f i : Value) (W : World) : Prop :=
  ∃ (k : Nat) (A : Option Addr) (c : Nat), k ≤ n ∧ i = .int .i64 (k : Int) ∧ f = .int .i64 (((wst l k).2 : Nat) : Int) ∧ v = .slice A (wst l k).1.length c ∧ W.ownsRow w.heap.size 82 3 (.slice A (wst l k).1.length c) (wst l k).1.length (flatA (wst l k).1) ∧ Below w.heap.size w W
set_option maxRecDepth 8000 in
set_option maxHeartbeats 6400000 in
theorem wins_any (P : Option Addr) (pc : Nat) (l : List Int) (n : Nat) (w : World) (h : WAt w P l) (hn : l.length = n) (hl : n ≤ 1048576) :
    Calls Tryd.prog 22 #[.slice P n pc] w fun e w' => ∃ A c, e = .returned (.slice A (winsL l).length c) ∧ w'.ownsRow w.heap.size 82 3 (.slice A (winsL l).length c) (winsL l).length (flatA (winsL l)) ∧ Below w.heap.size w w' := by
  obtain ⟨i0, hi, hz0, hz1, hz2⟩ := info_parts infoWin2
  have HW := Lib.hid (fun W (b : Below w.heap.size w W) => h.kept b)
  have HN := Lib.hid hn
  have HL : Hid (n ≤ 1048576) := hl
  have HS0 : Hid (PwRel n l w (.slice none 0 0) (.int .i64 0) (.int .i64 0) w) := ⟨0, none, 0, Nat.zero_le _, rfl, rfl, rfl, World.ownsRow_nil _ _ _ _, Below.refl _ _⟩
  clear h hn hl
  go_enter Tryd.func22, Tryd.ntmps22
  go_wp2_with fail
  go_loopw [3, 4, 9] (fun v f i W => PwRel n l w v f i W) (fun _ _ i _ => n - (intOf i).toNat)
  case atStart => exact HS0.out
  case round =>
    obtain ⟨W0, hW0⟩ : ∃ X, wr = X := ⟨_, rfl⟩
    rw [hW0] at hrel
    rw [hW0]
    clear hW0 wr HS0
    obtain ⟨k, A, c, hk, rfl, rfl, rfl, ho, hb⟩ := hrel
    have HO := Lib.hid ho
    have HB := Lib.hid hb
    have hll := HL.out
    have hwl := wst_le l k
    clear ho hb
    by_cases hlt : k < n
    · have hkl : k < l.length := by rw [HN.out]; exact hlt
      obtain ⟨y, rfl, c0⟩ := HW.out W0 HB.out k hkl
      have hst : wst l (k + 1) = if goesB l k then wst l k else ((if vz l k = -1 then (wst l k).1 else (wst l k).1 ++ [⟨vz l k, ((wst l k).2 : Int), ((k + 1 : Nat) : Int) - ((wst l k).2 : Int)⟩]), k + 1) := rfl
      have HG : Hid (∀ b, goesB l k = b → b = (decide (k + 1 < n) && (vz l (k + 1) == vz l k))) := fun b hb => by rw [← hb]; unfold goesB; rw [HN.out]
      obtain ⟨v, hv⟩ : ∃ v, vz l k = v := ⟨_, rfl⟩
      obtain ⟨X, hX⟩ : ∃ X, wst l k = X := ⟨_, rfl⟩
      obtain ⟨L, f⟩ := X
      rw [hX] at hst HO hwl
      rw [hv] at hst c0 HG
      rw [hX]
      dsimp only at hst HO hwl ⊢
      obtain ⟨m, hm⟩ : ∃ m, L.length = m := ⟨_, rfl⟩
      rw [hm] at HO hwl
      rw [hm]
      have HMM := Lib.hid hm
      have HST := Lib.hid hst
      have hwf : f ≤ k := hwl.1
      have hwm : m ≤ k := hwl.2
      have HKM : Hid (k < n ∧ f ≤ k ∧ m ≤ k) := ⟨hlt, hwf, hwm⟩
      have hki : (0 : Int) ≤ k := by omega
      have hkb : (k : Int) < n := by omega
      have hk1 : IntKind.i64.wrap ((k : Int) + 1) = (k : Int) + 1 := IntWalk.i64_in _ (by omega)
      have hk3 : (0 : Int) ≤ (k : Int) + 1 := by omega
      have hks : IntKind.i64.wrap ((k : Int) + 1 - (f : Int)) = (k : Int) + 1 - (f : Int) := IntWalk.i64_in _ (by omega)
      have hkn : ((k : Int) + 1).toNat = k + 1 := by omega
      have HK1 : Hid (((k + 1 : Nat) : Int) = (k : Int) + 1) := by show _ = _; omega
      have hstay : Hid (goesB l k = true → PwRel n l w (.slice A m c) (.int .i64 (f : Int)) (.int .i64 ((k : Int) + 1)) W0) := fun hg => by
        have e : wst l (k + 1) = (L, f) := by rw [HST.out, if_pos hg]
        refine ⟨k + 1, A, c, by omega, by go_num, ?_, ?_, ?_, HB.out⟩
        · rw [e]
        · rw [e]; dsimp only; rw [HMM.out]
        · rw [e]; dsimp only; rw [HMM.out]; exact HO.out
      clear hst hwl hm hX hwf hwm hkl hv
      by_cases q1 : k + 1 < n
      · obtain ⟨y1, e1, c1⟩ := HW.out W0 HB.out (k + 1) (by rw [HN.out]; exact q1)
        obtain rfl := Option.some.inj e1
        rw [show y.add (k + 1) = ⟨y.block, y.off + (k + 1), none⟩ from by simp [Addr.add]] at c1
        obtain ⟨v1, hv1⟩ : ∃ v, vz l (k + 1) = v := ⟨_, rfl⟩
        rw [hv1] at c1 HG
        have q2 : (k : Int) + 1 < n := by omega
        by_cases q3 : v1 = v
        · have q4 : (v1 == v) = true := by simp [q3]
          have HGT : Hid (goesB l k = true) := by
            have := HG.out _ rfl
            show _ = _
            rw [this, q4, decide_eq_true q1]; rfl
          clear q3 e1 hv1
          go_wp2
          go_roundw
          case rel => exact hstay.out HGT.out
          case measure => simp [intOf]; omega
        · have q4 : (v1 == v) = false := by simp [q3]
          have HGT : Hid (goesB l k = false) := by
            have := HG.out _ rfl
            show _ = _
            rw [this, q4, Bool.and_false]
          clear q3 e1 hv1 hstay
          have HST2 := Lib.hid HST.out
          rw [HGT.out, if_neg (show ¬ false = true by decide)] at HST2
          by_cases q5 : v = -1
          · have q6 : (v != -1) = false := by simp [q5]
            rw [if_pos q5] at HST2
            clear q5
            go_wp2
            go_roundw
            case rel =>
              refine ⟨k + 1, A, c, by omega, by go_num, ?_, ?_, ?_, HB.out⟩
              · rw [HST2.out, HK1.out]
              · rw [HST2.out]; dsimp only; rw [HMM.out]
              · rw [HST2.out]; dsimp only; rw [HMM.out]; exact HO.out
            case measure => simp [intOf]; omega
          · have q6 : (v != -1) = true := by simp [q5]
            rw [if_neg q5, HK1.out] at HST2
            obtain ⟨F, hF⟩ : ∃ F : Int, (f : Int) = F := ⟨_, rfl⟩
            obtain ⟨G, hG⟩ : ∃ G : Int, (k : Int) + 1 - F = G := ⟨_, rfl⟩
            rw [hF] at hks HST2
            rw [hF]
            have hks2 : IntKind.i64.wrap ((k : Int) + 1 - F) = G := hks.trans hG
            clear hks
            rw [hG] at HST2
            have hba : Below W0.heap.size W0 (W0.alloc (.cells #[.int .i64 v, .int .i64 F, .int .i64 G] 82)) := (Below.refl _ _).alloc (Nat.le_refl _) _
            have HOA := Lib.hid (owns_kept HO.out hba)
            have HBA := Lib.hid (HB.out.trans (hba.mono HB.out.size))
            have HNB := Lib.hid (heap_alloc_new W0 (.cells #[.int .i64 v, .int .i64 F, .int .i64 G] 82))
            clear hba HO HB
            clear q5 hF hG
            go_wp2_with (at_builtin; refine wpList_append_own _ rfl _ _ 29 rfl w.heap.size 82 i0 (.agg #[.int .i64 0, .int .i64 0, .int .i64 0]) 3 24 Tryd.underlying29 hi hz0 hz1 hz2 rfl (by decide) _ m _ rfl HOA.out ⟨W0.heap.size, 0, none⟩ 1 1 [.int .i64 v, .int .i64 F, .int .i64 G] rfl rfl ?c1 ?c2 ?c3 ?c4 ?c5 ?_)
            case c1 =>
              intro j u hj
              have e : (Addr.mk W0.heap.size 0 none).add j = ⟨W0.heap.size, j, none⟩ := by cases j <;> simp [Addr.add]
              rw [e, cell_of_row _ _ _ _ _ _ HNB.out, ← hj]
              simp
            case c2 => first | exact one3W _ _ _ | exact ⟨rfl, rfl, rfl⟩
            case c3 => have := HKM.out; unfold maxLen; omega
            case c4 => have := HKM.out; omega
            case c5 => first | exact HBA.out.size | (simpa using HBA.out.size)
            intro v' w8 ho8 hg8 _
            obtain ⟨A9, c9, rfl⟩ := row_slice3 ho8
            have HO8 := Lib.hid ho8
            have HB8 : Hid (Below w.heap.size w w8) := HBA.out.grown hg8 HBA.out.size (fun q hq => (HOA.out.lt q hq).1)
            clear ho8 hg8 HOA HBA HNB
            go_wp2
            go_roundw
            case rel =>
              refine ⟨k + 1, A9, c9, by omega, by go_num, ?_, ?_, ?_, HB8.out⟩
              · rw [HST2.out, HK1.out]
              · rw [HST2.out]; dsimp only; rw [List.length_append, List.length_singleton, HMM.out]
              · rw [HST2.out]; dsimp only; rw [List.length_append, List.length_singleton, HMM.out, flatA_snoc]; exact HO8.out
            case measure => simp [intOf]; omega
      · have q2 : ¬ (k : Int) + 1 < n := by omega
        have HGT : Hid (goesB l k = false) := by
          have := HG.out _ rfl
          show _ = _
          rw [this, decide_eq_false q1, Bool.false_and]
        clear hstay
        have HST2 := Lib.hid HST.out
        rw [HGT.out, if_neg (show ¬ false = true by decide)] at HST2
        by_cases q5 : v = -1
        · have q6 : (v != -1) = false := by simp [q5]
          rw [if_pos q5] at HST2
          clear q5
          go_wp2
          go_roundw
          case rel =>
            refine ⟨k + 1, A, c, by omega, by go_num, ?_, ?_, ?_, HB.out⟩
            · rw [HST2.out, HK1.out]
            · rw [HST2.out]; dsimp only; rw [HMM.out]
            · rw [HST2.out]; dsimp only; rw [HMM.out]; exact HO.out
          case measure => simp [intOf]; omega
        · have q6 : (v != -1) = true := by simp [q5]
          rw [if_neg q5, HK1.out] at HST2
          obtain ⟨F, hF⟩ : ∃ F : Int, (f : Int) = F := ⟨_, rfl⟩
          obtain ⟨G, hG⟩ : ∃ G : Int, (k : Int) + 1 - F = G := ⟨_, rfl⟩
          rw [hF] at hks HST2
          rw [hF]
          have hks2 : IntKind.i64.wrap ((k : Int) + 1 - F) = G := hks.trans hG
          clear hks
          rw [hG] at HST2
          have hba : Below W0.heap.size W0 (W0.alloc (.cells #[.int .i64 v, .int .i64 F, .int .i64 G] 82)) := (Below.refl _ _).alloc (Nat.le_refl _) _
          have HOA := Lib.hid (owns_kept HO.out hba)
          have HBA := Lib.hid (HB.out.trans (hba.mono HB.out.size))
          have HNB := Lib.hid (heap_alloc_new W0 (.cells #[.int .i64 v, .int .i64 F, .int .i64 G] 82))
          clear hba HO HB
          clear q5 hF hG
          go_wp2_with (at_builtin; refine wpList_append_own _ rfl _ _ 29 rfl w.heap.size 82 i0 (.agg #[.int .i64 0, .int .i64 0, .int .i64 0]) 3 24 Tryd.underlying29 hi hz0 hz1 hz2 rfl (by decide) _ m _ rfl HOA.out ⟨W0.heap.size, 0, none⟩ 1 1 [.int .i64 v, .int .i64 F, .int .i64 G] rfl rfl ?d1 ?d2 ?d3 ?d4 ?d5 ?_)
          case d2 => first | exact one3W _ _ _ | exact ⟨rfl, rfl, rfl⟩
          case d3 => have := HKM.out; unfold maxLen; omega
          case d4 => have := HKM.out; omega
          case d5 => first | exact HBA.out.size | (simpa using HBA.out.size)
          intro v' w8 ho8 hg8 _
          obtain ⟨A9, c9, rfl⟩ := row_slice3 ho8
          have HO8 := Lib.hid ho8
          have HB8 : Hid (Below w.heap.size w w8) := HBA.out.grown hg8 HBA.out.size (fun q hq => (HOA.out.lt q hq).1)
          clear ho8 hg8 HOA HBA HNB
          go_wp2
          go_roundw
          case rel =>
            refine ⟨k + 1, A9, c9, by omega, by go_num, ?_, ?_, ?_, HB8.out⟩
            · rw [HST2.out, HK1.out]
            · rw [HST2.out]; dsimp only; rw [List.length_append, List.length_singleton, HMM.out]
            · rw [HST2.out]; dsimp only; rw [List.length_append, List.length_singleton, HMM.out, flatA_snoc]; exact HO8.out
          case measure => simp [intOf]; omega
    · obtain rfl : k = n := by omega
      have hw : wst l k = wst l l.length := by rw [HN.out]
      have e : (wst l k).1 = winsL l := by rw [hw]; rfl
      rw [e] at HO
      rw [e]
      have HOF := Lib.hid HO.out
      have HBF := Lib.hid HB.out
      clear HO HB hw e hwl
      go_wp2
      go_ret
      exact ⟨A, c, rfl, HOF.out, HBF.out⟩
def SwRel (n : Nat) (l : List Int) (v i : Value) : Prop := ∃ k : Nat, k ≤ n ∧ i = .int .i64 (k : Int) ∧ v = .int .i64 ((swc l k : Nat) : Int)
set_option maxRecDepth 8000 in
set_option maxHeartbeats 6400000 in
theorem swit_any (P : Option Addr) (pc : Nat) (l : List Int) (n : Nat) (w : World) (h : WAt w P l) (hn : l.length = n) (hl : n ≤ 1048576) :
    Calls Tryd.prog 23 #[.slice P n pc] w fun e w' => e = .returned (.int .i64 ((swc l n : Nat) : Int)) ∧ w' = w := by
  have HW := Lib.hid h
  have HN := Lib.hid hn
  have HL : Hid (n ≤ 1048576) := hl
  clear h hn hl
  go_enter Tryd.func23, Tryd.ntmps23
  go_wp2
  go_loop [3, 9] (fun v i => SwRel n l v i) (fun _ i => n - (intOf i).toNat)
  case atStart => exact ⟨0, Nat.zero_le _, rfl, rfl⟩
  case round =>
    obtain ⟨k, hk, rfl, rfl⟩ := hrel
    have hll := HL.out
    have hwl := swc_le l k
    by_cases hlt : k < n
    · obtain ⟨y, rfl, c0⟩ := HW.out k (by rw [HN.out]; exact hlt)
      obtain ⟨y1, e1, c1⟩ := HW.out (prevI l k) (prev_lt l k (by rw [HN.out]; exact hlt))
      obtain rfl := Option.some.inj e1
      have hst : swc l (k + 1) = swc l k + (if vz l k = vz l (prevI l k) then 0 else 1) := rfl
      have hp : prevI l k = (k + n - 1) % n := by unfold prevI; rw [HN.out]
      have hpl : prevI l k < n := by have := prev_lt l k (by rw [HN.out]; exact hlt); rw [HN.out] at this; exact this
      obtain ⟨v, hv⟩ : ∃ v, vz l k = v := ⟨_, rfl⟩
      obtain ⟨u, hu⟩ : ∃ v, vz l (prevI l k) = v := ⟨_, rfl⟩
      obtain ⟨p, hpp⟩ : ∃ p, prevI l k = p := ⟨_, rfl⟩
      obtain ⟨b, hbb⟩ : ∃ b, swc l k = b := ⟨_, rfl⟩
      rw [hbb] at hst hwl
      rw [hbb]
      rw [hv] at hst c0
      rw [hu] at hst c1
      rw [hpp] at c1 hp hpl
      have HST := Lib.hid hst
      have hki : (0 : Int) ≤ k := by omega
      have hkb : (k : Int) < n := by omega
      have hk1 : IntKind.i64.wrap ((k : Int) + 1) = (k : Int) + 1 := IntWalk.i64_in _ (by omega)
      have hs1 : IntKind.i64.wrap ((k : Int) + (n : Int)) = (k : Int) + (n : Int) := IntWalk.i64_in _ (by omega)
      have hs2 : IntKind.i64.wrap ((k : Int) + (n : Int) - 1) = (k : Int) + (n : Int) - 1 := IntWalk.i64_in _ (by omega)
      have hm : Int.tmod ((k : Int) + (n : Int) - 1) (n : Int) = (p : Int) := by
        have e : (k : Int) + (n : Int) - 1 = ((k + n - 1 : Nat) : Int) := by omega
        rw [Int.tmod_eq_emod_of_nonneg (by omega), e, hp]; rfl
      have hqw : IntKind.i64.wrap (p : Int) = (p : Int) := IntWalk.i64_in _ (by omega)
      have hq0 : (0 : Int) ≤ p := by omega
      have hqn : (p : Int) < n := by omega
      have hn0 : ¬ n = 0 := by omega
      have hn1 : ¬ (n : Int) = 0 := by omega
      have hb1 : IntKind.i64.wrap ((b : Int) + 1) = (b : Int) + 1 := IntWalk.i64_in _ (by omega)
      have HKN : Hid (k < n ∧ n ≤ 1048576) := ⟨hlt, hll⟩
      clear hst hv hu hpp hbb e1 hp hpl hwl hk
      by_cases q : v = u
      · have q1 : (v != u) = false := by simp [q]
        rw [if_pos q] at HST
        clear q
        go_wp2
        go_round
        case rel => exact ⟨k + 1, by omega, by go_num, by rw [HST.out]; rfl⟩
        case measure => simp [intOf]; omega
      · have q1 : (v != u) = true := by simp [q]
        rw [if_neg q] at HST
        clear q
        go_wp2
        go_round
        case rel => exact ⟨k + 1, by omega, by go_num, by rw [HST.out]; rfl⟩
        case measure => simp [intOf]; omega
    · obtain rfl : k = n := by omega
      clear hwl
      go_wp2
      go_ret
      exact ⟨rfl, rfl⟩
end Go.Proofs.YtpjillclladjaaaDoor.Pln
