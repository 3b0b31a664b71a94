/- Plans as the document makes them: how many ticks are given, whose each tick is, who is late (countwheelref32's given, Make, Late). Condition: at most 1,000 needs, right ones, a frame of 1 to 4,096. -/
import Derived.Test.YtpjillclladjaaaDoorMg31
import Derived.Test.YtpjillclladjaaaDoorMg33
import Derived.BigQuiet
namespace Go.Proofs.YtpjillclladjaaaDoor.Pln

open Go.RowKit Go.PlainAid Go.Proofs.YtpjillclladjaaaDoor.Oct Go.Proofs.YtpjillclladjaaaDoor.Flt Go.Proofs.YtpjillclladjaaaDoor.Rdr Go.Proofs.YtpjillclladjaaaDoor.Args Go.Proofs.YtpjillclladjaaaDoor.Win Go.Proofs.YtpjillclladjaaaDoor.Nee

open Go.Proofs.YtpjillclladjaaaDoor.Act (A3 ActsAt I64 Wide row_beside row_base)

set_option linter.unusedVariables false

set_option linter.unusedSimpArgs false

theorem gvn_take (ws : List Int) (s : Int) (f k : Nat) (hf : f ≤ k) (hk : k < ws.length) : gvn (ws.take (k + 1)) s f = gvn (ws.take k) s f + (if vz ws k = s then 1 else 0) := by
  rw [List.take_add_one, vz_at hk]
  exact gvn_snoc _ _ _ _ (by rw [List.length_take]; omega)
theorem gvn_le (ws : List Int) (s : Int) (f : Nat) : gvn ws s f ≤ ws.length := by
  unfold gvn
  have := cntZ_le s (ws.drop f)
  rw [List.length_drop] at this
  omega
def GnRel (ws : List Int) (s : Int) (f n : Nat) (v t : Value) : Prop := ∃ k : Nat, f ≤ k ∧ k ≤ n ∧ t = .int .i64 (k : Int) ∧ v = .int .i64 (gvn (ws.take k) s f : Nat)
set_option maxRecDepth 8000 in
set_option maxHeartbeats 3200000 in
theorem given_any (P : Option Addr) (pc n : Nat) (ws : List Int) (s : Int) (f : Nat) (W : World) (h : WAt W P ws) (hn : ws.length = n) (hl : n ≤ 1048576) (hf : f ≤ n) :
    Calls Tryd.prog 42 #[.slice P n pc, .int .i64 s, .int .i64 (f : Int)] W fun e w' => e = .returned (.int .i64 (gvn ws s f : Nat)) ∧ w' = W := by
  have HW := Lib.hid h
  have HN := Lib.hid hn
  have HL : Hid (n ≤ 1048576) := hl
  have HS0 : Hid (GnRel ws s f n (.int .i64 0) (.int .i64 (f : Int))) := ⟨f, Nat.le_refl _, hf, rfl, by
    have : gvn (ws.take f) s f = 0 := by unfold gvn; rw [List.drop_eq_nil_of_le (by rw [List.length_take]; omega)]; rfl
    rw [this]; rfl⟩
  obtain ⟨g, hg⟩ : ∃ g, gvn ws s f = g := ⟨_, rfl⟩
  have HG := Lib.hid hg
  rw [hg]
  clear h hn hl hf hg
  go_enter Tryd.func42, Tryd.ntmps42
  go_wp2
  go_loop [7, 8] (fun v t => GnRel ws s f n v t) (fun _ t => n - (intOf t).toNat)
  case atStart => exact HS0.out
  case round =>
    obtain ⟨k, hfk, hk, rfl, rfl⟩ := hrel
    have hll := HL.out
    by_cases hlt : k < n
    · obtain ⟨y, rfl, c0⟩ := HW.out k (by rw [HN.out]; exact hlt)
      have hst := gvn_take ws s f k hfk (by rw [HN.out]; exact hlt)
      have hle := gvn_le (ws.take k) s f
      rw [List.length_take] at hle
      obtain ⟨v, hv⟩ : ∃ v, vz ws k = v := ⟨_, rfl⟩
      obtain ⟨b, hb⟩ : ∃ b, gvn (ws.take k) s f = b := ⟨_, rfl⟩
      rw [hv, hb] at hst
      rw [hv] at c0
      rw [hb] at hle
      rw [hb]
      have HST := Lib.hid hst
      have hki : (0 : Int) ≤ k := by omega
      have hkb : (k : Int) < n := by omega
      have hk1 : IntKind.i64.wrap ((k : Int) + 1) = (k : Int) + 1 := IntWalk.i64_in _ (by omega)
      have hb1 : IntKind.i64.wrap ((b : Int) + 1) = (b : Int) + 1 := IntWalk.i64_in _ (by omega)
      clear hst hv hb hle hk
      by_cases q : v = s
      · have q1 : (v == s) = true := by simp [q]
        rw [if_pos q] at HST
        clear q
        go_wp2
        go_round
        case rel => exact ⟨k + 1, by omega, by omega, by go_num, by rw [HST.out]; rfl⟩
        case measure => simp [intOf]; omega
      · have q1 : (v == s) = false := by simp [q]
        rw [if_neg q] at HST
        clear q
        go_wp2
        go_round
        case rel => exact ⟨k + 1, by omega, by omega, by go_num, by rw [HST.out]; rfl⟩
        case measure => simp [intOf]; omega
    · obtain rfl : k = n := by omega
      rw [List.take_of_length_le (by rw [HN.out]; exact Nat.le_refl _), HG.out]
      go_wp2
      go_ret
      exact ⟨rfl, rfl⟩
/-- Where a period begins, by a quotient. -/
theorem div_from (t : Nat) {p : Int} (hp : 1 ≤ p) (ht : t ≤ 4096) : ∃ q : Int, Int.tdiv (t : Int) p = q ∧ q * p = (fromN t p : Int) ∧ 0 ≤ q ∧ q ≤ 4096 ∧ (fromN t p : Int) ≤ t := by
  obtain ⟨P, rfl⟩ : ∃ P : Nat, p = (P : Int) := ⟨p.toNat, by omega⟩
  have h := from_div t (P : Int)
  rw [Int.toNat_natCast] at h
  have h2 := Nat.div_le_self t P
  have h3 := from_le t (P : Int)
  have h4 : Int.tdiv (t : Int) (P : Int) = ((t / P : Nat) : Int) := rfl
  obtain ⟨q, hq⟩ : ∃ q, t / P = q := ⟨_, rfl⟩
  rw [hq] at h h2 h4
  refine ⟨(q : Int), h4, ?_, by omega, by omega, by omega⟩
  rw [← h, Int.natCast_mul]
def RmI (l : List A3) (t n : Nat) (W0 : World) (b i : Value) (W : World) : Prop :=
  ∃ k : Nat, k ≤ n ∧ i = .int .i64 (k : Int) ∧ b = .int .i64 (bstR l t (begR l t (runR l t).1) k) ∧ Below W0.heap.size W0 W
def RmO (l : List A3) (fr : Nat) (w : World) (v t : Value) (W : World) : Prop :=
  ∃ (k : Nat) (A : Option Addr) (c : Nat), k ≤ fr ∧ t = .int .i64 (k : Int) ∧ v = .slice A k c ∧ W.ownsRow w.heap.size 3 1 (.slice A k c) k ((runR l k).2.map (Value.int .i64)) ∧ Below w.heap.size w W
set_option maxRecDepth 8000 in
set_option maxHeartbeats 12800000 in
theorem rmake_any (P : Option Addr) (pc n fr : Nat) (l : List A3) (w : World) (h1 : ActsAt w P l) (hl : l.length = n) (hl2 : n ≤ 1000) (hf : 1 ≤ fr ∧ fr ≤ 4096) (hp : PerOk l) (hi : IdsOk l) :
    Calls Tryd.prog 14 #[.int .i64 (fr : Int), .slice P n pc] w fun e w' => ∃ A c, e = .returned (.slice A fr c) ∧ w'.ownsRow w.heap.size 3 1 (.slice A fr c) fr ((runR l fr).2.map (Value.int .i64)) ∧ Below w.heap.size w w' := by
  obtain ⟨i1, hi1, hy0, hy1, hy2⟩ := info_parts infoInt
  have HACT := Lib.hid (fun W (b : Below w.heap.size w W) => h1.kept b)
  have HL := Lib.hid hl
  have HL2 : Hid (n ≤ 1000) := hl2
  have HF : Hid (1 ≤ fr ∧ fr ≤ 4096) := hf
  have HP := Lib.hid hp
  have HLK := Lib.hid (link l hp.nd hi)
  have hb0 : Below w.heap.size w (w.alloc (.cells #[] 3)) := (Below.refl _ _).alloc (Nat.le_refl _) _
  have HS0 : Hid (RmO l fr w (.slice (some ⟨w.heap.size, 0, none⟩) 0 0) (.int .i64 0) (w.alloc (.cells #[] 3))) := ⟨0, some ⟨w.heap.size, 0, none⟩, 0, Nat.zero_le _, rfl, rfl, World.ownsRow_lit w #[] 0 (Nat.le_refl _) (Nat.zero_le _) rfl, hb0⟩
  clear h1 hl hl2 hf hp hi hb0
  go_enter Tryd.func14, Tryd.ntmps14
  go_wp2_with fail
  go_loopw [5, 6] (fun v t W => RmO l fr w v t W) (fun _ t _ => fr - (intOf t).toNat)
  case atStart => exact HS0.out
  case round =>
    obtain ⟨W0, hW0⟩ : ∃ X, wr = X := ⟨_, rfl⟩
    rw [hW0] at hrel
    rw [hW0]
    clear hW0 wr HS0
    obtain ⟨t, A, c, htk, rfl, rfl, ho, hb⟩ := hrel
    have HO := Lib.hid ho
    have HB := Lib.hid hb
    have hff := HF.out
    clear ho hb
    by_cases hlt : t < fr
    · have hti : (0 : Int) ≤ t := by omega
      have htb : (t : Int) < fr := by omega
      have ht1 : IntKind.i64.wrap ((t : Int) + 1) = (t : Int) + 1 := IntWalk.i64_in _ (by omega)
      have HTF : Hid (t < fr ∧ fr ≤ 4096) := ⟨hlt, hff.2⟩
      have HSI : Hid (RmI l t n W0 (.int .i64 (-1)) (.int .i64 0) W0) := ⟨0, Nat.zero_le _, rfl, rfl, Below.refl _ _⟩
      clear htk hlt hff
      go_wp2_with fail
      go_loopw [7, 8] (fun b i W => RmI l t n W0 b i W) (fun _ i _ => n - (intOf i).toNat)
      case atStart => exact HSI.out
      case round =>
        obtain ⟨W1, hW1⟩ : ∃ X, wr = X := ⟨_, rfl⟩
        rw [hW1] at hrel
        rw [hW1]
        clear hW1 wr HSI
        obtain ⟨k, hk, rfl, rfl, hb1⟩ := hrel
        have HB1 := Lib.hid hb1
        have HBW := Lib.hid (HB.out.trans (hb1.mono HB.out.size))
        have hll := HL2.out
        clear hb1
        by_cases hkn : k < n
        · have hkl : k < l.length := by rw [HL.out]; exact hkn
          obtain ⟨h1, h2, h3, h4⟩ := HP.out k hkl
          obtain ⟨ax, rfl, g0, g1, g2⟩ := HACT.out W1 HBW.out k _ (nd_at hkl)
          have hlk := (HLK.out t k hkl).1
          have hst : bstR l t (begR l t (runR l t).1) (k + 1) = if 0 < begR l t (runR l t).1 k ∧ (bstR l t (begR l t (runR l t).1) k < 0 ∨ endZ t (nd l k).p < endZ t (nd l (bstR l t (begR l t (runR l t).1) k).toNat).p) then (k : Int) else bstR l t (begR l t (runR l t).1) k := rfl
          have hrg := bst_range l t (begR l t (runR l t).1) k
          have he1 := end_from t h1
          obtain ⟨qd, hd1, hd2, hd3, hd4, hd5⟩ := div_from t h1 (by have := HTF.out; omega)
          obtain ⟨F1, hF1⟩ : ∃ F, fromN t (nd l k).p = F := ⟨_, rfl⟩
          have hFt : F1 ≤ t := by rw [← hF1]; exact from_le _ _
          rw [hF1] at hlk he1 hd2 hd5
          obtain ⟨x, hx⟩ : ∃ x, nd l k = x := ⟨_, rfl⟩
          obtain ⟨rk, hrk⟩ : ∃ x, begR l t (runR l t).1 k = x := ⟨_, rfl⟩
          rw [hx, hrk] at hst hlk
          rw [hx] at h1 h2 h3 h4 g0 g1 g2 he1 hd1 hd2
          obtain ⟨s, p, a⟩ := x
          dsimp only at hst hlk h1 h2 h3 h4 g0 g1 g2 he1 hd1 hd2
          obtain ⟨gv, hgv⟩ : ∃ g, gvn (runR l t).2 s F1 = g := ⟨_, rfl⟩
          rw [hgv] at hlk
          have hki : (0 : Int) ≤ k := by omega
          have hkb : (k : Int) < n := by omega
          have hk1 : IntKind.i64.wrap ((k : Int) + 1) = (k : Int) + 1 := IntWalk.i64_in _ (by omega)
          have hp0 : ¬ p = 0 := by omega
          have hp1 : (p == 0) = false := by simp [hp0]
          have hdw : IntKind.i64.wrap qd = qd := IntWalk.i64_in _ (by omega)
          have hdm : IntKind.i64.wrap (qd * p) = (F1 : Int) := by rw [hd2]; exact IntWalk.i64_in _ (by have := HTF.out; omega)
          have HGV : Hid (∀ W, Below W1.heap.size W1 W → Calls Tryd.prog 42 #[.slice A t c, .int .i64 s, .int .i64 (F1 : Int)] W fun e w' => e = .returned (.int .i64 (gv : Nat)) ∧ w' = W) := fun W b => by
            rw [← hgv]
            exact given_any A c t (runR l t).2 s F1 W (wat_own (owns_kept HO.out (HB1.out.trans (b.mono HB1.out.size))) (run_len _ _)) (run_len _ _) (by have := HTF.out; omega) hFt
          have HNX : Hid (∀ W z, bstR l t (begR l t (runR l t).1) (k + 1) = z → Below W0.heap.size W0 W → RmI l t n W0 (.int .i64 z) (.int .i64 ((k : Int) + 1)) W) := fun W z h1 h2 => ⟨k + 1, by omega, by go_num, by rw [h1], h2⟩
          have HKN : Hid (k < n) := hkn
          have HST := Lib.hid hst
          have HRG := Lib.hid hrg
          have HE1 := Lib.hid he1
          have HD2 : Hid (∀ q, Below W1.heap.size W1 (W1.drewN q)) := fun q => ⟨rfl, rfl, rfl, Nat.le_refl _, fun _ _ => rfl⟩
          clear hst hrg he1 hF1 hx hrk hgv hd2 hd3 hd4 hd5 hk
          go_wp2_with fail
          go_quiet (fail)
          obtain ⟨W2, hW2⟩ : ∃ X, W1.drewN nq = X := ⟨_, rfl⟩
          have HB2 : Hid (Below W1.heap.size W1 W2) := by show Below _ _ _; rw [← hW2]; exact HD2.out _
          have HB02 : Hid (Below W0.heap.size W0 W2) := HB1.out.trans (HB2.out.mono HB1.out.size)
          have r0 := (HB2.out.cell (Go.block_lt_of_cell g0)).trans g0
          have r1 := (HB2.out.cell (Go.block_lt_of_cell g1)).trans g1
          have r2 := (HB2.out.cell (Go.block_lt_of_cell g2)).trans g2
          have HGQ : Hid (∀ q, Calls Tryd.prog 42 #[.slice A t c, .int .i64 s, .int .i64 (F1 : Int)] (W2.drewN q) fun e w' => e = .returned (.int .i64 (gv : Nat)) ∧ w' = W2.drewN q) := fun q => HGV.out _ (HB2.out.trans ⟨rfl, rfl, rfl, Nat.le_refl _, fun _ _ => rfl⟩)
          rw [hW2]
          clear hW2 g0 g1 g2 nq
          by_cases hge : a ≤ (gv : Int)
          · have HZ : Hid (bstR l t (begR l t (runR l t).1) (k + 1) = bstR l t (begR l t (runR l t).1) k) := by show _ = _; rw [HST.out, if_neg (fun h => by omega)]
            obtain ⟨bz, hbz⟩ : ∃ z, bstR l t (begR l t (runR l t).1) k = z := ⟨_, rfl⟩
            rw [hbz] at HZ
            rw [hbz]
            clear hbz
            go_wp2_with fail
            go_quiet (first | (go_at_call 42; exact Calls.quiet_of_same (HGQ.out _)) | fail)
            go_wp2
            go_roundw
            case rel => exact HNX.out _ _ HZ.out ⟨HB02.out.os, HB02.out.tape, HB02.out.output, HB02.out.size, HB02.out.block⟩
            case measure => have := HKN.out; simp [intOf]; omega
          · have hrp : 0 < rk := by omega
            rcases HRG.out with e | ⟨m, hm, e⟩
            · have HZ : Hid (bstR l t (begR l t (runR l t).1) (k + 1) = (k : Int)) := by show _ = _; rw [HST.out, e, if_pos ⟨hrp, .inl (by omega)⟩]
              rw [e]
              clear e hrp hlk
              go_wp2_with fail
              go_quiet (first | (go_at_call 42; exact Calls.quiet_of_same (HGQ.out _)) | fail)
              go_wp2_with fail
              go_quiet (fail)
              go_wp2
              go_roundw
              case rel => exact HNX.out _ _ HZ.out ⟨HB02.out.os, HB02.out.tape, HB02.out.output, HB02.out.size, HB02.out.block⟩
              case measure => have := HKN.out; simp [intOf]; omega
            · have hml : m < l.length := by omega
              obtain ⟨u1, u2, u3, u4⟩ := HP.out m hml
              obtain ⟨ay, ey, f0, f1, f2⟩ := HACT.out W2 (HBW.out.trans (HB2.out.mono HBW.out.size)) m _ (nd_at hml)
              obtain rfl := Option.some.inj ey
              have he2 := end_from t u1
              obtain ⟨qe, hd1', hd2, hd3, hd4, hd5⟩ := div_from t u1 (by have := HTF.out; omega)
              obtain ⟨F2, hF2⟩ : ∃ F, fromN t (nd l m).p = F := ⟨_, rfl⟩
              rw [hF2] at he2 hd2 hd5
              have HZ : Hid (∀ z, (z = if (F1 : Int) + p < (F2 : Int) + (nd l m).p then (k : Int) else (m : Int)) → bstR l t (begR l t (runR l t).1) (k + 1) = z) := fun z hz => by
                rw [HST.out, e, show ((m : Int)).toNat = m by omega, HE1.out, he2, hz]
                by_cases c : (F1 : Int) + p < (F2 : Int) + (nd l m).p
                · rw [if_pos ⟨hrp, .inr c⟩, if_pos c]
                · rw [if_neg (fun h => by rcases h.2 with h5 | h5 <;> omega), if_neg c]
              obtain ⟨p2, hp2⟩ : ∃ z, (nd l m).p = z := ⟨_, rfl⟩
              rw [hp2] at u1 u2 f1 hd1' hd2 HZ
              rw [e]
              have hmi : (0 : Int) ≤ m := by omega
              have hmb : (m : Int) < n := by omega
              have hm0 : decide ((m : Int) < 0) = false := decide_eq_false (by omega)
              have hq0 : ¬ p2 = 0 := by omega
              have hq1 : (p2 == 0) = false := by simp [hq0]
              have hew : IntKind.i64.wrap qe = qe := IntWalk.i64_in _ (by omega)
              have hem : IntKind.i64.wrap (qe * p2) = (F2 : Int) := by rw [hd2]; exact IntWalk.i64_in _ (by have := HTF.out; omega)
              have hs1 : IntKind.i64.wrap ((F1 : Int) + p) = (F1 : Int) + p := IntWalk.i64_in _ (by have := HTF.out; omega)
              have hs2 : IntKind.i64.wrap ((F2 : Int) + p2) = (F2 : Int) + p2 := IntWalk.i64_in _ (by have := HTF.out; omega)
              clear e hrp hlk hml u2 u3 u4 f0 f2 he2 hd2 hd3 hd4 hd5 hF2 hp2 hm
              go_wp2_with fail
              go_quiet (first | (go_at_call 42; exact Calls.quiet_of_same (HGQ.out _)) | fail)
              go_wp2_with fail
              have f1' : (W2.drewN nq).cell? ⟨(ax.add (m * 3)).block, (ax.add (m * 3)).off + 1, none⟩ = some (.int .i64 p2) := f1
              have r1' : (W2.drewN nq).cell? ⟨(ax.add (k * 3)).block, (ax.add (k * 3)).off + 1, none⟩ = some (.int .i64 p) := r1
              by_cases cE : (F1 : Int) + p < (F2 : Int) + p2
              · have HZ1 := Lib.hid (HZ.out (k : Int) (by rw [if_pos cE]))
                go_quiet (fail)
                go_wp2
                go_roundw
                case rel => exact HNX.out _ _ HZ1.out ⟨HB02.out.os, HB02.out.tape, HB02.out.output, HB02.out.size, HB02.out.block⟩
                case measure => have := HKN.out; simp [intOf]; omega
              · have HZ1 := Lib.hid (HZ.out (m : Int) (by rw [if_neg cE]))
                go_quiet (fail)
                go_wp2
                go_roundw
                case rel => exact HNX.out _ _ HZ1.out ⟨HB02.out.os, HB02.out.tape, HB02.out.output, HB02.out.size, HB02.out.block⟩
                case measure => have := HKN.out; simp [intOf]; omega
        · obtain rfl : k = n := by omega
          have hbe : bstR l t (begR l t (runR l t).1) k = bestR l t (runR l t).1 := by unfold bestR; rw [HL.out]
          rw [hbe]
          have hsp := bst_range l t (begR l t (runR l t).1) k
          rw [hbe] at hsp
          have hr2 : (runR l (t + 1)).2 = (runR l t).2 ++ [idR l (bestR l t (runR l t).1)] := rfl
          obtain ⟨di, hdi⟩ : ∃ d, idR l (bestR l t (runR l t).1) = d := ⟨_, rfl⟩
          rw [hdi] at hr2
          have hb4 : Below W1.heap.size W1 (W1.alloc (.cells #[.int .i64 di] 3)) := (Below.refl _ _).alloc (Nat.le_refl _) _
          have HO4 := Lib.hid (owns_kept (owns_kept HO.out HB1.out) hb4)
          have HBW4 := Lib.hid (HBW.out.trans (hb4.mono HBW.out.size))
          have HN4 := Lib.hid (heap_alloc_new W1 (.cells #[.int .i64 di] 3))
          have HR2 := Lib.hid hr2
          have HFIN : Hid (∀ A5 c5 W5, W5.ownsRow w.heap.size 3 1 (.slice A5 (t + 1) c5) (t + 1) ((runR l t).2.map (Value.int .i64) ++ [.int .i64 di]) → Below w.heap.size w W5 → RmO l fr w (.slice A5 (t + 1) c5) (.int .i64 ((t : Int) + 1)) W5) := fun A5 c5 W5 h1 h2 => ⟨t + 1, A5, c5, by have := HTF.out; omega, by go_num, rfl, by rw [HR2.out, List.map_append]; exact h1, h2⟩
          clear hbe hr2 hb4 hk hkn
          rcases hsp with e | ⟨m, hm, e⟩
          · rw [e] at hdi
            rw [e]
            obtain rfl : di = -1 := by rw [← hdi]; unfold idR; rw [if_pos (by omega)]
            clear hdi e
            go_wp2_with (at_builtin; refine wpList_append_own _ rfl _ _ 24 rfl w.heap.size 3 i1 (.int .i64 0) 1 8 Tryd.underlying24 hi1 hy0 hy1 hy2 rfl (by decide) _ t _ rfl HO4.out ⟨W1.heap.size, 0, none⟩ 1 1 [.int .i64 (-1)] rfl rfl ?c1 ?c2 ?c3 ?c4 ?c5 ?_)
            case c1 =>
              intro i u hi
              have e : (Addr.mk W1.heap.size 0 none).add i = ⟨W1.heap.size, i, none⟩ := by cases i <;> simp [Addr.add]
              rw [e, cell_of_row _ _ _ _ _ _ HN4.out, ← hi]
              simp
            case c2 => intro u hu; simp at hu; rw [hu]; rfl
            case c3 => have := HTF.out; unfold maxLen; omega
            case c4 => have := HTF.out; omega
            case c5 => first | exact HBW4.out.size | (simpa using HBW4.out.size)
            intro v' W5 ho5 hg5 _
            obtain ⟨A5, c5, hv5, _⟩ := own_slice1 ho5
            subst hv5
            have HO5 := Lib.hid ho5
            have HB5 : Hid (Below w.heap.size w W5) := HBW4.out.grown hg5 HBW4.out.size (fun q hq => (HO4.out.lt q hq).1)
            clear ho5 hg5 HO4 HBW4 HN4
            go_wp2
            go_roundw
            case rel => exact HFIN.out _ _ _ HO5.out HB5.out
            case measure => have := HTF.out; simp [intOf]; omega
          · rw [e] at hdi
            rw [e]
            obtain ⟨ax, rfl, g0, g1, g2⟩ := HACT.out W1 HBW.out m _ (nd_at (show m < l.length by rw [HL.out]; exact hm))
            have hsm : (nd l m).s = di := by rw [← hdi]; unfold idR; rw [if_neg (by omega)]; rfl
            rw [hsm] at g0
            have hmi : (0 : Int) ≤ m := by omega
            have hmb : (m : Int) < k := by omega
            have hm0 : decide ((m : Int) < 0) = false := decide_eq_false (by omega)
            clear hdi e hsm g1 g2
            go_wp2_with (at_builtin; refine wpList_append_own _ rfl _ _ 24 rfl w.heap.size 3 i1 (.int .i64 0) 1 8 Tryd.underlying24 hi1 hy0 hy1 hy2 rfl (by decide) _ t _ rfl HO4.out ⟨W1.heap.size, 0, none⟩ 1 1 [.int .i64 di] rfl rfl ?d1 ?d2 ?d3 ?d4 ?d5 ?_)
            case d1 =>
              intro i u hi
              have e : (Addr.mk W1.heap.size 0 none).add i = ⟨W1.heap.size, i, none⟩ := by cases i <;> simp [Addr.add]
              rw [e, cell_of_row _ _ _ _ _ _ HN4.out, ← hi]
              simp
            case d2 => intro u hu; simp at hu; rw [hu]; rfl
            case d3 => have := HTF.out; unfold maxLen; omega
            case d4 => have := HTF.out; omega
            case d5 => first | exact HBW4.out.size | (simpa using HBW4.out.size)
            intro v' W5 ho5 hg5 _
            obtain ⟨A5, c5, hv5, _⟩ := own_slice1 ho5
            subst hv5
            have HO5 := Lib.hid ho5
            have HB5 : Hid (Below w.heap.size w W5) := HBW4.out.grown hg5 HBW4.out.size (fun q hq => (HO4.out.lt q hq).1)
            clear ho5 hg5 HO4 HBW4 HN4
            go_wp2
            go_roundw
            case rel => exact HFIN.out _ _ _ HO5.out HB5.out
            case measure => have := HTF.out; simp [intOf]; omega
    · obtain rfl : t = fr := by omega
      have HOF := Lib.hid HO.out
      have HBF := Lib.hid HB.out
      clear HO HB
      go_wp2
      go_ret
      exact ⟨A, c, rfl, HOF.out, HBF.out⟩
end Go.Proofs.YtpjillclladjaaaDoor.Pln
