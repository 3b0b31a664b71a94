
/- The document's strip: Part; the law's own same, and its example. Condition: none. -/

import Derived.Test.YtilkicbokfgjlaaStpJ

namespace Go.Proofs.Ytilkicbokfgjlaa.Stp

open Go.RowKit Go.PlainAid Go.Proofs.Ytilkicbokfgjlaa.Cel

set_option linter.unusedVariables false

set_option linter.unusedSimpArgs false

def RPaRel (X : List RW) (f t : Int) (F : List RW) (w : World) (i v a : Value) (wr : World) : Prop :=
  ∃ (k n : Nat) (A : Option Addr) (c : Nat) (Y : List RW), k ≤ X.length ∧ i = .int .i64 (k : Int) ∧ v = .slice A n c ∧ a = .int .i64 (sumR (X.take k)) ∧ Y.length = n ∧ RX wr A Y ∧ (A = none → c = 0) ∧ OkX Y ∧ partF f t (sumR (X.take k)) (X.drop k) Y = F ∧ Below w.heap.size w wr
def RPartPost (w : World) (F : List RW) (e : Ending) (w' : World) : Prop := ∃ A N c, e = .returned (.slice A N c) ∧ F.length = N ∧ RX w' A F ∧ Below w.heap.size w w'
section

variable {w : World} {A : Option Addr} {c : Nat} {X : List RW}

set_option maxRecDepth 4000 in
set_option maxHeartbeats 6400000 in
theorem rpart_any (h : RX w A X) (ho : OkX X) (N : Nat) (hN : X.length = N) (f t : Int) (hf : -9223372036854775808 ≤ f ∧ f ≤ 9223372036854775807) (ht : -9223372036854775808 ≤ t ∧ t ≤ 9223372036854775807) :
    Calls Try.prog 13 #[.slice A N c, .int .i64 f, .int .i64 t] w (RPartPost w (partF f t 0 X [])) := by
  have HR := Lib.hid h
  have HO := Lib.hid ho
  have HN := Lib.hid hN
  have hl := ho.len
  rw [hN] at hl
  have HLN : Hid (N ≤ 1073741824) := hl
  have HF : Hid (-9223372036854775808 ≤ f ∧ f ≤ 9223372036854775807) := hf
  have HT : Hid (-9223372036854775808 ≤ t ∧ t ≤ 9223372036854775807) := ht
  obtain ⟨F, hF⟩ : ∃ F, partF f t 0 X [] = F := ⟨_, rfl⟩
  rw [hF]
  have HFF := Lib.hid hF
  have HX0 : Hid (RX (w.alloc (.cells #[] 32)) (some ⟨w.heap.size, 0, none⟩) []) := ⟨fun i x h => by simp at h, fun a ha => by obtain rfl := Option.some.inj ha; exact ⟨_, _, heap_alloc_new w _⟩⟩
  have HB0 := Lib.hid (below_al w (.cells #[] 32))
  clear h ho hN hl hf ht hF
  go_enter Try.func13, Try.ntmps13
  go_wp2_with fail
  go_loopw [9, 7, 8] (fun i v a wr => RPaRel X f t F w i v a wr) (fun i _ _ _ => N - (intOf i).toNat)
  case atStart => exact ⟨0, 0, _, 0, [], Nat.zero_le _, rfl, rfl, rfl, rfl, HX0.out, fun e => (by cases e), ok_nil, HFF.out, HB0.out⟩
  case round =>
    obtain ⟨k, n, A2, c2, Y, hk, rfl, rfl, rfl, hYn, hrx, hnc, hoy, hpf, hb⟩ := hrel
    rw [HN.out] at hk
    have HRX := Lib.hid hrx
    have HOY := Lib.hid hoy
    have HB := Lib.hid hb
    have HYN := Lib.hid hYn
    have HNC : Hid (A2 = none → c2 = 0) := hnc
    have HPF := Lib.hid hpf
    clear hrx hoy hb hYn hnc hpf HX0 HB0
    by_cases hlt : k < N
    · obtain ⟨x, hx⟩ : ∃ x, X[k]? = some x := ⟨_, List.getElem?_eq_getElem (by rw [HN.out]; exact hlt)⟩
      obtain ⟨ax, rfl, c1, c2'⟩ := (HR.out.keep HB.out).rat k x hx
      have hxc := HO.out.pos x (List.mem_of_getElem? hx)
      have hsk := sum_take_succ hx
      have hle := sum_take_le HO.out.pos (k + 1)
      have hs0 := sum_take_mono HO.out.pos k
      have hss := HO.out.sum
      have hps := part_step hx f t (sumR (X.take k)) Y
      rw [HPF.out] at hps
      rw [← hsk] at hps
      have h0 : (0 : Int) ≤ k := by omega
      have h1 : (k : Int) < N := by omega
      have hk1 : IntKind.i64.wrap ((k : Int) + 1) = (k : Int) + 1 := IntWalk.i64_in _ (by have := HLN.out; omega)
      have HKN : Hid (k < N) := hlt
      have hF := HF.out
      have hT := HT.out
      have hwe : IntKind.i64.wrap (sumR (X.take k) + x.c) = sumR (X.take (k + 1)) := by rw [hsk]; exact IntWalk.i64_in _ (by omega)
      obtain ⟨en, hen⟩ : ∃ v, sumR (X.take (k + 1)) = v := ⟨_, rfl⟩
      have HEN := Lib.hid hen
      rw [hen] at hwe hps hsk hle
      obtain ⟨sv, hsv⟩ : ∃ v, sumR (X.take k) = v := ⟨_, rfl⟩
      rw [hsv] at hwe hps hsk hs0 ⊢
      obtain ⟨xi, xc⟩ := x
      dsimp only at c1 c2' hxc hsk hwe hps
      clear hx hlt hk hen hsv hss
      by_cases g1 : sv < f
      · by_cases g2 : t < en
        · by_cases g3 : f < t
          · have t1 : decide (sv < f) = true := decide_eq_true (by omega)
            have t2 : decide (t < en) = true := decide_eq_true (by omega)
            have t3 : decide (f < t) = true := decide_eq_true (by omega)
            rw [show max sv f = f by omega, show min en t = t by omega, if_pos (by omega)] at hps
            have HPS := Lib.hid hps
            have hwd : IntKind.i64.wrap (t - f) = t - f := IntWalk.i64_in _ (by omega)
            have HAD : Hid (∀ q, Calls Try.prog 6 #[.slice A2 n c2, .int .i64 xi, .int .i64 (t - f)] (wr.drewN q) (RAddPost (wr.drewN q) Y xi (t - f))) := fun q => radd_any (HRX.out.keep (below_n wr q)) HOY.out HNC.out xi (t - f) n HYN.out
            have HOK := Lib.hid (HOY.out.add xi (t - f))
            clear hps hsk hle hs0 hxc hF hT g1 g2 g3
            go_wp2
            go_quiet (fail)
            have HBQ := Lib.hid (HB.out.trans ((below_n wr nq).mono HB.out.size))
            have HRQ := Lib.hid (HRX.out.keep (below_n wr nq))
            have HAQ := Lib.hid (HAD.out nq)
            have d1 : (wr.drewN nq).cell? (ax.add (k * 2)) = some (.int .i64 xi) := c1
            obtain ⟨W, hW⟩ : ∃ W, wr.drewN nq = W := ⟨_, rfl⟩
            rw [hW] at HBQ HRQ HAQ d1
            rw [hW]
            clear hW HAD c1 c2'
            go_wp2_with (go_at_call 6; refine HAQ.out.mono ?_; rintro e W2 ⟨A5, n5, c5, rfl, hn5, hx5, hb5, hnc5⟩; have HN5 := Lib.hid hn5; have HX5 := Lib.hid hx5; have HB5 := Lib.hid (HBQ.out.trans (hb5.mono HBQ.out.size)); have HC5 : Hid (A5 = none → c5 = 0) := hnc5; clear hn5 hx5 hb5 hnc5)
            go_roundw
            case rel => exact ⟨k + 1, n5, A5, c5, _, by rw [HN.out]; exact HKN.out, by go_num, rfl, by rw [HEN.out], HN5.out, HX5.out, HC5.out, HOK.out, by rw [HEN.out]; exact HPS.out.symm, HB5.out⟩
            case measure => have := HKN.out; simp [intOf]; omega
          · have t1 : decide (sv < f) = true := decide_eq_true (by omega)
            have t2 : decide (t < en) = true := decide_eq_true (by omega)
            have t3 : decide (f < t) = false := decide_eq_false (by omega)
            rw [show max sv f = f by omega, show min en t = t by omega, if_neg (by omega)] at hps
            have HPS := Lib.hid hps
            clear hps hsk hle hs0 hxc hF hT g1 g2 g3
            go_wp2
            go_quiet (fail)
            have HBQ := Lib.hid (HB.out.trans ((below_n wr nq).mono HB.out.size))
            have HRQ := Lib.hid (HRX.out.keep (below_n wr nq))
            obtain ⟨W, hW⟩ : ∃ W, wr.drewN nq = W := ⟨_, rfl⟩
            rw [hW] at HBQ HRQ
            rw [hW]
            clear hW c1 c2'
            go_wp2
            go_roundw
            case rel => exact ⟨k + 1, n, A2, c2, Y, by rw [HN.out]; exact HKN.out, by go_num, rfl, by rw [HEN.out], HYN.out, HRQ.out, HNC.out, HOY.out, by rw [HEN.out]; exact HPS.out.symm, HBQ.out⟩
            case measure => have := HKN.out; simp [intOf]; omega
        · by_cases g3 : f < en
          · have t1 : decide (sv < f) = true := decide_eq_true (by omega)
            have t2 : decide (t < en) = false := decide_eq_false (by omega)
            have t3 : decide (f < en) = true := decide_eq_true (by omega)
            rw [show max sv f = f by omega, show min en t = en by omega, if_pos (by omega)] at hps
            have HPS := Lib.hid hps
            have hwd : IntKind.i64.wrap (en - f) = en - f := IntWalk.i64_in _ (by omega)
            have HAD : Hid (∀ q, Calls Try.prog 6 #[.slice A2 n c2, .int .i64 xi, .int .i64 (en - f)] (wr.drewN q) (RAddPost (wr.drewN q) Y xi (en - f))) := fun q => radd_any (HRX.out.keep (below_n wr q)) HOY.out HNC.out xi (en - f) n HYN.out
            have HOK := Lib.hid (HOY.out.add xi (en - f))
            clear hps hsk hle hs0 hxc hF hT g1 g2 g3
            go_wp2
            go_quiet (fail)
            have HBQ := Lib.hid (HB.out.trans ((below_n wr nq).mono HB.out.size))
            have HRQ := Lib.hid (HRX.out.keep (below_n wr nq))
            have HAQ := Lib.hid (HAD.out nq)
            have d1 : (wr.drewN nq).cell? (ax.add (k * 2)) = some (.int .i64 xi) := c1
            obtain ⟨W, hW⟩ : ∃ W, wr.drewN nq = W := ⟨_, rfl⟩
            rw [hW] at HBQ HRQ HAQ d1
            rw [hW]
            clear hW HAD c1 c2'
            go_wp2_with (go_at_call 6; refine HAQ.out.mono ?_; rintro e W2 ⟨A5, n5, c5, rfl, hn5, hx5, hb5, hnc5⟩; have HN5 := Lib.hid hn5; have HX5 := Lib.hid hx5; have HB5 := Lib.hid (HBQ.out.trans (hb5.mono HBQ.out.size)); have HC5 : Hid (A5 = none → c5 = 0) := hnc5; clear hn5 hx5 hb5 hnc5)
            go_roundw
            case rel => exact ⟨k + 1, n5, A5, c5, _, by rw [HN.out]; exact HKN.out, by go_num, rfl, by rw [HEN.out], HN5.out, HX5.out, HC5.out, HOK.out, by rw [HEN.out]; exact HPS.out.symm, HB5.out⟩
            case measure => have := HKN.out; simp [intOf]; omega
          · have t1 : decide (sv < f) = true := decide_eq_true (by omega)
            have t2 : decide (t < en) = false := decide_eq_false (by omega)
            have t3 : decide (f < en) = false := decide_eq_false (by omega)
            rw [show max sv f = f by omega, show min en t = en by omega, if_neg (by omega)] at hps
            have HPS := Lib.hid hps
            clear hps hsk hle hs0 hxc hF hT g1 g2 g3
            go_wp2
            go_quiet (fail)
            have HBQ := Lib.hid (HB.out.trans ((below_n wr nq).mono HB.out.size))
            have HRQ := Lib.hid (HRX.out.keep (below_n wr nq))
            obtain ⟨W, hW⟩ : ∃ W, wr.drewN nq = W := ⟨_, rfl⟩
            rw [hW] at HBQ HRQ
            rw [hW]
            clear hW c1 c2'
            go_wp2
            go_roundw
            case rel => exact ⟨k + 1, n, A2, c2, Y, by rw [HN.out]; exact HKN.out, by go_num, rfl, by rw [HEN.out], HYN.out, HRQ.out, HNC.out, HOY.out, by rw [HEN.out]; exact HPS.out.symm, HBQ.out⟩
            case measure => have := HKN.out; simp [intOf]; omega
      · by_cases g2 : t < en
        · by_cases g3 : sv < t
          · have t1 : decide (sv < f) = false := decide_eq_false (by omega)
            have t2 : decide (t < en) = true := decide_eq_true (by omega)
            have t3 : decide (sv < t) = true := decide_eq_true (by omega)
            rw [show max sv f = sv by omega, show min en t = t by omega, if_pos (by omega)] at hps
            have HPS := Lib.hid hps
            have hwd : IntKind.i64.wrap (t - sv) = t - sv := IntWalk.i64_in _ (by omega)
            have HAD : Hid (∀ q, Calls Try.prog 6 #[.slice A2 n c2, .int .i64 xi, .int .i64 (t - sv)] (wr.drewN q) (RAddPost (wr.drewN q) Y xi (t - sv))) := fun q => radd_any (HRX.out.keep (below_n wr q)) HOY.out HNC.out xi (t - sv) n HYN.out
            have HOK := Lib.hid (HOY.out.add xi (t - sv))
            clear hps hsk hle hs0 hxc hF hT g1 g2 g3
            go_wp2
            go_quiet (fail)
            have HBQ := Lib.hid (HB.out.trans ((below_n wr nq).mono HB.out.size))
            have HRQ := Lib.hid (HRX.out.keep (below_n wr nq))
            have HAQ := Lib.hid (HAD.out nq)
            have d1 : (wr.drewN nq).cell? (ax.add (k * 2)) = some (.int .i64 xi) := c1
            obtain ⟨W, hW⟩ : ∃ W, wr.drewN nq = W := ⟨_, rfl⟩
            rw [hW] at HBQ HRQ HAQ d1
            rw [hW]
            clear hW HAD c1 c2'
            go_wp2_with (go_at_call 6; refine HAQ.out.mono ?_; rintro e W2 ⟨A5, n5, c5, rfl, hn5, hx5, hb5, hnc5⟩; have HN5 := Lib.hid hn5; have HX5 := Lib.hid hx5; have HB5 := Lib.hid (HBQ.out.trans (hb5.mono HBQ.out.size)); have HC5 : Hid (A5 = none → c5 = 0) := hnc5; clear hn5 hx5 hb5 hnc5)
            go_roundw
            case rel => exact ⟨k + 1, n5, A5, c5, _, by rw [HN.out]; exact HKN.out, by go_num, rfl, by rw [HEN.out], HN5.out, HX5.out, HC5.out, HOK.out, by rw [HEN.out]; exact HPS.out.symm, HB5.out⟩
            case measure => have := HKN.out; simp [intOf]; omega
          · have t1 : decide (sv < f) = false := decide_eq_false (by omega)
            have t2 : decide (t < en) = true := decide_eq_true (by omega)
            have t3 : decide (sv < t) = false := decide_eq_false (by omega)
            rw [show max sv f = sv by omega, show min en t = t by omega, if_neg (by omega)] at hps
            have HPS := Lib.hid hps
            clear hps hsk hle hs0 hxc hF hT g1 g2 g3
            go_wp2
            go_quiet (fail)
            have HBQ := Lib.hid (HB.out.trans ((below_n wr nq).mono HB.out.size))
            have HRQ := Lib.hid (HRX.out.keep (below_n wr nq))
            obtain ⟨W, hW⟩ : ∃ W, wr.drewN nq = W := ⟨_, rfl⟩
            rw [hW] at HBQ HRQ
            rw [hW]
            clear hW c1 c2'
            go_wp2
            go_roundw
            case rel => exact ⟨k + 1, n, A2, c2, Y, by rw [HN.out]; exact HKN.out, by go_num, rfl, by rw [HEN.out], HYN.out, HRQ.out, HNC.out, HOY.out, by rw [HEN.out]; exact HPS.out.symm, HBQ.out⟩
            case measure => have := HKN.out; simp [intOf]; omega
        · by_cases g3 : sv < en
          · have t1 : decide (sv < f) = false := decide_eq_false (by omega)
            have t2 : decide (t < en) = false := decide_eq_false (by omega)
            have t3 : decide (sv < en) = true := decide_eq_true (by omega)
            rw [show max sv f = sv by omega, show min en t = en by omega, if_pos (by omega)] at hps
            have HPS := Lib.hid hps
            have hwd : IntKind.i64.wrap (en - sv) = en - sv := IntWalk.i64_in _ (by omega)
            have HAD : Hid (∀ q, Calls Try.prog 6 #[.slice A2 n c2, .int .i64 xi, .int .i64 (en - sv)] (wr.drewN q) (RAddPost (wr.drewN q) Y xi (en - sv))) := fun q => radd_any (HRX.out.keep (below_n wr q)) HOY.out HNC.out xi (en - sv) n HYN.out
            have HOK := Lib.hid (HOY.out.add xi (en - sv))
            clear hps hsk hle hs0 hxc hF hT g1 g2 g3
            go_wp2
            go_quiet (fail)
            have HBQ := Lib.hid (HB.out.trans ((below_n wr nq).mono HB.out.size))
            have HRQ := Lib.hid (HRX.out.keep (below_n wr nq))
            have HAQ := Lib.hid (HAD.out nq)
            have d1 : (wr.drewN nq).cell? (ax.add (k * 2)) = some (.int .i64 xi) := c1
            obtain ⟨W, hW⟩ : ∃ W, wr.drewN nq = W := ⟨_, rfl⟩
            rw [hW] at HBQ HRQ HAQ d1
            rw [hW]
            clear hW HAD c1 c2'
            go_wp2_with (go_at_call 6; refine HAQ.out.mono ?_; rintro e W2 ⟨A5, n5, c5, rfl, hn5, hx5, hb5, hnc5⟩; have HN5 := Lib.hid hn5; have HX5 := Lib.hid hx5; have HB5 := Lib.hid (HBQ.out.trans (hb5.mono HBQ.out.size)); have HC5 : Hid (A5 = none → c5 = 0) := hnc5; clear hn5 hx5 hb5 hnc5)
            go_roundw
            case rel => exact ⟨k + 1, n5, A5, c5, _, by rw [HN.out]; exact HKN.out, by go_num, rfl, by rw [HEN.out], HN5.out, HX5.out, HC5.out, HOK.out, by rw [HEN.out]; exact HPS.out.symm, HB5.out⟩
            case measure => have := HKN.out; simp [intOf]; omega
          · have t1 : decide (sv < f) = false := decide_eq_false (by omega)
            have t2 : decide (t < en) = false := decide_eq_false (by omega)
            have t3 : decide (sv < en) = false := decide_eq_false (by omega)
            rw [show max sv f = sv by omega, show min en t = en by omega, if_neg (by omega)] at hps
            have HPS := Lib.hid hps
            clear hps hsk hle hs0 hxc hF hT g1 g2 g3
            go_wp2
            go_quiet (fail)
            have HBQ := Lib.hid (HB.out.trans ((below_n wr nq).mono HB.out.size))
            have HRQ := Lib.hid (HRX.out.keep (below_n wr nq))
            obtain ⟨W, hW⟩ : ∃ W, wr.drewN nq = W := ⟨_, rfl⟩
            rw [hW] at HBQ HRQ
            rw [hW]
            clear hW c1 c2'
            go_wp2
            go_roundw
            case rel => exact ⟨k + 1, n, A2, c2, Y, by rw [HN.out]; exact HKN.out, by go_num, rfl, by rw [HEN.out], HYN.out, HRQ.out, HNC.out, HOY.out, by rw [HEN.out]; exact HPS.out.symm, HBQ.out⟩
            case measure => have := HKN.out; simp [intOf]; omega
    · obtain rfl : k = N := by omega
      have hf : X.drop k = [] := List.drop_eq_nil_of_le (by rw [HN.out]; exact Nat.le_refl _)
      rw [hf] at HPF
      have HYF : Hid (Y = F) := HPF.out
      clear hk hlt hf
      go_wp2
      go_ret
      exact ⟨A2, n, c2, rfl, by rw [← HYF.out]; exact HYN.out, by rw [← HYF.out]; exact HRX.out, HB.out⟩
end

theorem eq_row2 (a b c d : Int) (w : World) : (Op.equalIn 10000 28 (.agg #[.int .i64 a, .int .i64 b]) (.agg #[.int .i64 c, .int .i64 d])).run Try.prog w = .ok ((a == c) && (b == d)) w := by
  have hS : Try.prog.underlying 28 = some (.struct (Try.prog.fieldsOf 28)) := by kernel_rfl
  rw [show (10000 : Nat) = 9999 + 1 from rfl, run_equalIn_agg w 9999 28 _ _ hS (by kernel_rfl)]
  simp only [Program.fieldsOf, Try.underlying28]
  cases h1 : (a == c) <;> cases h2 : (b == d) <;> simp [go_sem, h1, h2]
set_option maxRecDepth 4000 in
set_option maxHeartbeats 1600000 in
theorem lsame_any (A D : Option Addr) (ca cd a : Nat) (l : List RW) (w : World) (h1 : RAt w A l) (h2 : RAt w D l) (ha : l.length = a) (hl : a ≤ 1073741824) :
    Calls Try.prog 11 #[.slice A a ca, .slice D a cd] w fun e w' => e = .returned (.bool true) ∧ Below w.heap.size w w' := by
  have HA := Lib.hid ha
  have H1 := Lib.hid h1
  have H2 := Lib.hid h2
  have HL : Hid (a ≤ 1073741824) := hl
  clear h1 h2 ha hl
  have tne : ((a : Int) != (a : Int)) = false := by simp
  go_enter Try.func11, Try.ntmps11
  go_wp2
  go_loopw [13] (fun i wr => ∃ k n : Nat, k ≤ a ∧ i = .int .i64 k ∧ wr = w.drewN n) (fun i _ => a - (intOf i).toNat)
  case atStart => exact ⟨0, 0, Nat.zero_le _, rfl, rfl⟩
  case round =>
    obtain ⟨k, n, hk, rfl, hw⟩ := hrel
    have HW := Lib.hid hw
    by_cases hlt : k < a
    · obtain ⟨x, hx⟩ : ∃ x, l[k]? = some x := ⟨_, List.getElem?_eq_getElem (by rw [HA.out]; exact hlt)⟩
      obtain ⟨ax, rfl, c1, c2⟩ := H1.out k x hx
      obtain ⟨ay, rfl, c3, c4⟩ := H2.out k x hx
      have c1' : wr.cell? (ax.add (k * 2)) = some (.int .i64 x.i) := by rw [hw]; exact c1
      have c2' : wr.cell? ⟨(ax.add (k * 2)).block, (ax.add (k * 2)).off + 1, none⟩ = some (.int .i64 x.c) := by rw [hw]; exact c2
      have c3' : wr.cell? (ay.add (k * 2)) = some (.int .i64 x.i) := by rw [hw]; exact c3
      have c4' : wr.cell? ⟨(ay.add (k * 2)).block, (ay.add (k * 2)).off + 1, none⟩ = some (.int .i64 x.c) := by rw [hw]; exact c4
      have heq : ∀ wx : World, (Op.equalIn 10000 28 (.agg #[.int .i64 x.i, .int .i64 x.c]) (.agg #[.int .i64 x.i, .int .i64 x.c])).run Try.prog wx = .ok true wx := fun wx => by rw [eq_row2]; simp
      have hki : (0 : Int) ≤ k := by omega
      have hka : (k : Int) < a := by omega
      have hk1 : IntKind.i64.wrap ((k : Int) + 1) = (k : Int) + 1 := IntWalk.i64_in _ (by have := HL.out; omega)
      clear hw hx c1 c2 c3 c4 H1 H2
      go_wp2
      go_quiet (fail)
      go_wp2
      go_roundw
      case rel => exact ⟨k + 1, n + nq, by omega, by go_num, by rw [HW.out, World.drewN_drewN]⟩
      case measure => simp [intOf]; omega
    · obtain rfl : k = a := by omega
      clear hk hlt
      go_wp2
      go_ret
      exact ⟨rfl, by first | exact below_n _ _ | (rw [HW.out]; exact below_n _ _)⟩
end Go.Proofs.Ytilkicbokfgjlaa.Stp
