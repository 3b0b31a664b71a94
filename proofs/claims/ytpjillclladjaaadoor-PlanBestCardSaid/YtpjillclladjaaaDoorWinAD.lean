
/- Two rows of windows are one, as the document tells it; a row of the call's own as windows. Condition: at most 2 to the power 40 windows. -/

import Derived.Test.YtpjillclladjaaaDoorWinD

import Derived.Laws.OwnMore

namespace Go.Proofs.YtpjillclladjaaaDoor.Win

open Go.RowKit Go.PlainAid Go.Proofs.YtpjillclladjaaaDoor.Oct Go.Proofs.YtpjillclladjaaaDoor.Flt Go.Proofs.YtpjillclladjaaaDoor.Rdr Go.Proofs.YtpjillclladjaaaDoor.Args

open Go.Proofs.YtpjillclladjaaaDoor.Act (A3 actL flatA flatA_len flatA_get flatA_snoc ActsAt I64 Wide row_beside)

set_option linter.unusedVariables false

set_option linter.unusedSimpArgs false

theorem eqWin (a b c : Int) (w : World) : (Op.equalIn 10000 82 (.agg #[.int .i64 a, .int .i64 b, .int .i64 c]) (.agg #[.int .i64 a, .int .i64 b, .int .i64 c])).run Tryd.prog w = .ok true w := by
  have hS : Tryd.prog.underlying 82 = some (.struct (Tryd.prog.fieldsOf 82)) := by kernel_rfl
  rw [show (10000 : Nat) = 9999 + 1 from rfl, run_equalIn_agg w 9999 82 _ _ hS (by kernel_rfl)]
  simp only [Program.fieldsOf, Tryd.underlying82]
  go_simp
set_option maxRecDepth 4000 in
set_option maxHeartbeats 1600000 in
theorem same13_any (A B : Option Addr) (ca cb : Nat) (l : List A3) (w : World) (h1 : ActsAt w A l) (h2 : ActsAt w B l) (hl : l.length ≤ 1099511627776) :
    Calls Tryd.prog 17 #[.slice A l.length ca, .slice B l.length cb] w fun e w' => e = .returned (.bool true) ∧ ∃ n, w' = w.drewN n := by
  obtain ⟨a, ha⟩ : ∃ a, l.length = a := ⟨_, rfl⟩
  have HA := Lib.hid ha
  rw [ha] at hl
  rw [ha]
  have H1 := Lib.hid h1
  have H2 := Lib.hid h2
  clear h1 h2 ha
  have tne : ((a : Int) != (a : Int)) = false := by simp
  go_enter Tryd.func17, Tryd.ntmps17
  go_wp2
  go_loopw [5] (fun i wr => ∃ k n : Nat, k ≤ a ∧ i = .int .i64 k ∧ wr = w.drewN n) (fun i _ => a - (intOf i).toNat)
  case atStart => exact ⟨0, 0, Nat.zero_le _, rfl, rfl⟩
  case round =>
    obtain ⟨k, n, hk, rfl, hw⟩ := hrel
    have HW := Lib.hid hw
    by_cases hlt : k < a
    · obtain ⟨x, hx⟩ : ∃ x, l[k]? = some x := ⟨_, List.getElem?_eq_getElem (by rw [HA.out]; exact hlt)⟩
      obtain ⟨ax, rfl, c1, c2, c3⟩ := H1.out k x hx
      obtain ⟨ay, rfl, c4, c5, c6⟩ := H2.out k x hx
      have c1' : wr.cell? (ax.add (k * 3)) = some (.int .i64 x.s) := by rw [hw]; exact c1
      have c2' : wr.cell? ⟨(ax.add (k * 3)).block, (ax.add (k * 3)).off + 1, none⟩ = some (.int .i64 x.p) := by rw [hw]; exact c2
      have c3' : wr.cell? ⟨(ax.add (k * 3)).block, (ax.add (k * 3)).off + 2, none⟩ = some (.int .i64 x.a) := by rw [hw]; exact c3
      have c4' : wr.cell? (ay.add (k * 3)) = some (.int .i64 x.s) := by rw [hw]; exact c4
      have c5' : wr.cell? ⟨(ay.add (k * 3)).block, (ay.add (k * 3)).off + 1, none⟩ = some (.int .i64 x.p) := by rw [hw]; exact c5
      have c6' : wr.cell? ⟨(ay.add (k * 3)).block, (ay.add (k * 3)).off + 2, none⟩ = some (.int .i64 x.a) := by rw [hw]; exact c6
      have heq : ∀ wx : World, (Op.equalIn 10000 82 (.agg #[.int .i64 x.s, .int .i64 x.p, .int .i64 x.a]) (.agg #[.int .i64 x.s, .int .i64 x.p, .int .i64 x.a])).run Tryd.prog wx = .ok true wx := fun wx => eqWin _ _ _ wx
      have hki : (0 : Int) ≤ k := by omega
      have hka : (k : Int) < a := by omega
      clear hw hx c1 c2 c3 c4 c5 c6 H1 H2
      go_wp2
      go_quiet (fail)
      go_wp2
      go_roundw
      case rel => exact ⟨k + 1, n + nq, by omega, by go_num, by rw [HW.out, World.drewN_drewN]⟩
      case measure => simp [intOf]; omega
    · obtain rfl : k = a := by omega
      clear hw
      go_wp2
      go_ret
      exact ⟨rfl, n, HW.out⟩
theorem own_wins {w : World} {B G c : Nat} {l : List A3} (h : w.ownsRow B 82 3 (.slice (some ⟨G, 0, none⟩) l.length c) l.length (flatA l)) : ActsAt w (some ⟨G, 0, none⟩) l := by
  intro i x hx
  have hi : i < l.length := (List.getElem?_eq_some_iff.1 hx).1
  have e : (Addr.mk G 0 none).add (i * 3) = ⟨G, i * 3, none⟩ := by
    rcases Nat.eq_zero_or_pos (i * 3) with h0 | h0
    · rw [h0]; simp [Addr.add]
    · simp [Addr.add]; omega
  refine ⟨_, rfl, ?_, ?_, ?_⟩
  · have := h.cellAt (i * 3 + 0) (by omega)
    rw [flatA_get l i x 0 hx (by omega)] at this
    rw [e]; exact this
  · have := h.cellAt (i * 3 + 1) (by omega)
    rw [flatA_get l i x 1 hx (by omega)] at this
    rw [e]; exact this
  · have := h.cellAt (i * 3 + 2) (by omega)
    rw [flatA_get l i x 2 hx (by omega)] at this
    rw [e]; exact this
theorem own_atW {w : World} {B n : Nat} {V : Value} {l : List A3} (h : w.ownsRow B 82 3 V n (flatA l)) (hn : n = l.length) : ∃ A c, V = .slice A n c ∧ ActsAt w A l := by
  subst hn
  rcases h.2 with ⟨rfl, h0⟩ | ⟨g, c, cur, rfl, h2, h3, h4⟩
  · refine ⟨none, 0, by rw [h0], fun i x hx => ?_⟩
    have : l = [] := List.eq_nil_of_length_eq_zero h0
    rw [this] at hx; simp at hx
  · exact ⟨_, c, rfl, own_wins h⟩
/-- A row that grows in the call's own memory, behind w0. -/
structure NW (L : List A3) (N : Value) (w0 wr : World) : Prop where
  own : wr.ownsRow w0.heap.size 82 3 N L.length (flatA L)
  below : Below w0.heap.size w0 wr
theorem NW.keep {L : List A3} {N : Value} {w0 wr w' : World} (f : NW L N w0 wr) (b : Below wr.heap.size wr w') : NW L N w0 w' := ⟨owns_kept f.own b, f.below.trans (b.mono f.below.size)⟩
theorem NW.grown {L : List A3} {x : A3} {N N' : Value} {w0 wr w' : World} (f : NW L N w0 wr) (hg : wr.grownBy w' N.ownBlock) (n : Nat) (hn : n = L.length + 1) (ho : w'.ownsRow w0.heap.size 82 3 N' n (flatA L ++ actL x)) : NW (L ++ [x]) N' w0 w' :=
  ⟨by rw [List.length_append, List.length_singleton, ← hn, flatA_snoc]; exact ho, f.below.grown hg f.below.size (fun j hj => (f.own.lt j hj).1)⟩
end Go.Proofs.YtpjillclladjaaaDoor.Win
