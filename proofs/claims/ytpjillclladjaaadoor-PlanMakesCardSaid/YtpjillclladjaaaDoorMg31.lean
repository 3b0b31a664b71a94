/- Plans in plain words: needs that a word meets have a plan, and it meets them. It says nothing of the program. No condition. Two rows of windows are one, as the document tells it; a row of the call's own as windows. Condition: at most 2 to the power 40 windows. -/
import Derived.Test.YtpjillclladjaaaDoorMg30
import Derived.Test.YtpjillclladjaaaDoorMg28
import Derived.Laws.OwnMore
namespace Go.Proofs.YtpjillclladjaaaDoor.Pln

open Go.Proofs.YtpjillclladjaaaDoor.Act (A3 I64)

open Go.Proofs.YtpjillclladjaaaDoor.Nee

open Go.Proofs.YtpjillclladjaaaDoor.Win (cntZ cntZ_more cntZ_le)

set_option linter.unusedVariables false

set_option linter.unusedSimpArgs false

theorem chkP_zero (fr : Int) : ∀ (l : List A3) (last : Int) (i : Nat), (∀ x ∈ l, last < x.s ∧ 0 ≤ x.s ∧ x.s ≤ 255 ∧ 1 ≤ x.p ∧ fr % x.p = 0 ∧ 0 ≤ x.a ∧ x.a ≤ x.p) → l.Pairwise (fun a b => a.s < b.s) → (chkP fr last i l).1 = 0
  | [], _, _, _, _ => rfl
  | x :: r, last, i, h, hp => by
    obtain ⟨h1, h2, h3, h4, h5, h6, h7⟩ := h x List.mem_cons_self
    have hb : bad1P fr last x = 0 := by
      unfold bad1P
      rw [if_neg (by omega), if_neg (by omega), if_neg (by rw [h5]; omega), if_neg (by omega)]
    unfold chkP
    rw [if_pos hb]
    have hp2 := List.pairwise_cons.1 hp
    exact chkP_zero fr r x.s (i + 1) (fun y hy => ⟨hp2.1 y hy, (h y (List.mem_cons_of_mem _ hy)).2⟩) hp2.2
theorem minC_at (z : Int) (zs : List Int) (p b : Nat) : ∀ K k, k < K → minC z zs p b K ≤ cntZ z (chkZ zs p k)
  | 0, _, h => by omega
  | K + 1, k, h => by
    unfold minC
    rcases Nat.lt_or_ge k K with h1 | h1
    · have := minC_at z zs p b K k h1; omega
    · obtain rfl : k = K := by omega
      omega
theorem minC_least (z : Int) (zs : List Int) (p b a : Nat) (hb : a ≤ b) : ∀ K, (∀ k, k < K → a ≤ cntZ z (chkZ zs p k)) → a ≤ minC z zs p b K
  | 0, _ => hb
  | K + 1, h => by
    have h1 := minC_least z zs p b a hb K fun k hk => h k (by omega)
    have h2 := h K (by omega)
    unfold minC
    omega
/-- The need of a number: as much as a word gives it. -/
def ndB (ws ps : List Int) (j : Nat) : A3 := ⟨(j : Int), vz ps j, (minC (j : Int) ws (vz ps j).toNat (vz ps j).toNat (ws.length / (vz ps j).toNat) : Nat)⟩
def ndsB (ws ps : List Int) (k : Nat) : List A3 := (List.range k).map (ndB ws ps)
theorem ndsB_len (ws ps : List Int) (k : Nat) : (ndsB ws ps k).length = k := by simp [ndsB]
theorem ndsB_snoc (ws ps : List Int) (k : Nat) : ndsB ws ps (k + 1) = ndsB ws ps k ++ [ndB ws ps k] := by
  unfold ndsB
  rw [List.range_succ, List.map_append]; rfl
theorem ndsB_get (ws ps : List Int) {k j : Nat} (h : j < k) : (ndsB ws ps k)[j]? = some (ndB ws ps j) := by
  unfold ndsB
  rw [List.getElem?_map, List.getElem?_range h]; rfl
theorem ndsB_nd (ws ps : List Int) {k j : Nat} (h : j < k) : nd (ndsB ws ps k) j = ndB ws ps j := by
  unfold nd
  rw [ndsB_get ws ps h]; rfl
theorem part_mul {n p : Nat} (hp : 1 ≤ p) (h : ((n : Nat) : Int) % ((p : Nat) : Int) = 0) : n / p * p = n := by
  have h2 : n % p = 0 := by
    have := Int.natCast_emod n p
    omega
  have := Nat.div_add_mod n p
  rw [Nat.mul_comm]; omega
theorem best_ok (ws ps : List Int) (m : Nat) (hm : m ≤ 256) (hw : 1 ≤ ws.length ∧ ws.length ≤ 4096) (hp : ∀ j, j < m → 1 ≤ vz ps j ∧ ((ws.length : Nat) : Int) % vz ps j = 0) :
    mkW (ws.length : Int) (ndsB ws ps m) = (0, []) ∧ ∀ j, j < m → (ndB ws ps j).a ≤ (minC (j : Int) (runR (ndsB ws ps m) ws.length).2 (vz ps j).toNat (vz ps j).toNat (ws.length / (vz ps j).toNat) : Nat) := by
  have hle : ∀ j, j < m → 0 ≤ (ndB ws ps j).a ∧ (ndB ws ps j).a ≤ (ndB ws ps j).p := fun j hj => by
    have h1 := (hp j hj).1
    have h2 := minC_le (j : Int) ws (vz ps j).toNat (vz ps j).toNat (ws.length / (vz ps j).toNat)
    unfold ndB
    dsimp only
    omega
  have hch : (chkP (ws.length : Int) (-1) 0 (ndsB ws ps m)).1 = 0 := by
    refine chkP_zero _ _ _ _ (fun x hx => ?_) ?_
    · obtain ⟨j, hj, rfl⟩ := List.mem_map.1 hx
      have hj2 : j < m := List.mem_range.1 hj
      obtain ⟨h1, h2⟩ := hp j hj2
      obtain ⟨h3, h4⟩ := hle j hj2
      refine ⟨?_, ?_, ?_, h1, h2, h3, h4⟩
      · show (-1 : Int) < (j : Int); omega
      · show (0 : Int) ≤ (j : Int); omega
      · show (j : Int) ≤ 255; omega
    · unfold ndsB
      rw [List.pairwise_map]
      refine List.Pairwise.imp ?_ List.pairwise_lt_range
      intro a b h
      show (a : Int) < (b : Int)
      omega
  obtain ⟨hper, hids, _⟩ := perOk_of (fr := (ws.length : Int)) (by omega) hch
  have hdiv : ∀ j, j < m → ws.length / (vz ps j).toNat * (vz ps j).toNat = ws.length := fun j hj => by
    obtain ⟨h1, h2⟩ := hp j hj
    refine part_mul (by omega) ?_
    rw [show (((vz ps j).toNat : Nat) : Int) = vz ps j by omega]; exact h2
  have hmeet : ∀ k, k < (ndsB ws ps m).length → Meets ws (nd (ndsB ws ps m) k) := fun k hk => by
    rw [ndsB_len] at hk
    rw [ndsB_nd ws ps hk]
    intro i hi
    have hi2 : (i + 1) * (vz ps k).toNat ≤ ws.length := hi
    have hlt : i < ws.length / (vz ps k).toNat := by
      have h1 := (hp k hk).1
      exact (Nat.le_div_iff_mul_le (by omega)).2 hi2
    have := minC_at (k : Int) ws (vz ps k).toNat (vz ps k).toNat (ws.length / (vz ps k).toNat) i hlt
    show ((minC (k : Int) ws (vz ps k).toNat (vz ps k).toNat (ws.length / (vz ps k).toNat) : Nat) : Int) ≤ (cntZ (k : Int) (chkZ ws (vz ps k).toNat i) : Nat)
    omega
  have hfl := plan_best (ndsB ws ps m) hper.nd hids.1 ws hmeet
  refine ⟨?_, fun j hj => ?_⟩
  · unfold mkW
    rw [if_neg (by omega), if_neg (by rw [hch]; simp), show ((ws.length : Int)).toNat = ws.length from by omega, hfl, if_neg (by omega)]
  · have h1 := plan_meets (ndsB ws ps m) hper.nd hids ws.length hfl j (by rw [ndsB_len]; exact hj)
    rw [ndsB_nd ws ps hj] at h1
    obtain ⟨h3, h4⟩ := hle j hj
    have hpj : (ndB ws ps j).p = vz ps j := rfl
    obtain ⟨a, ha⟩ : ∃ a : Nat, (ndB ws ps j).a = (a : Int) := ⟨(ndB ws ps j).a.toNat, by omega⟩
    have h2 := minC_least (j : Int) (runR (ndsB ws ps m) ws.length).2 (vz ps j).toNat (vz ps j).toNat a (by omega) (ws.length / (vz ps j).toNat) (fun k hk => by
      have hk2 : (k + 1) * (vz ps j).toNat ≤ ws.length := by
        have := Nat.mul_le_mul_right (vz ps j).toNat (show k + 1 ≤ ws.length / (vz ps j).toNat from hk)
        rw [hdiv j hj] at this
        exact this
      have := h1 k (by rw [run_len]; exact hk2)
      rw [ha] at this
      have h5 : ((a : Nat) : Int) ≤ (cntZ (j : Int) (chkZ (runR (ndsB ws ps m) ws.length).2 (vz ps j).toNat k) : Nat) := this
      omega)
    rw [ha]
    omega
end Go.Proofs.YtpjillclladjaaaDoor.Pln
namespace Go.Proofs.YtpjillclladjaaaDoor.Win

open Go.RowKit Go.PlainAid Go.Proofs.YtpjillclladjaaaDoor.Oct Go.Proofs.YtpjillclladjaaaDoor.Flt Go.Proofs.YtpjillclladjaaaDoor.Rdr Go.Proofs.YtpjillclladjaaaDoor.Args

open Go.Proofs.YtpjillclladjaaaDoor.Act (A3 actL flatA flatA_len flatA_get flatA_snoc ActsAt I64 Wide row_beside)

set_option linter.unusedVariables false

set_option linter.unusedSimpArgs false

theorem eqWin (a b c : Int) (w : World) : (Op.equalIn 10000 82 (.agg #[.int .i64 a, .int .i64 b, .int .i64 c]) (.agg #[.int .i64 a, .int .i64 b, .int .i64 c])).run Tryd.prog w = .ok true w := by
  have hS : Tryd.prog.underlying 82 = some (.struct (Tryd.prog.fieldsOf 82)) := by kernel_rfl
  rw [show (10000 : Nat) = 9999 + 1 from rfl, run_equalIn_agg w 9999 82 _ _ hS (by kernel_rfl)]
  simp only [Program.fieldsOf, Tryd.underlying82]
  go_simp
set_option maxRecDepth 4000 in
set_option maxHeartbeats 1600000 in
theorem same13_any (A B : Option Addr) (ca cb : Nat) (l : List A3) (w : World) (h1 : ActsAt w A l) (h2 : ActsAt w B l) (hl : l.length ≤ 1099511627776) :
    Calls Tryd.prog 17 #[.slice A l.length ca, .slice B l.length cb] w fun e w' => e = .returned (.bool true) ∧ ∃ n, w' = w.drewN n := by
  obtain ⟨a, ha⟩ : ∃ a, l.length = a := ⟨_, rfl⟩
  have HA := Lib.hid ha
  rw [ha] at hl
  rw [ha]
  have H1 := Lib.hid h1
  have H2 := Lib.hid h2
  clear h1 h2 ha
  have tne : ((a : Int) != (a : Int)) = false := by simp
  go_enter Tryd.func17, Tryd.ntmps17
  go_wp2
  go_loopw [5] (fun i wr => ∃ k n : Nat, k ≤ a ∧ i = .int .i64 k ∧ wr = w.drewN n) (fun i _ => a - (intOf i).toNat)
  case atStart => exact ⟨0, 0, Nat.zero_le _, rfl, rfl⟩
  case round =>
    obtain ⟨k, n, hk, rfl, hw⟩ := hrel
    have HW := Lib.hid hw
    by_cases hlt : k < a
    · obtain ⟨x, hx⟩ : ∃ x, l[k]? = some x := ⟨_, List.getElem?_eq_getElem (by rw [HA.out]; exact hlt)⟩
      obtain ⟨ax, rfl, c1, c2, c3⟩ := H1.out k x hx
      obtain ⟨ay, rfl, c4, c5, c6⟩ := H2.out k x hx
      have c1' : wr.cell? (ax.add (k * 3)) = some (.int .i64 x.s) := by rw [hw]; exact c1
      have c2' : wr.cell? ⟨(ax.add (k * 3)).block, (ax.add (k * 3)).off + 1, none⟩ = some (.int .i64 x.p) := by rw [hw]; exact c2
      have c3' : wr.cell? ⟨(ax.add (k * 3)).block, (ax.add (k * 3)).off + 2, none⟩ = some (.int .i64 x.a) := by rw [hw]; exact c3
      have c4' : wr.cell? (ay.add (k * 3)) = some (.int .i64 x.s) := by rw [hw]; exact c4
      have c5' : wr.cell? ⟨(ay.add (k * 3)).block, (ay.add (k * 3)).off + 1, none⟩ = some (.int .i64 x.p) := by rw [hw]; exact c5
      have c6' : wr.cell? ⟨(ay.add (k * 3)).block, (ay.add (k * 3)).off + 2, none⟩ = some (.int .i64 x.a) := by rw [hw]; exact c6
      have heq : ∀ wx : World, (Op.equalIn 10000 82 (.agg #[.int .i64 x.s, .int .i64 x.p, .int .i64 x.a]) (.agg #[.int .i64 x.s, .int .i64 x.p, .int .i64 x.a])).run Tryd.prog wx = .ok true wx := fun wx => eqWin _ _ _ wx
      have hki : (0 : Int) ≤ k := by omega
      have hka : (k : Int) < a := by omega
      clear hw hx c1 c2 c3 c4 c5 c6 H1 H2
      go_wp2
      go_quiet (fail)
      go_wp2
      go_roundw
      case rel => exact ⟨k + 1, n + nq, by omega, by go_num, by rw [HW.out, World.drewN_drewN]⟩
      case measure => simp [intOf]; omega
    · obtain rfl : k = a := by omega
      clear hw
      go_wp2
      go_ret
      exact ⟨rfl, n, HW.out⟩
theorem own_wins {w : World} {B G c : Nat} {l : List A3} (h : w.ownsRow B 82 3 (.slice (some ⟨G, 0, none⟩) l.length c) l.length (flatA l)) : ActsAt w (some ⟨G, 0, none⟩) l := by
  intro i x hx
  have hi : i < l.length := (List.getElem?_eq_some_iff.1 hx).1
  have e : (Addr.mk G 0 none).add (i * 3) = ⟨G, i * 3, none⟩ := by
    rcases Nat.eq_zero_or_pos (i * 3) with h0 | h0
    · rw [h0]; simp [Addr.add]
    · simp [Addr.add]; omega
  refine ⟨_, rfl, ?_, ?_, ?_⟩
  · have := h.cellAt (i * 3 + 0) (by omega)
    rw [flatA_get l i x 0 hx (by omega)] at this
    rw [e]; exact this
  · have := h.cellAt (i * 3 + 1) (by omega)
    rw [flatA_get l i x 1 hx (by omega)] at this
    rw [e]; exact this
  · have := h.cellAt (i * 3 + 2) (by omega)
    rw [flatA_get l i x 2 hx (by omega)] at this
    rw [e]; exact this
theorem own_atW {w : World} {B n : Nat} {V : Value} {l : List A3} (h : w.ownsRow B 82 3 V n (flatA l)) (hn : n = l.length) : ∃ A c, V = .slice A n c ∧ ActsAt w A l := by
  subst hn
  rcases h.2 with ⟨rfl, h0⟩ | ⟨g, c, cur, rfl, h2, h3, h4⟩
  · refine ⟨none, 0, by rw [h0], fun i x hx => ?_⟩
    have : l = [] := List.eq_nil_of_length_eq_zero h0
    rw [this] at hx; simp at hx
  · exact ⟨_, c, rfl, own_wins h⟩
/-- A row that grows in the call's own memory, behind w0. -/
structure NW (L : List A3) (N : Value) (w0 wr : World) : Prop where
  own : wr.ownsRow w0.heap.size 82 3 N L.length (flatA L)
  below : Below w0.heap.size w0 wr
theorem NW.keep {L : List A3} {N : Value} {w0 wr w' : World} (f : NW L N w0 wr) (b : Below wr.heap.size wr w') : NW L N w0 w' := ⟨owns_kept f.own b, f.below.trans (b.mono f.below.size)⟩
theorem NW.grown {L : List A3} {x : A3} {N N' : Value} {w0 wr w' : World} (f : NW L N w0 wr) (hg : wr.grownBy w' N.ownBlock) (n : Nat) (hn : n = L.length + 1) (ho : w'.ownsRow w0.heap.size 82 3 N' n (flatA L ++ actL x)) : NW (L ++ [x]) N' w0 w' :=
  ⟨by rw [List.length_append, List.length_singleton, ← hn, flatA_snoc]; exact ho, f.below.grown hg f.below.size (fun j hj => (f.own.lt j hj).1)⟩
end Go.Proofs.YtpjillclladjaaaDoor.Win
