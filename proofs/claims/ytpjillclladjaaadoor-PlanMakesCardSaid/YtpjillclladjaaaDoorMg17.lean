/- Needs: whether a frame may be cut into periods, how often a number stands in some, and the least of all periods. Conditions: at most 2 to the power 40 numbers. Needs: the longest row without a number, however it is counted; the greatest divisor. Plain arithmetic: it says nothing of the program. Needs: the parts of some numbers (slices.Chunk), one behind the other. Conditions: the parts are all of one length of at least 1; at most 2 to the power 40 numbers. Needs: the least that a number stands in each part of some. Conditions: the parts are all of one length of at least 1; at most 2 to the power 40 numbers. Needs: what a number has in a part of some, and the least of all parts, as the document tells it. Conditions: at most 2 to the power 40 numbers; the parts are all of one length of at least 1. -/
import Derived.RangeFuncBox
import Derived.RangeFuncCalls
import Derived.RangeFuncLeaves
import Derived.Shelf.Abstract
import Derived.Shelf.RegionOpen
import Derived.WalkKit
import Derived.OwnWalkIn
import Derived.TacticsInMore
import Derived.LoopNIn
import Derived.LoopIn
import Derived.Sort.QuietTacIn
import Derived.Test.YtpjillclladjaaaDoorMg16
namespace Go.Proofs.YtpjillclladjaaaDoor.Nee

open Go.RowKit Go.PlainAid Go.Shelf Go.Proofs.YtpjillclladjaaaDoor.Oct Go.Proofs.YtpjillclladjaaaDoor.Flt Go.Proofs.YtpjillclladjaaaDoor.Rdr Go.Proofs.YtpjillclladjaaaDoor.Args Go.Proofs.YtpjillclladjaaaDoor.Win

open Go.Proofs.YtpjillclladjaaaDoor.Act (I64)

set_option linter.unusedVariables false

set_option linter.unusedSimpArgs false
attribute [local go_sem] Oper.semAt_some

/-- Numbers in memory, from an address on. -/
def ZAt (w : World) (y : Addr) (zs : List Int) : Prop := ∀ j v, zs[j]? = some v → w.cell? (y.add j) = some (.int .i64 v)
theorem ZAt.kept {w w' : World} {y : Addr} {zs : List Int} {n : Nat} (h : ZAt w y zs) (b : Below n w w') (hy : zs ≠ [] → y.block < n) : ZAt w' y zs := fun j v hv => by
  refine (b.cell (by rw [add_block]; exact hy (fun e => by rw [e] at hv; simp at hv))).trans (h j v hv)
theorem add_add (y : Addr) (i j : Nat) : (y.add i).add j = y.add (i + j) := by
  unfold Addr.add
  by_cases hi : i = 0
  · subst hi; simp
  · by_cases hj : j = 0
    · subst hj; simp [hi]
    · simp [hi, hj, Nat.add_assoc]
theorem ZAt.part {w : World} {y : Addr} {zs : List Int} (h : ZAt w y zs) (i n : Nat) : ZAt w (y.add i) ((zs.drop i).take n) := fun j v hv => by
  rw [add_add]
  refine h (i + j) v ?_
  rw [List.getElem?_take] at hv
  split at hv
  · rw [List.getElem?_drop] at hv; exact hv
  · cases hv
def divB (p : Int) (fr : Nat) : Bool := decide (1 ≤ p) && ((fr : Int) % p == 0)
set_option maxRecDepth 4000 in
theorem divides_any (p : Int) (fr : Nat) (hp : I64 p) (hf : fr ≤ 1048576) (w : World) :
    Calls Tryd.prog 74 #[.int .i64 p, .int .i64 (fr : Int)] w fun e w' => e = .returned (.bool (divB p fr)) ∧ w = w' := by
  unfold divB
  by_cases h1 : 1 ≤ p
  · obtain ⟨q, hq⟩ : ∃ q : Int, (fr : Int) % p = q := ⟨_, rfl⟩
    have ht : Int.tmod (fr : Int) p = q := by rw [← hq]; exact Int.tmod_eq_emod_of_nonneg (by omega)
    have hp0 : (p == 0) = false := by simp; omega
    have hp1 : ¬ p = 0 := by omega
    have hq0 : 0 ≤ q := by rw [← hq]; exact Int.emod_nonneg _ (by omega)
    have hq1 : q ≤ fr := by
      obtain ⟨pn, rfl⟩ : ∃ n : Nat, p = (n : Int) := ⟨p.toNat, by omega⟩
      rw [← hq, ← Int.natCast_emod]
      have := Nat.mod_le fr pn
      omega
    have hqw : IntKind.i64.wrap q = q := IntWalk.i64_in _ (by omega)
    rw [hq, decide_eq_true h1]
    clear hq hp hf hq0 hq1
    go_enter Tryd.func74, Tryd.ntmps74
    go_wp2
    go_ret
    exact ⟨by simp, rfl⟩
  · rw [decide_eq_false h1]
    have h1' : ¬ p ≥ 1 := h1
    clear hp hf
    go_enter Tryd.func74, Tryd.ntmps74
    go_wp2
    go_ret
    exact ⟨by simp, rfl⟩
def NcRel (z : Int) (zs : List Int) (i v : Value) : Prop := ∃ k : Nat, k ≤ zs.length ∧ i = .int .i64 (k : Int) ∧ v = .int .i64 (cntZ z (zs.take k) : Nat)
set_option maxRecDepth 4000 in
set_option maxHeartbeats 1600000 in
/-- How often a number stands in some. -/
theorem ncount_any (z : Int) (zs : List Int) (y : Addr) (n c : Nat) (w : World) (ho : ZAt w y zs) (hn : zs.length = n) (hl : n ≤ 1099511627776) :
    Calls Tryd.prog 91 #[.slice (some y) n c, .int .i64 z] w fun e w' => e = .returned (.int .i64 (cntZ z zs : Nat)) ∧ w = w' := by
  have HO := Lib.hid ho
  have HN := Lib.hid hn
  have HL : Hid (n ≤ 1099511627776) := hl
  obtain ⟨r, hr⟩ : ∃ r, cntZ z zs = r := ⟨_, rfl⟩
  have HR := Lib.hid hr
  rw [hr]
  clear ho hn hl hr
  go_enter Tryd.func91, Tryd.ntmps91
  go_wp2
  go_loop [10, 5] (fun i v => NcRel z zs i v) (fun i _ => n - (intOf i).toNat)
  case atStart => exact ⟨0, Nat.zero_le _, rfl, by simp [cntZ]⟩
  case round =>
    obtain ⟨k, hk, rfl, rfl⟩ := hrel
    have hkn : k ≤ n := by rw [← HN.out]; exact hk
    by_cases hlt : k < n
    · obtain ⟨v, hv⟩ : ∃ v, zs[k]? = some v := ⟨_, List.getElem?_eq_getElem (by rw [HN.out]; exact hlt)⟩
      have hc := HO.out k v hv
      have hcm := cntZ_more z zs k v hv
      have hle := cntZ_le z (zs.take k)
      rw [List.length_take] at hle
      obtain ⟨q, hq⟩ : ∃ q, cntZ z (zs.take k) = q := ⟨_, rfl⟩
      rw [hq] at hcm hle
      rw [hq]
      have HCM := Lib.hid hcm
      have hl := HL.out
      have hki : (0 : Int) ≤ k := by omega
      have hkb : (k : Int) < n := by omega
      have hk1 : IntKind.i64.wrap ((k : Int) + 1) = (k : Int) + 1 := IntWalk.i64_in _ (by omega)
      have hq1 : IntKind.i64.wrap ((q : Int) + 1) = (q : Int) + 1 := IntWalk.i64_in _ (by omega)
      clear hv hcm hq hle hk
      by_cases hvz : v = z
      · have hvb : (v == z) = true := by simp [hvz]
        rw [if_pos hvz] at HCM
        clear hvz
        go_wp2
        go_round
        case rel => exact ⟨k + 1, by rw [HN.out]; omega, by go_num, by rw [HCM.out]; simp⟩
        case measure => simp [intOf]; omega
      · have hvb : (v == z) = false := by simp [hvz]
        rw [if_neg hvz] at HCM
        clear hvz
        go_wp2
        go_round
        case rel => exact ⟨k + 1, by rw [HN.out]; omega, by go_num, by rw [HCM.out]; simp⟩
        case measure => simp [intOf]; omega
    · obtain rfl : k = n := by omega
      rw [List.take_of_length_le (by rw [HN.out]; exact Nat.le_refl _), HR.out]
      go_wp2
      go_ret
      exact ⟨rfl, rfl⟩
end Go.Proofs.YtpjillclladjaaaDoor.Nee

namespace Go.Proofs.YtpjillclladjaaaDoor.Nee

set_option linter.unusedVariables false

set_option linter.unusedSimpArgs false

/-- How many numbers ahead of the first z. -/
def leadZ (z : Int) : List Int → Nat
  | [] => 0
  | v :: r => if v = z then 0 else leadZ z r + 1
/-- The longest row without z. -/
def bestZ (z : Int) : List Int → Nat
  | [] => 0
  | v :: r => max (leadZ z (v :: r)) (bestZ z r)
/-- One more number: the row that it ends, and the longest so far. -/
def rowF (z : Int) (s : Nat × Nat) (v : Int) : Nat × Nat := ((if v = z then 0 else s.1 + 1), max s.2 (if v = z then 0 else s.1 + 1))
theorem fold_best (z : Int) : ∀ (r : List Int) (s : Nat × Nat), s.1 ≤ s.2 → (r.foldl (rowF z) s).2 = max s.2 (max (s.1 + leadZ z r) (bestZ z r))
  | [], s, h => by simp [leadZ, bestZ]; omega
  | v :: r, s, h => by
    rw [List.foldl_cons, fold_best z r _ (by unfold rowF; dsimp only; omega)]
    unfold rowF
    dsimp only
    simp only [bestZ, leadZ]
    split
    · have : leadZ z r ≤ bestZ z r := by cases r <;> simp [leadZ, bestZ]; omega
      omega
    · omega
theorem lead_le_best (z : Int) (r : List Int) : leadZ z r ≤ bestZ z r := by cases r <;> simp [leadZ, bestZ]; omega
theorem fold_best0 (z : Int) (r : List Int) : (r.foldl (rowF z) (0, 0)).2 = bestZ z r := by
  rw [fold_best z r _ (Nat.le_refl _)]
  have := lead_le_best z r
  simp; omega
theorem lead_drop_le (z : Int) : ∀ (r : List Int) (j : Nat), leadZ z (r.drop j) ≤ bestZ z r
  | [], j => by simp [leadZ]
  | v :: r, 0 => lead_le_best z _
  | v :: r, j + 1 => by
    have := lead_drop_le z r j
    rw [List.drop_succ_cons, bestZ]
    omega
theorem best_at (z : Int) : ∀ r : List Int, bestZ z r = 0 ∨ ∃ j, j < r.length ∧ bestZ z r = leadZ z (r.drop j)
  | [] => .inl rfl
  | v :: r => by
    rcases Nat.le_total (bestZ z r) (leadZ z (v :: r)) with h | h
    · right; exact ⟨0, by simp, by rw [List.drop_zero, bestZ]; omega⟩
    · rcases best_at z r with h0 | ⟨j, hj, e⟩
      · left; rw [bestZ]; omega
      · right; exact ⟨j + 1, by simp; omega, by rw [List.drop_succ_cons, ← e, bestZ]; omega⟩
theorem lead_len (z : Int) : ∀ r : List Int, leadZ z r ≤ r.length
  | [] => Nat.le_refl _
  | v :: r => by
    have := lead_len z r
    rw [leadZ, List.length_cons]
    split <;> omega
theorem lead_free (z : Int) : ∀ r : List Int, z ∉ r → leadZ z r = r.length
  | [], _ => rfl
  | v :: r, h => by
    have h1 : v ≠ z := fun e => h (by rw [e]; exact List.mem_cons_self)
    have h2 : z ∉ r := fun e => h (List.mem_cons_of_mem _ e)
    rw [leadZ, if_neg h1, lead_free z r h2, List.length_cons]
theorem lead_app (z : Int) (b : List Int) : ∀ a : List Int, leadZ z (a ++ z :: b) = leadZ z a
  | [] => by simp [leadZ]
  | v :: a => by
    rw [List.cons_append, leadZ, leadZ, lead_app z b a]
/-- The one number of steps: none of them is z, and then there is z, or the end. -/
theorem lead_is (z : Int) : ∀ (r : List Int) (d : Nat), d ≤ r.length → (∀ j, j < d → r[j]? ≠ some z) → (d = r.length ∨ r[d]? = some z) → leadZ z r = d
  | [], d, h, _, _ => by simp at h; simp [leadZ, h]
  | v :: r, 0, h, h1, h2 => by
    rcases h2 with h2 | h2
    · simp at h2
    · simp at h2
      rw [leadZ, if_pos h2]
  | v :: r, d + 1, h, h1, h2 => by
    have hv : v ≠ z := fun e => h1 0 (by omega) (by simp [e])
    rw [leadZ, if_neg hv, lead_is z r d (by simpa using h) (fun j hj => by simpa using h1 (j + 1) (by omega)) (by simpa using h2)]
/-- Numbers, from a place on, round to there. -/
def rotZ (ws : List Int) (t : Nat) : List Int := ws.drop t ++ ws.take t
theorem rot_len (ws : List Int) (t : Nat) (h : t ≤ ws.length) : (rotZ ws t).length = ws.length := by
  unfold rotZ
  rw [List.length_append, List.length_drop, List.length_take]
  omega
theorem rot_get (ws : List Int) (t j : Nat) (h : t < ws.length) (hj : j < ws.length) : (rotZ ws t)[j]? = ws[(t + j) % ws.length]? := by
  unfold rotZ
  rcases Nat.lt_or_ge j (ws.length - t) with h1 | h1
  · rw [List.getElem?_append_left (by rw [List.length_drop]; exact h1), List.getElem?_drop, Nat.mod_eq_of_lt (by omega)]
  · rw [List.getElem?_append_right (by rw [List.length_drop]; exact h1), List.length_drop, List.getElem?_take_of_lt (by omega)]
    congr 1
    rw [Nat.mod_eq_sub_mod (by omega), Nat.mod_eq_of_lt (by omega)]
    omega
theorem rot_rot (ws : List Int) (f t : Nat) (hf : f < ws.length) (ht : t < ws.length) : ∃ s, s < ws.length ∧ rotZ ws t = rotZ (rotZ ws f) s := by
  have hl : (ws.drop f).length = ws.length - f := List.length_drop
  rcases Nat.lt_or_ge t f with h | h
  · refine ⟨t + (ws.length - f), by omega, ?_⟩
    unfold rotZ
    have e1 : (ws.drop f ++ ws.take f).drop (t + (ws.length - f)) = (ws.take f).drop t := by
      rw [List.drop_append, List.drop_of_length_le (by omega), hl, List.nil_append]
      congr 1; omega
    have e2 : (ws.drop f ++ ws.take f).take (t + (ws.length - f)) = ws.drop f ++ ws.take t := by
      rw [List.take_append, List.take_of_length_le (by omega), hl, List.take_take]
      congr 2; omega
    rw [e1, e2, ← List.append_assoc]
    congr 1
    have e3 : ws.drop t = (ws.take f ++ ws.drop f).drop t := by rw [List.take_append_drop]
    rw [e3, List.drop_append, List.length_take, show t - min f ws.length = 0 by omega, List.drop_zero]
  · refine ⟨t - f, by omega, ?_⟩
    unfold rotZ
    have e1 : (ws.drop f ++ ws.take f).drop (t - f) = ws.drop t ++ ws.take f := by
      rw [List.drop_append, List.drop_drop, hl, show t - f - (ws.length - f) = 0 by omega, List.drop_zero, show f + (t - f) = t by omega]
    have e2 : (ws.drop f ++ ws.take f).take (t - f) = (ws.drop f).take (t - f) := by
      rw [List.take_append, hl, show t - f - (ws.length - f) = 0 by omega, List.take_zero, List.append_nil]
    rw [e1, e2, List.append_assoc]
    congr 1
    have e3 : ws.take t = (ws.take f ++ ws.drop f).take t := by rw [List.take_append_drop]
    rw [e3, List.take_append, List.take_of_length_le (by rw [List.length_take]; omega), List.length_take, show t - min f ws.length = t - f by omega]
theorem rot_onto (ws : List Int) (f s : Nat) (hf : f < ws.length) (hs : s < ws.length) : ∃ t, t < ws.length ∧ rotZ ws t = rotZ (rotZ ws f) s := by
  rcases Nat.lt_or_ge s (ws.length - f) with h | h
  · refine ⟨f + s, by omega, ?_⟩
    have hl : (ws.drop f).length = ws.length - f := List.length_drop
    unfold rotZ
    rw [List.drop_append, List.drop_drop, hl, show s - (ws.length - f) = 0 by omega, List.drop_zero, List.take_append, hl, show s - (ws.length - f) = 0 by omega, List.take_zero, List.append_nil, List.append_assoc]
    congr 1
    have e3 : ws.take (f + s) = (ws.take f ++ ws.drop f).take (f + s) := by rw [List.take_append_drop]
    rw [e3, List.take_append, List.take_of_length_le (by rw [List.length_take]; omega), List.length_take, show f + s - min f ws.length = s by omega]
  · refine ⟨s - (ws.length - f), by omega, ?_⟩
    have hl : (ws.drop f).length = ws.length - f := List.length_drop
    unfold rotZ
    have e1 : (ws.drop f ++ ws.take f).drop s = (ws.take f).drop (s - (ws.length - f)) := by
      rw [List.drop_append, List.drop_of_length_le (by omega), hl, List.nil_append]
    have e2 : (ws.drop f ++ ws.take f).take s = ws.drop f ++ ws.take (s - (ws.length - f)) := by
      rw [List.take_append, List.take_of_length_le (by omega), hl, List.take_take]
      congr 2; omega
    rw [e1, e2, ← List.append_assoc]
    congr 1
    have e3 : ws.drop (s - (ws.length - f)) = (ws.take f ++ ws.drop f).drop (s - (ws.length - f)) := by rw [List.take_append_drop]
    rw [e3, List.drop_append, List.length_take, show s - (ws.length - f) - min f ws.length = 0 by omega, List.drop_zero]
/-- From a z on round to there, each row ends at the end at the latest. -/
theorem lead_rot (z : Int) (r : List Int) (s : Nat) : leadZ z (rotZ (z :: r) s) = leadZ z ((z :: r).drop s) := by
  unfold rotZ
  cases s with
  | zero => simp
  | succ s => rw [List.take_succ_cons]; exact lead_app z _ _
/-- The longest of the rows from each of the first places on, going round. -/
def bestD (z : Int) (ws : List Int) : Nat → Nat
  | 0 => 0
  | k + 1 => max (bestD z ws k) (leadZ z (rotZ ws k))
theorem bestD_ge (z : Int) (ws : List Int) : ∀ k t, t < k → leadZ z (rotZ ws t) ≤ bestD z ws k
  | 0, _, h => absurd h (Nat.not_lt_zero _)
  | k + 1, t, h => by
    rw [bestD]
    rcases Nat.lt_or_ge t k with h1 | h1
    · have := bestD_ge z ws k t h1; omega
    · obtain rfl : t = k := by omega
      omega
theorem bestD_le (z : Int) (ws : List Int) (b : Nat) : ∀ k, (∀ t, t < k → leadZ z (rotZ ws t) ≤ b) → bestD z ws k ≤ b
  | 0, _ => Nat.zero_le _
  | k + 1, h => by
    have h1 := bestD_le z ws b k fun t ht => h t (by omega)
    have h2 := h k (by omega)
    rw [bestD]
    omega
theorem best_none (z : Int) (ws : List Int) (h : z ∉ ws) : bestD z ws ws.length = ws.length := by
  have hl : ∀ t, t ≤ ws.length → leadZ z (rotZ ws t) = ws.length := fun t ht => by
    rw [lead_free, rot_len ws t ht]
    unfold rotZ
    intro hm
    rcases List.mem_append.1 hm with h1 | h1
    · exact h (List.mem_of_mem_drop h1)
    · exact h (List.mem_of_mem_take h1)
  apply Nat.le_antisymm
  · exact bestD_le _ _ _ _ fun t ht => Nat.le_of_eq (hl t (by omega))
  · rcases Nat.eq_zero_or_pos ws.length with h0 | h0
    · omega
    · have := bestD_ge z ws ws.length 0 h0
      rw [hl 0 (by omega)] at this
      exact this
theorem best_some (z : Int) (ws : List Int) (f : Nat) (h : ws[f]? = some z) : bestD z ws ws.length = bestZ z (rotZ ws f) := by
  obtain ⟨hf, e⟩ := List.getElem?_eq_some_iff.1 h
  obtain ⟨r, hr⟩ : ∃ r, rotZ ws f = z :: r := by
    unfold rotZ
    rw [List.drop_eq_getElem_cons hf, e]
    exact ⟨_, rfl⟩
  have hrl : (z :: r).length = ws.length := by rw [← hr, rot_len ws f (by omega)]
  apply Nat.le_antisymm
  · refine bestD_le _ _ _ _ fun t ht => ?_
    obtain ⟨s, hs, e1⟩ := rot_rot ws f t hf ht
    rw [e1, hr, lead_rot]
    exact lead_drop_le z _ s
  · rcases best_at z (rotZ ws f) with h0 | ⟨j, hj, e1⟩
    · omega
    · rw [hr] at hj
      obtain ⟨t, ht, e2⟩ := rot_onto ws f j hf (by omega)
      have := bestD_ge z ws ws.length t ht
      rw [e2, hr, lead_rot] at this
      rw [e1, hr]
      exact this
/-- The greatest divisor of both. -/
theorem gcd_top {a b d : Nat} (hb : 0 < b) (hd : d ∣ a ∧ d ∣ b) (ht : ∀ e, d < e → e ≤ b → ¬ (e ∣ a ∧ e ∣ b)) : Nat.gcd a b = d := by
  have h1 : d ∣ Nat.gcd a b := Nat.dvd_gcd hd.1 hd.2
  have h2 : Nat.gcd a b ≤ b := Nat.le_of_dvd hb (Nat.gcd_dvd_right a b)
  have h3 : 0 < Nat.gcd a b := Nat.gcd_pos_of_pos_right a hb
  have h4 : d ≤ Nat.gcd a b := Nat.le_of_dvd h3 h1
  rcases Nat.lt_or_ge d (Nat.gcd a b) with h | h
  · exact absurd ⟨Nat.gcd_dvd_left a b, Nat.gcd_dvd_right a b⟩ (ht _ h h2)
  · omega
end Go.Proofs.YtpjillclladjaaaDoor.Nee

namespace Go.Proofs.YtpjillclladjaaaDoor.Nee

open Go.RowKit Go.PlainAid Go.Shelf Go.Proofs.YtpjillclladjaaaDoor.Oct Go.Proofs.YtpjillclladjaaaDoor.Flt Go.Proofs.YtpjillclladjaaaDoor.Rdr Go.Proofs.YtpjillclladjaaaDoor.Args Go.Proofs.YtpjillclladjaaaDoor.Win

set_option linter.unusedVariables false

set_option linter.unusedSimpArgs false
attribute [local go_sem] Oper.semAt_some

/-- The k-th part of numbers. -/
def chkZ (zs : List Int) (p k : Nat) : List Int := (zs.drop (k * p)).take p
/-- The least count of the first k parts. -/
def minC (z : Int) (zs : List Int) (p b : Nat) : Nat → Nat
  | 0 => b
  | k + 1 => min (minC z zs p b k) (cntZ z (chkZ zs p k))
/-- The least count of some parts. -/
def minL (z : Int) (zs : List Int) (p b : Nat) (xs : List Nat) : Nat := xs.foldl (fun m x => min m (cntZ z (chkZ zs p x))) b
theorem minL_range (z : Int) (zs : List Int) (p b : Nat) : ∀ k, minL z zs p b (List.range k) = minC z zs p b k
  | 0 => rfl
  | k + 1 => by
    have ih := minL_range z zs p b k
    unfold minL at ih ⊢
    rw [List.range_succ, List.foldl_append, ih]
    rfl
theorem minL_snoc (z : Int) (zs : List Int) (p b : Nat) (xs : List Nat) (x : Nat) : minL z zs p b (xs ++ [x]) = min (minL z zs p b xs) (cntZ z (chkZ zs p x)) := by
  unfold minL
  rw [List.foldl_append]
  rfl
theorem chk_le (z : Int) (zs : List Int) (p k : Nat) : cntZ z (chkZ zs p k) ≤ p := by
  refine Nat.le_trans (cntZ_le _ _) ?_
  unfold chkZ
  rw [List.length_take]
  omega
/-- From a period's length on it is the same least, where there is a part. -/
theorem minC_same (z : Int) (zs : List Int) (p b : Nat) (h : p ≤ b) : ∀ k, minC z zs p b (k + 1) = minC z zs p p (k + 1)
  | 0 => by
    have := chk_le z zs p 0
    simp only [minC]
    omega
  | k + 1 => by
    have ih := minC_same z zs p b h k
    rw [minC, ih]
    rfl
theorem minC_le (z : Int) (zs : List Int) (p b : Nat) : ∀ k, minC z zs p b k ≤ b
  | 0 => Nat.le_refl _
  | k + 1 => by
    have := minC_le z zs p b k
    rw [minC]
    omega
/-- All blocks below N but one are as they were. -/
structure But (b N : Nat) (w w' : World) : Prop where
  os : w'.os = w.os
  tape : w'.tape = w.tape
  output : w'.output = w.output
  size : w.heap.size ≤ w'.heap.size
  block : ∀ k, k < N → k ≠ b → w'.heap[k]? = w.heap[k]?
theorem But.refl (b N : Nat) (w : World) : But b N w w := ⟨rfl, rfl, rfl, Nat.le_refl _, fun _ _ _ => rfl⟩
theorem But.trans {b N : Nat} {u v w : World} (h : But b N u v) (k : But b N v w) : But b N u w :=
  ⟨k.os.trans h.os, k.tape.trans h.tape, k.output.trans h.output, Nat.le_trans h.size k.size, fun i hi hb => (k.block i hi hb).trans (h.block i hi hb)⟩
theorem But.below {b N B : Nat} {u v : World} (h : But b N u v) (hb : B ≤ b) (hN : B ≤ N) : Below B u v := ⟨h.os, h.tape, h.output, h.size, fun k hk => h.block k (by omega) (by omega)⟩
theorem But.cell {b N : Nat} {u v : World} (h : But b N u v) {p : Addr} (hN : p.block < N) (hb : p.block ≠ b) : v.cell? p = u.cell? p := World.cell?_of_block (h.block _ hN hb)
theorem But.put {b N : Nat} {w : World} (hn : N ≤ w.heap.size) (W : World) (l : Nat) (o o' : Obj) (hl : w.heap.size ≤ l) (h : W.heap[l]? = some o) (_ : o.isCells = false) (_ : o.isWalk = false) : But b N W (W.putObj l o') := by
  have hg := grownBy_putObj' W l o'
  exact ⟨hg.os, hg.tape, hg.output, hg.size, fun k hk _ => hg.block k (by have := (Array.getElem?_eq_some_iff.1 h).1; omega) (fun e => by cases e; omega)⟩
theorem But.drewN {b N : Nat} {u v : World} (h : But b N u v) (n : Nat) : But b N u (v.drewN n) := h.trans ⟨rfl, rfl, rfl, Nat.le_refl _, fun _ _ _ => rfl⟩
theorem But.set {b N : Nat} {u v : World} (h : But b N u v) (x : Value) : But b N u (v.setCell ⟨b, 0, none⟩ x) :=
  ⟨h.os, h.tape, h.output, Nat.le_trans h.size (KeepsWalks.setCell v _ x).size, fun k hk hb => (Below.heap_setCell _ _ _ k hb).trans (h.block k hk hb)⟩
theorem fin_take {K k : Nat} (h : k < K) : (List.finRange K).take (k + 1) = (List.finRange K).take k ++ [⟨k, h⟩] := by
  rw [List.take_add_one, List.getElem?_eq_getElem (by rw [List.length_finRange]; exact h), List.getElem_finRange]
  rfl
set_option maxRecDepth 100000 in
set_option maxHeartbeats 2000000 in
theorem chunk_in (n : Nat) (hn : 1 ≤ n) (l b N Bs Cs : Nat) (y : Addr) (p K cap : Nat) (hp : 1 ≤ p) (hl : K * p ≤ 1099511627776) (hcap : K * p ≤ cap)
    (hB : Bs < N ∧ Bs ≠ b) (hC : Cs < N ∧ Cs ≠ b) (J Jx : List (Fin K) → World → Prop) (hJd : ∀ s W m, J s W → J s (W.drewN m))
    (hY : ∀ pre x W, J pre W → pre.length < K → YieldAt Fence.wide (n - 1) Tryd.prog l #[.slice (some (y.add (x.1 * p))) p p] W fun e W' =>
      (e = .returned (.bool true) ∧ J (pre ++ [x]) W' ∧ But b N W W') ∨ (e = .returned (.bool false) ∧ Jx (pre ++ [x]) W'))
    (W : World) (hcs : W.cell? ⟨Bs, 0, none⟩ = some (.slice (some y) (K * p) cap)) (hcc : W.cell? ⟨Cs, 0, none⟩ = some (.int .i64 (p : Int))) (h0 : J [] W) :
    CallsIn Fence.wide n Tryd.prog 104 #[.func (.yield l) #[] #[], .pointer (some ⟨Bs, 0, none⟩), .pointer (some ⟨Cs, 0, none⟩)] W fun e W' => (∃ v, e = .returned v) ∧
      (J (List.finRange K) W' ∨ ∃ pre, Jx pre W') := by
  obtain ⟨T, hT⟩ : ∃ T, K * p = T := ⟨_, rfl⟩
  rw [hT] at hl hcap hcs
  refine callsIn_of_wp Tryd.func104 rfl trivial ?_ rfl
  simp only [Tryd.ntmps104, List.size_toArray, List.length_cons, List.length_nil, Nat.reduceAdd, Nat.reduceSub, Array.replicate_succ, Array.replicate_zero, List.push_toArray, List.append_toArray, List.nil_append, List.cons_append]
  gi_wp2
  gi_loopw [4] (fun i wr => ∃ k : Nat, k ≤ K ∧ i = .int .i64 ((k * p : Nat) : Int) ∧ J ((List.finRange K).take k) wr ∧ But b N W wr) (fun i _ => T - (intOf i).toNat)
  case atStart => exact ⟨0, Nat.zero_le _, by simp, h0, But.refl _ _ _⟩
  case round =>
    obtain ⟨k, hk, rfl, hJs, hbu⟩ := hrel
    have c1 := (hbu.cell (p := ⟨Bs, 0, none⟩) hB.1 hB.2).trans hcs
    have c2 := (hbu.cell (p := ⟨Cs, 0, none⟩) hC.1 hC.2).trans hcc
    by_cases hlt : k < K
    · have hip : k * p + p ≤ T := by rw [← hT, ← Nat.succ_mul]; exact Nat.mul_le_mul_right p hlt
      have hi1 : (k + 1) * p = k * p + p := Nat.succ_mul k p
      have HY := Lib.hid (fun m => hY ((List.finRange K).take k) ⟨k, hlt⟩ (wr.drewN m) (hJd _ _ m hJs) (by rw [List.length_take, List.length_finRange]; omega))
      obtain ⟨i, hi⟩ : ∃ i, k * p = i := ⟨_, rfl⟩
      rw [hi] at hip hi1 HY
      rw [hi]
      have t1 : (i : Int) < T := by omega
      have t1' : i < T := by omega
      have t2 : (0 : Int) ≤ i := by omega
      have t3 : (i : Int) ≤ T := by omega
      have t4 : IntKind.i64.wrap ((i : Int) + (p : Int)) = ((i + p : Nat) : Int) := IntWalk.i64_in _ (by omega)
      have t5 : i ≤ T := by omega
      have t6 : min (p : Int) ((T - i : Nat) : Int) = (p : Int) := by omega
      have t7 : ¬ p = 0 := by omega
      have t8 : i + p ≤ cap := by omega
      have HI := Lib.hid hi1
      have HBU := Lib.hid hbu
      clear hi hi1 hbu hY hJs
      gi_wp2
      gi_quiet_th (fail)
      obtain ⟨fn, tmps, assign, body, hy, hR⟩ := HY.out nq
      have d1 : (wr.drewN nq).cell? ⟨Bs, 0, none⟩ = some (.slice (some y) T cap) := c1
      have d2 : (wr.drewN nq).cell? ⟨Cs, 0, none⟩ = some (.int .i64 (p : Int)) := c2
      gi_wp2
      refine hR.mono ?_
      rintro e W3 (⟨rfl, hJ3, hb3⟩ | ⟨rfl, hJx3⟩)
      · have d3 := (hb3.cell (p := ⟨Cs, 0, none⟩) hC.1 hC.2).trans d2
        gi_wp2
        go_roundw
        case rel => exact ⟨k + 1, by omega, by rw [HI.out]; first | rfl | go_num | simp, by rw [fin_take hlt]; exact hJ3, (HBU.out.drewN nq).trans hb3⟩
        case measure => simp [intOf]; omega
      · gi_wp2
        refine bodyPost_ret (results_none rfl _ _ _) rfl ?_
        exact ⟨⟨_, rfl⟩, .inr ⟨_, hJx3⟩⟩
    · obtain rfl : k = K := by omega
      rw [hT]
      gi_wp2
      go_end0
      rw [List.take_of_length_le (by rw [List.length_finRange]; exact Nat.le_refl _)] at hJs
      exact ⟨⟨_, rfl⟩, .inl hJs⟩
/-- The parts, as a sequence. -/
theorem chunk_stops (n : Nat) (hn : 1 ≤ n) (b N Bs Cs : Nat) (y : Addr) (p K cap : Nat) (hp : 1 ≤ p) (hl : K * p ≤ 1099511627776) (hcap : K * p ≤ cap) (w : World)
    (hB : Bs < N ∧ Bs ≠ b) (hC : Cs < N ∧ Cs ≠ b) (hN : N ≤ w.heap.size) (hcs : w.cell? ⟨Bs, 0, none⟩ = some (.slice (some y) (K * p) cap)) (hcc : w.cell? ⟨Cs, 0, none⟩ = some (.int .i64 (p : Int))) :
    SeqStopsK Fence.wide n Tryd.prog 104 #[.pointer (some ⟨Bs, 0, none⟩), .pointer (some ⟨Cs, 0, none⟩)] (fun x : Fin K => #[Value.slice (some (y.add (x.1 * p))) p p]) (But b N) (fun xs => xs = List.finRange K) (fun _ => True) K w := fun l J Jx W hW hJ _ hY h0 => by
  refine (chunk_in n hn l b N Bs Cs y p K cap hp hl hcap hB hC J Jx (fun s W m h => hJ s W _ none h ⟨rfl, rfl, rfl, Nat.le_refl _, fun _ _ _ => rfl⟩ (fun r e => by cases e)) hY W ((hW.cell (p := ⟨Bs, 0, none⟩) (Nat.lt_of_lt_of_le hB.1 hN)).trans hcs) ((hW.cell (p := ⟨Cs, 0, none⟩) (Nat.lt_of_lt_of_le hC.1 hN)).trans hcc) h0).mono ?_
  rintro e W' ⟨he, h | ⟨pre, h⟩⟩
  · exact ⟨he, .inl ⟨_, rfl, h⟩⟩
  · exact ⟨he, .inr ⟨_, trivial, h⟩⟩
end Go.Proofs.YtpjillclladjaaaDoor.Nee

namespace Go.Proofs.YtpjillclladjaaaDoor.Nee

open Go.RowKit Go.PlainAid Go.Shelf Go.Proofs.YtpjillclladjaaaDoor.Oct Go.Proofs.YtpjillclladjaaaDoor.Flt Go.Proofs.YtpjillclladjaaaDoor.Rdr Go.Proofs.YtpjillclladjaaaDoor.Args Go.Proofs.YtpjillclladjaaaDoor.Win

set_option linter.unusedVariables false

set_option linter.unusedSimpArgs false
attribute [local go_sem] Oper.semAt_some

theorem chunk_any (a : Option Addr) (len cap p : Nat) (hp : 1 ≤ p) (w : World) :
    Calls Tryd.prog 90 #[.slice a len cap, .int .i64 (p : Int)] w fun e w' => e = .returned (.func (.func 104) #[] #[.pointer (some ⟨w.heap.size, 0, none⟩), .pointer (some ⟨w.heap.size + 1, 0, none⟩)]) ∧ w' = (w.alloc (.cells #[.slice a len cap] 24)).alloc (.cells #[.int .i64 (p : Int)] 3) := by
  have h1 : ¬ (p : Int) < 1 := by omega
  go_enter Tryd.func90, Tryd.ntmps90
  go_wp2
  go_ret
  exact ⟨rfl, rfl⟩
/-- Between the parts: the box of the least so far. -/
def LsI (z : Int) (zs : List Int) (p T b N : Nat) (w3 : World) {K : Nat} (xs : List (Fin K)) (W : World) : Prop :=
  (W.cell? ⟨b, 0, none⟩ = some (.int .i64 ((minL z zs p T (xs.map Fin.val) : Nat) : Int)) ∧ W.frozen? ⟨b, 0, none⟩ = false) ∧ But b N w3 W
theorem But.drew {b N : Nat} {u v : World} (h : But b N u v) : But b N u v.drew := h.trans ⟨rfl, rfl, rfl, Nat.le_refl _, fun _ _ _ => rfl⟩
theorem But.grown {b N : Nat} {u v v' : World} {row : Option Nat} (h : But b N u v) (hN : N ≤ u.heap.size) (hg : v.grownBy v' row) (hr : ∀ r, row = some r → N ≤ r) : But b N u v' :=
  ⟨hg.os.trans h.os, hg.tape.trans h.tape, hg.output.trans h.output, Nat.le_trans h.size hg.size, fun k hk hb => (hg.block k (by have := h.size; omega) (fun e => by have := hr k e.symm; omega)).trans (h.block k hk hb)⟩
set_option maxRecDepth 100000 in
set_option maxHeartbeats 4000000 in
theorem least_any (z : Int) (zs : List Int) (y : Addr) (p K cap : Nat) (w : World) (ho : ZAt w y zs) (hy : y.block < w.heap.size) (hn : zs.length = K * p) (hp : 1 ≤ p) (hK : 1 ≤ K) (hl : K * p ≤ 1099511627776) (hcap : K * p ≤ cap) :
    Calls Tryd.prog 75 #[.slice (some y) (K * p) cap, .int .i64 z, .int .i64 (p : Int)] w fun e w' => e = .returned (.int .i64 (minC z zs p p K : Nat)) ∧ Below w.heap.size w w' := by
  refine (callsIn_wide (n := 3)).1 ?_
  refine callsIn_of_wp_marks Tryd.func75 rfl trivial ?_ rfl
  simp only [Tryd.ntmps75, List.size_toArray, List.length_cons, List.length_nil, Nat.reduceAdd, Nat.reduceSub, Array.replicate_succ, Array.replicate_zero, List.push_toArray, List.append_toArray, List.nil_append, List.cons_append]
  have HC := Lib.hid (fun W => chunk_any (some y) (K * p) cap p hp W)
  obtain ⟨T, hT⟩ : ∃ T, K * p = T := ⟨_, rfl⟩
  rw [hT] at HC
  rw [hT]
  gi_wp2_with fail
  refine ⟨trivial, (callsIn_wide.2 (HC.out _)).mono ?_⟩
  rintro e w3 ⟨rfl, rfl⟩
  gi_wp2
  have hb3 : Below w.heap.size w ((((w.alloc (.cells #[.int .i64 z] 3)).alloc (.cells #[.int .i64 (T : Int)] 3)).alloc (.cells #[.slice (some y) T cap] 24)).alloc (.cells #[.int .i64 (p : Int)] 3)) :=
    ((((Below.refl _ _).alloc (Nat.le_refl _) _).alloc (by simp) _).alloc (by simp; omega) _).alloc (by simp; omega) _
  have hs3 : ((((w.alloc (.cells #[.int .i64 z] 3)).alloc (.cells #[.int .i64 (T : Int)] 3)).alloc (.cells #[.slice (some y) T cap] 24)).alloc (.cells #[.int .i64 (p : Int)] 3)).heap.size = w.heap.size + 4 := by simp
  have k0 : ((((w.alloc (.cells #[.int .i64 z] 3)).alloc (.cells #[.int .i64 (T : Int)] 3)).alloc (.cells #[.slice (some y) T cap] 24)).alloc (.cells #[.int .i64 (p : Int)] 3)).cell? ⟨w.heap.size, 0, none⟩ = some (.int .i64 z) := by go_simp
  have k1 : ((((w.alloc (.cells #[.int .i64 z] 3)).alloc (.cells #[.int .i64 (T : Int)] 3)).alloc (.cells #[.slice (some y) T cap] 24)).alloc (.cells #[.int .i64 (p : Int)] 3)).cell? ⟨w.heap.size + 1, 0, none⟩ = some (.int .i64 (T : Int)) := by go_simp
  have f1 : ((((w.alloc (.cells #[.int .i64 z] 3)).alloc (.cells #[.int .i64 (T : Int)] 3)).alloc (.cells #[.slice (some y) T cap] 24)).alloc (.cells #[.int .i64 (p : Int)] 3)).frozen? ⟨w.heap.size + 1, 0, none⟩ = false := by go_simp
  have k2 : ((((w.alloc (.cells #[.int .i64 z] 3)).alloc (.cells #[.int .i64 (T : Int)] 3)).alloc (.cells #[.slice (some y) T cap] 24)).alloc (.cells #[.int .i64 (p : Int)] 3)).cell? ⟨w.heap.size + 1 + 1, 0, none⟩ = some (.slice (some y) T cap) := by go_simp
  have k3 : ((((w.alloc (.cells #[.int .i64 z] 3)).alloc (.cells #[.int .i64 (T : Int)] 3)).alloc (.cells #[.slice (some y) T cap] 24)).alloc (.cells #[.int .i64 (p : Int)] 3)).cell? ⟨w.heap.size + 1 + 1 + 1, 0, none⟩ = some (.int .i64 (p : Int)) := by go_simp
  generalize ((((w.alloc (.cells #[.int .i64 z] 3)).alloc (.cells #[.int .i64 (T : Int)] 3)).alloc (.cells #[.slice (some y) T cap] 24)).alloc (.cells #[.int .i64 (p : Int)] 3)) = w3 at *
  have hlen : ∀ x : Fin K, (chkZ zs p x.1).length = p := fun x => by
    unfold chkZ
    rw [List.length_take, List.length_drop, hn]
    have h := Nat.mul_le_mul_right p x.2
    rw [Nat.succ_mul] at h
    omega
  have hpT : p ≤ T := by rw [← hT]; exact Nat.le_trans (Nat.le_of_eq (Nat.one_mul p).symm) (Nat.mul_le_mul_right p hK)
  have hmin : minL z zs p T ((List.finRange K).map Fin.val) = minC z zs p p K := by
    have e : (List.finRange K).map Fin.val = List.range K := by
      apply List.ext_getElem
      · simp
      · intro i h1 h2; simp
    rw [e, minL_range]
    obtain ⟨K', rfl⟩ : ∃ k, K = k + 1 := ⟨K - 1, by omega⟩
    exact minC_same z zs p T hpT K'
  refine wpIn_rangeFunc_ownG rfl (by decide) (gf := 104) (lb := #[.pointer (some ⟨w.heap.size + 1 + 1, 0, none⟩), .pointer (some ⟨w.heap.size + 1 + 1 + 1, 0, none⟩)]) rfl trivial (enters_of Tryd.func104 (by kernel_rfl) rfl)
    (chunk_stops 2 (by decide) (w.heap.size + 1) (w.heap.size + 4) (w.heap.size + 1 + 1) (w.heap.size + 1 + 1 + 1) y p K cap hp hl hcap w3 ⟨by omega, by omega⟩ ⟨by omega, by omega⟩ (by omega) (by rw [hT]; exact k2) k3)
    But.trans (fun W l o o' h1 h2 h3 h4 => But.put (by omega) W l o o' h1 h2 h3 h4) (Below.refl _ _) (fun _ => rfl)
    (fun pre W => LsI z zs p T (w.heap.size + 1) (w.heap.size + 4) w3 pre W)
    (fun _ _ _ => False)
    (fun s A B row hs hg hr => ⟨⟨cell_kept hs.1.1 hg (fun r e => (hr r e).2), (frozen_kept hs.1.1 hg (fun r e => (hr r e).2)).trans hs.1.2⟩, hs.2.grown (by omega) hg (fun r e => by have := (hr r e).1; omega)⟩)
    (fun _ _ _ _ _ hs _ _ => hs)
    ⟨⟨k1, f1⟩, But.refl _ _ _⟩
    (fun x => { tmps := #[.slice (some y) T cap, .int .i64 z, .int .i64 (p : Int), undef, .pointer (some ⟨w.heap.size, 0, none⟩), undef, .int .i64 0, .pointer (some ⟨w.heap.size + 1, 0, none⟩), .slice (some (y.add (x.1 * p))) p p, .slice (some y) T cap, .int .i64 (T : Int), .slice (some y) T cap, .int .i64 (p : Int), .func (.func 104) #[] #[.pointer (some ⟨w.heap.size + 1 + 1, 0, none⟩), .pointer (some ⟨w.heap.size + 1 + 1 + 1, 0, none⟩)], .slice (some (y.add (x.1 * p))) p p, undef, undef, undef, undef, undef, undef], defers := [] }) ?assign ?body ?done ?stop
  case assign =>
    intro l x W K1 hK1
    gi_wp2
    exact hK1
  case body =>
    rintro l pre x W ⟨⟨hc, hf⟩, hbu⟩ hlt
    have c0 := (hbu.cell (p := ⟨w.heap.size, 0, none⟩) (by show w.heap.size < _; omega) (by show w.heap.size ≠ _; omega)).trans k0
    have hbw : Below w.heap.size w W := hb3.trans (hbu.below (by omega) (by omega))
    have hz : ZAt W (y.add (x.1 * p)) (chkZ zs p x.1) := (ho.kept hbw (fun _ => hy)).part (x.1 * p) p
    have HN := Lib.hid (fun W' (h : ZAt W' (y.add (x.1 * p)) (chkZ zs p x.1)) => ncount_any z (chkZ zs p x.1) (y.add (x.1 * p)) p p W' h (hlen x) (by omega))
    have hfn : Fence.wide.fn 91 := trivial
    have hd1 : 1 ≤ 3 - 1 - 1 := by decide
    have hmx : Tryd.prog.follows .mixedOrders = true := by kernel_rfl
    have hsn := minL_snoc z zs p T (pre.map Fin.val) x.1
    obtain ⟨mm, hmm⟩ : ∃ n, minL z zs p T (pre.map Fin.val) = n := ⟨_, rfl⟩
    obtain ⟨cn, hcn⟩ : ∃ n, cntZ z (chkZ zs p x.1) = n := ⟨_, rfl⟩
    rw [hmm, hcn] at hsn
    rw [hmm] at hc
    rw [hcn] at HN
    have HZ := Lib.hid hz
    have HBU := Lib.hid hbu
    have HSN : Hid (minL z zs p T ((pre ++ [x]).map Fin.val) = min mm cn) := by show _ = _; rw [List.map_append]; exact hsn
    clear hz hbu hsn hmm hcn hbw hmin hlen ho hn
    gi_wp2
    gi_region_with_o (gi_at_call 91; refine (CallsIn.inRound l (callsIn_wide.2 (HN.out W.drew HZ.out))).mono ?_; rintro e w' ⟨rfl, rfl⟩)
    all_goals gi_wp2
    all_goals exact ⟨((KeepsOthers.setCell _ _ _).trans (KeepsOthers.drew _)).from _, ((But.refl _ _ _).set _).drew, ⟨by rw [HSN.out, show (((min mm cn : Nat)) : Int) = min (mm : Int) (cn : Int) by omega]; exact World.cell?_setCell_same' _ _ _ (by rw [hc]; rfl), by rw [frozen_drew_own, World.frozen?_setCell]; exact hf⟩, (HBU.out.set _).drew⟩
  case done =>
    rintro D xs W hD rfl ⟨⟨hc, hf⟩, hbu⟩ hKd
    rw [hmin] at hc
    gi_wp2
    refine ⟨by simp, .inl ⟨_, _, rfl, run_takeDeferred hKd, ?_⟩⟩
    exact ⟨_, results_tmp rfl _ _ _, rfl, (hb3.trans (hbu.below (by omega) (by omega))).trans (belowK_b (w := w) (Nat.le_refl _) W D _ _ (by omega) hKd rfl rfl)⟩
  case stop =>
    rintro D c pre W _ _ h _
    exact h.elim
end Go.Proofs.YtpjillclladjaaaDoor.Nee

namespace Go.Proofs.YtpjillclladjaaaDoor.Nee

open Go.RowKit Go.PlainAid Go.Proofs.YtpjillclladjaaaDoor.Oct Go.Proofs.YtpjillclladjaaaDoor.Flt Go.Proofs.YtpjillclladjaaaDoor.Rdr Go.Proofs.YtpjillclladjaaaDoor.Args Go.Proofs.YtpjillclladjaaaDoor.Win

set_option linter.unusedVariables false

set_option linter.unusedSimpArgs false

/-- How often z stands from a place on, up to another one, among the first k. -/
def supN (z f t : Int) (zs : List Int) (k : Nat) : Nat := cntZ z (((zs.take k).take t.toNat).drop f.toNat)
theorem cntZ_app (z : Int) (a b : List Int) : cntZ z (a ++ b) = cntZ z a + cntZ z b := by unfold cntZ; exact List.countP_append
theorem sup_more (z f t : Int) (zs : List Int) (k : Nat) (v : Int) (h : zs[k]? = some v) :
    supN z f t zs (k + 1) = supN z f t zs k + (if f ≤ (k : Int) ∧ (k : Int) < t ∧ v = z then 1 else 0) := by
  obtain ⟨hl, _⟩ := List.getElem?_eq_some_iff.1 h
  have e : zs.take (k + 1) = zs.take k ++ [v] := by rw [List.take_add_one, h]; rfl
  have lk : (zs.take k).length = k := by rw [List.length_take]; omega
  unfold supN
  rw [e, List.take_append, lk, List.drop_append, List.length_take, lk, cntZ_app]
  congr 1
  by_cases h1 : f ≤ (k : Int)
  · by_cases h2 : (k : Int) < t
    · obtain ⟨s, hs⟩ : ∃ s, t.toNat - k = s + 1 := ⟨t.toNat - k - 1, by omega⟩
      rw [hs, show f.toNat - min t.toNat k = 0 by omega, List.drop_zero, List.take_succ_cons, List.take_nil]
      by_cases h3 : v = z
      · rw [if_pos ⟨h1, h2, h3⟩]; simp [cntZ, h3]
      · rw [if_neg (fun h => h3 h.2.2)]; simp [cntZ, h3]
    · rw [if_neg (fun h => h2 h.2.1), show t.toNat - k = 0 by omega]
      simp [cntZ]
  · rw [if_neg (fun h => h1 h.1)]
    rcases Nat.lt_or_ge k t.toNat with h2 | h2
    · obtain ⟨s, hs⟩ : ∃ s, f.toNat - min t.toNat k = s + 1 := ⟨f.toNat - min t.toNat k - 1, by omega⟩
      obtain ⟨s', hs'⟩ : ∃ s, t.toNat - k = s + 1 := ⟨t.toNat - k - 1, by omega⟩
      rw [hs, hs']
      simp [cntZ]
    · rw [show t.toNat - k = 0 by omega]
      simp [cntZ]
theorem sup_le (z f t : Int) (zs : List Int) (k : Nat) : supN z f t zs k ≤ k := by
  refine Nat.le_trans (cntZ_le _ _) ?_
  rw [List.length_drop, List.length_take, List.length_take]
  omega
/-- A part of some numbers. -/
theorem sup_chk (z : Int) (zs : List Int) (p k : Nat) : supN z ((k * p : Nat) : Int) ((k * p + p : Nat) : Int) zs zs.length = cntZ z (chkZ zs p k) := by
  unfold supN chkZ
  rw [List.take_length, Int.toNat_natCast, Int.toNat_natCast, List.drop_take, Nat.add_sub_cancel_left]
def RsRel (z f t : Int) (zs : List Int) (i v : Value) : Prop := ∃ k : Nat, k ≤ zs.length ∧ i = .int .i64 (k : Int) ∧ v = .int .i64 (supN z f t zs k : Nat)
set_option maxRecDepth 4000 in
set_option maxHeartbeats 3200000 in
theorem rsup_any (z f t : Int) (zs : List Int) (y : Addr) (n c : Nat) (w : World) (ho : ZAt w y zs) (hn : zs.length = n) (hl : n ≤ 1099511627776) :
    Calls Tryd.prog 46 #[.slice (some y) n c, .int .i64 z, .int .i64 f, .int .i64 t] w fun e w' => e = .returned (.int .i64 (supN z f t zs zs.length : Nat)) ∧ w = w' := by
  have HO := Lib.hid ho
  have HN := Lib.hid hn
  have HL : Hid (n ≤ 1099511627776) := hl
  obtain ⟨r, hr⟩ : ∃ r, supN z f t zs zs.length = r := ⟨_, rfl⟩
  have HR := Lib.hid hr
  rw [hr]
  clear ho hn hl hr
  go_enter Tryd.func46, Tryd.ntmps46
  go_wp2
  go_loop [10, 9] (fun i v => RsRel z f t zs i v) (fun i _ => n - (intOf i).toNat)
  case atStart => exact ⟨0, Nat.zero_le _, rfl, by simp [supN, cntZ]⟩
  case round =>
    obtain ⟨k, hk, rfl, rfl⟩ := hrel
    have hkn : k ≤ n := by rw [← HN.out]; exact hk
    by_cases hlt : k < n
    · obtain ⟨v, hv⟩ : ∃ v, zs[k]? = some v := ⟨_, List.getElem?_eq_getElem (by rw [HN.out]; exact hlt)⟩
      have hc := HO.out k v hv
      have hcm := sup_more z f t zs k v hv
      have hle := sup_le z f t zs k
      obtain ⟨q, hq⟩ : ∃ q, supN z f t zs k = q := ⟨_, rfl⟩
      rw [hq] at hcm hle
      rw [hq]
      have HCM := Lib.hid hcm
      have hl := HL.out
      have hki : (0 : Int) ≤ k := by omega
      have hkb : (k : Int) < n := by omega
      have hk1 : IntKind.i64.wrap ((k : Int) + 1) = (k : Int) + 1 := IntWalk.i64_in _ (by omega)
      have hq1 : IntKind.i64.wrap ((q : Int) + 1) = (q : Int) + 1 := IntWalk.i64_in _ (by omega)
      clear hv hcm hq hle hk
      by_cases h1 : f ≤ (k : Int)
      · have t1 : decide (f ≤ (k : Int)) = true := decide_eq_true h1
        by_cases h2 : (k : Int) < t
        · have t2 : decide ((k : Int) < t) = true := decide_eq_true h2
          by_cases hvz : v = z
          · have hvb : (v == z) = true := by simp [hvz]
            rw [if_pos ⟨h1, h2, hvz⟩] at HCM
            clear hvz
            go_wp2
            go_round
            case rel => exact ⟨k + 1, by rw [HN.out]; omega, by go_num, by rw [HCM.out]; simp⟩
            case measure => simp [intOf]; omega
          · have hvb : (v == z) = false := by simp [hvz]
            rw [if_neg (fun h => hvz h.2.2)] at HCM
            clear hvz
            go_wp2
            go_round
            case rel => exact ⟨k + 1, by rw [HN.out]; omega, by go_num, by rw [HCM.out]; simp⟩
            case measure => simp [intOf]; omega
        · have t2 : decide ((k : Int) < t) = false := decide_eq_false h2
          rw [if_neg (fun h => h2 h.2.1)] at HCM
          go_wp2
          go_round
          case rel => exact ⟨k + 1, by rw [HN.out]; omega, by go_num, by rw [HCM.out]; simp⟩
          case measure => simp [intOf]; omega
      · have t1 : decide (f ≤ (k : Int)) = false := decide_eq_false h1
        rw [if_neg (fun h => h1 h.1)] at HCM
        go_wp2
        go_round
        case rel => exact ⟨k + 1, by rw [HN.out]; omega, by go_num, by rw [HCM.out]; simp⟩
        case measure => simp [intOf]; omega
    · obtain rfl : k = n := by omega
      have e : supN z f t zs k = r := by rw [← HR.out, HN.out]
      rw [e]
      clear e
      go_wp2
      go_ret
      exact ⟨rfl, rfl⟩
def RlRel (z : Int) (zs : List Int) (p K : Nat) (i v : Value) : Prop := ∃ k : Nat, k ≤ K ∧ i = .int .i64 ((k * p : Nat) : Int) ∧ v = .int .i64 (minC z zs p p k : Nat)
set_option maxRecDepth 4000 in
set_option maxHeartbeats 3200000 in
theorem rleast_any (z : Int) (zs : List Int) (y : Addr) (p K cap : Nat) (w : World) (ho : ZAt w y zs) (hn : zs.length = K * p) (hp : 1 ≤ p) (hl : K * p ≤ 1099511627776) (hp2 : p ≤ 1099511627776) :
    Calls Tryd.prog 21 #[.slice (some y) (K * p) cap, .int .i64 z, .int .i64 (p : Int)] w fun e w' => e = .returned (.int .i64 (minC z zs p p K : Nat)) ∧ w = w' := by
  obtain ⟨T, hT⟩ : ∃ T, K * p = T := ⟨_, rfl⟩
  rw [hT] at hn hl
  rw [hT]
  have HS := Lib.hid (fun f t => rsup_any z f t zs y T cap w ho hn hl)
  have HT := Lib.hid hT
  have HL : Hid (T ≤ 1099511627776) := hl
  have HP : Hid (1 ≤ p ∧ p ≤ 1099511627776) := ⟨hp, hp2⟩
  obtain ⟨r, hr⟩ : ∃ r, minC z zs p p K = r := ⟨_, rfl⟩
  have HR := Lib.hid hr
  rw [hr]
  clear ho hn hl hr hT hp hp2
  go_enter Tryd.func21, Tryd.ntmps21
  go_wp2
  go_loop [8, 7] (fun i v => RlRel z zs p K i v) (fun i _ => T - (intOf i).toNat)
  case atStart => exact ⟨0, Nat.zero_le _, by simp, rfl⟩
  case round =>
    obtain ⟨k, hk, rfl, rfl⟩ := hrel
    by_cases hlt : k < K
    · have hip : k * p + p ≤ T := by rw [← HT.out, ← Nat.succ_mul]; exact Nat.mul_le_mul_right p hlt
      have hi1 : (k + 1) * p = k * p + p := Nat.succ_mul k p
      have hch := sup_chk z zs p k
      have hst : minC z zs p p (k + 1) = min (minC z zs p p k) (cntZ z (chkZ zs p k)) := rfl
      have HSK := Lib.hid (HS.out ((k * p : Nat) : Int) ((k * p + p : Nat) : Int))
      rw [hch] at HSK
      have hcl := chk_le z zs p k
      obtain ⟨i, hi⟩ : ∃ i, k * p = i := ⟨_, rfl⟩
      obtain ⟨cn, hcn⟩ : ∃ n, cntZ z (chkZ zs p k) = n := ⟨_, rfl⟩
      obtain ⟨m, hm⟩ : ∃ n, minC z zs p p k = n := ⟨_, rfl⟩
      rw [hi] at hip hi1 HSK
      rw [hcn] at HSK hst hcl
      rw [hm] at hst
      rw [hi, hm]
      have HI := Lib.hid hi1
      have HM := Lib.hid hst
      have hl := HL.out
      have hp := HP.out
      have t1 : (i : Int) < T := by omega
      have t2 : IntKind.i64.wrap ((i : Int) + (p : Int)) = ((i + p : Nat) : Int) := IntWalk.i64_in _ (by omega)
      clear hi hi1 hcn hm hst hch
      by_cases hc : cn < m
      · have t3 : decide ((cn : Int) < m) = true := decide_eq_true (by omega)
        rw [Nat.min_eq_right (Nat.le_of_lt hc)] at HM
        go_wp2_with fail
        refine HSK.out.mono ?_
        rintro e w2 ⟨rfl, rfl⟩
        go_wp2
        go_round
        case rel => exact ⟨k + 1, by omega, by rw [HI.out]; first | rfl | go_num | simp, by rw [HM.out]⟩
        case measure => simp [intOf]; omega
      · have t3 : decide ((cn : Int) < m) = false := decide_eq_false (by omega)
        rw [Nat.min_eq_left (by omega)] at HM
        go_wp2_with fail
        refine HSK.out.mono ?_
        rintro e w2 ⟨rfl, rfl⟩
        go_wp2
        go_round
        case rel => exact ⟨k + 1, by omega, by rw [HI.out]; first | rfl | go_num | simp, by rw [HM.out]⟩
        case measure => simp [intOf]; omega
    · obtain rfl : k = K := by omega
      rw [HT.out, HR.out]
      go_wp2
      go_ret
      exact ⟨rfl, rfl⟩
end Go.Proofs.YtpjillclladjaaaDoor.Nee
