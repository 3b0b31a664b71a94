/- Needs: the word of a schedule whose numbers may be; whether a schedule may be asked about; the least of all periods (need.Least). Conditions: 1 to 1,048,576 ticks, at most 400 windows. -/
import Derived.Test.YtpjillclladjaaaDoorMg17
import Derived.Test.YtpjillclladjaaaDoorMg25
import Derived.Test.YtpjillclladjaaaDoorMg42
import Derived.Test.YtpjillclladjaaaDoorMg40
import Derived.Test.YtpjillclladjaaaDoorMg43
namespace Go.Proofs.YtpjillclladjaaaDoor.Nee

open Go.RowKit Go.PlainAid Go.Proofs.YtpjillclladjaaaDoor.Oct Go.Proofs.YtpjillclladjaaaDoor.Flt Go.Proofs.YtpjillclladjaaaDoor.Rdr Go.Proofs.YtpjillclladjaaaDoor.Args Go.Proofs.YtpjillclladjaaaDoor.Win

open Go.Proofs.YtpjillclladjaaaDoor.Act (A3 ActsAt I64 Wide)

open Go.Proofs.YtpjillclladjaaaDoor.Scd (SC scC rgS rgS_in rowB)

set_option linter.unusedVariables false

set_option linter.unusedSimpArgs false

theorem rowsL_small2 {cs : List Int} {fr : Int} {l L : List A3} {m : Nat} (h : Cuts cs fr) (hm : cs.length = m + 1) (hL : rowsL fr l cs m = L) : ∀ x ∈ L, x.a ≤ fr := by
  intro x hx
  rw [← hL] at hx
  unfold rowsL at hx
  obtain ⟨q, hq, rfl⟩ := List.mem_map.1 hx
  have hqm : q < m := List.mem_range.1 hq
  have h1 := cut_in h hm (show q ≤ m by omega)
  have h2 := cut_in h hm (show q + 1 ≤ m by omega)
  show cut cs (q + 1) - cut cs q ≤ fr
  omega
theorem word_take_len2 (L : List A3) (k : Nat) : (wordL (L.take k)).length ≤ (wordL L).length := by
  have e : wordL L = wordL (L.take k) ++ wordL (L.drop k) := by
    unfold wordL
    rw [← List.flatMap_append, List.take_append_drop]
  rw [e, List.length_append]
  omega
/-- window.Word of a schedule: whose each tick is. -/
theorem word_at (id : Int) (fn : Nat) (P C : Option Addr) (l : List A3) (pc nn cc : Nat) (w : World) (hacts : ActsAt w P l) (hnum : ∀ x ∈ l, Num x) (hf : 1 ≤ fn ∧ fn ≤ 1048576) (hl : l.length ≤ 400) :
    WordAt #[.int .i64 id, .int .i64 (fn : Int), .slice P l.length pc, .slice C nn cc] (ticksL (ownT (fn : Int) l) 0 fn) fn w := fun W b => by
  have hcs := cutsOf_cuts (fn : Int) l (by omega) hnum
  have hc2 := cutsOf_two (fn : Int) l (by omega) hnum
  obtain ⟨m, hm⟩ : ∃ m, (cutsOf (fn : Int) l).length = m + 1 := ⟨(cutsOf (fn : Int) l).length - 1, by omega⟩
  have hmm : m ≤ 1000 := by have := cutsOf_le (fn : Int) l; omega
  have hmf : ∀ x ∈ l, fW (fn : Int) x ∈ cutsOf fn l := fun x hx => (cutsOf_mem _ _ _).2 (.inr (.inr ⟨x, hx, .inl rfl⟩))
  have hmt : ∀ x ∈ l, tW (fn : Int) x ∈ cutsOf fn l := fun x hx => (cutsOf_mem _ _ _).2 (.inr (.inr ⟨x, hx, .inr rfl⟩))
  obtain ⟨L, hL⟩ : ∃ L, rowsL (fn : Int) l (cutsOf fn l) m = L := ⟨_, rfl⟩
  have hwl : (ticksL (ownT (fn : Int) l) 0 fn).length = fn := ticks_len _ _ _
  have hw : wordL L = ticksL (ownT (fn : Int) l) 0 fn := by
    have h := rows_word hcs hm hmf hmt
    rw [show ((fn : Int)).toNat = fn from rfl, hL] at h
    exact h
  have hpos : ∀ x ∈ L, 0 < x.a := by rw [← hL]; exact rows_pos hcs hm
  have hLn := rowsL_small2 hcs hm hL
  have hLw := word_take_len2 L
  have h := word_any id fn P pc l C nn cc W (hacts.kept b) hnum hf hl m hm L hL (fun x hx => ⟨by have := hpos x hx; omega, by have := hLn x hx; omega⟩) (fun k => by have := hLw k; rw [hw, hwl] at this; omega) (by omega) hmm
  rw [hw, hwl] at h
  exact h
theorem num_of {x : A3} (h : rowB x = true) : Num x ∧ 0 ≤ x.s := by
  unfold rowB Go.Proofs.YtpjillclladjaaaDoor.Scd.tkB Go.Proofs.YtpjillclladjaaaDoor.Act.idB at h
  simp at h
  unfold Num
  omega
/-- May a schedule not be asked about? -/
def lgB (x : SC) : Bool := decide (rgS x ≠ 0) || decide (200 < x.fr) || decide (30 < x.ws.length)
theorem divB_true {q : Int} {n : Nat} (h : divB q n = true) : 1 ≤ q ∧ n / q.toNat * q.toNat = n := by
  unfold divB at h
  simp only [Bool.and_eq_true, decide_eq_true_eq, beq_iff_eq] at h
  obtain ⟨h1, h2⟩ := h
  refine ⟨h1, ?_⟩
  obtain ⟨p, rfl⟩ : ∃ p : Nat, q = (p : Int) := ⟨q.toNat, by omega⟩
  rw [Int.toNat_natCast]
  have h3 : n % p = 0 := by
    rw [← Int.natCast_emod] at h2
    exact_mod_cast h2
  exact Nat.div_mul_cancel (Nat.dvd_of_mod_eq_zero h3)
/-- What need.Least tells. -/
def lsV (z q : Int) (ws : List Int) (n : Nat) : Nat := if divB q n then minC z ws q.toNat q.toNat (n / q.toNat) else 0
/-- The chapter's example. -/
def exL : List A3 := [⟨1, 0, 4⟩]
theorem ex_word : ticksL (ownT (10 : Int) exL) 0 10 = [1, 1, 1, 1, -1, -1, -1, -1, -1, -1] := by rfl
theorem ex_least : lsV 1 5 [1, 1, 1, 1, -1, -1, -1, -1, -1, -1] 10 = 0 ∧ divB 5 10 = true := ⟨by rfl, by rfl⟩
theorem ex_black : bestD 1 [1, 1, 1, 1, -1, -1, -1, -1, -1, -1] 10 = 6 := by rfl
end Go.Proofs.YtpjillclladjaaaDoor.Nee
