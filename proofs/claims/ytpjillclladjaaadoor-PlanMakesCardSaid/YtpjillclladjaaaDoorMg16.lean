/- Windows: how many ticks are somebody's. Condition: at most 400 windows of plain numbers, a frame of 1 to 1,048,576. Words: how often a number stands in one, whether two are one, as the document tells it. Condition: at most 2 to the power 40 numbers. Windows: the first that is somebody's (slices.IndexFunc at Gaps' closure). Condition: at most 2 to the power 40 windows. -/
import Derived.Test.YtpjillclladjaaaDoorMg15
import Derived.OwnWalk
import Derived.Test.YtpjillclladjaaaDoorMg10
import Derived.BigQuiet
namespace Go.Proofs.YtpjillclladjaaaDoor.Win

open Go.RowKit Go.PlainAid Go.Proofs.YtpjillclladjaaaDoor.Oct Go.Proofs.YtpjillclladjaaaDoor.Flt Go.Proofs.YtpjillclladjaaaDoor.Rdr Go.Proofs.YtpjillclladjaaaDoor.Args

open Go.Proofs.YtpjillclladjaaaDoor.Act (A3 actL flatA flatA_snoc flatA_get flatA_len ActsAt I64 Wide row_beside row_base)

set_option linter.unusedVariables false

set_option linter.unusedSimpArgs false

def nobody (v : Int) : Bool := v == -1
/-- The lengths of what is somebody's, together. -/
def busyS : List A3 → Int
  | [] => 0
  | x :: l => (if x.s = -1 then 0 else x.a) + busyS l
theorem busy_snoc (x : A3) : ∀ l : List A3, busyS (l ++ [x]) = busyS l + (if x.s = -1 then 0 else x.a)
  | [] => by simp [busyS]
  | y :: l => by simp only [List.cons_append, busyS, busy_snoc x l]; omega
theorem busy_in {cs : List Int} {fr : Int} {l : List A3} {m : Nat} (h : Cuts cs fr) (hm : cs.length = m + 1) : ∀ k, k ≤ m → 0 ≤ busyS ((rowsL fr l cs m).take k) ∧ busyS ((rowsL fr l cs m).take k) ≤ cut cs k
  | 0, _ => by
    have := (cut_in h hm (Nat.zero_le m)).1
    simp [busyS]; exact this
  | k + 1, hk => by
    have ih := busy_in (l := l) h hm k (by omega)
    rw [rowsL_take fr l cs (by omega), busy_snoc]
    have h1 : cut cs k < cut cs (k + 1) := by
      unfold cut
      rw [List.getElem?_eq_getElem (by omega), List.getElem?_eq_getElem (by omega)]
      exact rising_lt h.1 (Nat.lt_succ_self k) (by omega)
    dsimp only
    split <;> omega
def CtRel (m : Nat) (L : List A3) (w2 : World) (i v : Value) (wr : World) : Prop :=
  ∃ k : Nat, k ≤ m ∧ i = .int .i64 (k : Int) ∧ v = .int .i64 (busyS (L.take k)) ∧ Below w2.heap.size w2 wr
theorem own_winsL {w : World} {B n : Nat} {A : Option Addr} {c : Nat} {l : List A3} (h : w.ownsRow B 82 3 (.slice A n c) n (flatA l)) (hn : n = l.length) : ActsAt w A l := by
  subst hn
  intro i x hx
  have hi : i < l.length := (List.getElem?_eq_some_iff.1 hx).1
  rcases h.2 with ⟨e, h0⟩ | ⟨G, c', cur, e, h2, h3, h4⟩
  · omega
  · cases e
    have e : (Addr.mk G 0 none).add (i * 3) = ⟨G, i * 3, none⟩ := by
      rcases Nat.eq_zero_or_pos (i * 3) with h0 | h0
      · rw [h0]; simp [Addr.add]
      · simp [Addr.add]; omega
    refine ⟨_, rfl, ?_, ?_, ?_⟩
    · have := h.cellAt (i * 3 + 0) (by omega)
      rw [flatA_get l i x 0 hx (by omega)] at this
      rw [e]; exact this
    · have := h.cellAt (i * 3 + 1) (by omega)
      rw [flatA_get l i x 1 hx (by omega)] at this
      rw [e]; exact this
    · have := h.cellAt (i * 3 + 2) (by omega)
      rw [flatA_get l i x 2 hx (by omega)] at this
      rw [e]; exact this
end Go.Proofs.YtpjillclladjaaaDoor.Win
namespace Go.Proofs.YtpjillclladjaaaDoor.Win

open Go.RowKit Go.PlainAid Go.Proofs.YtpjillclladjaaaDoor.Oct Go.Proofs.YtpjillclladjaaaDoor.Flt Go.Proofs.YtpjillclladjaaaDoor.Rdr Go.Proofs.YtpjillclladjaaaDoor.Args

set_option linter.unusedVariables false

set_option linter.unusedSimpArgs false

def cntZ (z : Int) (l : List Int) : Nat := l.countP (· == z)
theorem cntZ_more (z : Int) (l : List Int) (k : Nat) (v : Int) (h : l[k]? = some v) : cntZ z (l.take (k + 1)) = cntZ z (l.take k) + (if v = z then 1 else 0) := by
  unfold cntZ
  rw [List.take_add_one, h]
  simp [List.countP_append, List.countP_cons]
theorem cntZ_le (z : Int) (l : List Int) : cntZ z l ≤ l.length := List.countP_le_length
def RcRel (z : Int) (zs : List Int) (i v : Value) : Prop := ∃ k : Nat, k ≤ zs.length ∧ i = .int .i64 (k : Int) ∧ v = .int .i64 (cntZ z (zs.take k) : Nat)
set_option maxRecDepth 4000 in
set_option maxHeartbeats 1600000 in
theorem sameints_any (zs : List Int) (g g' n c c' B B' : Nat) (w : World) (ho : w.ownsRow B 3 1 (.slice (some ⟨g, 0, none⟩) n c) n (zs.map (Value.int .i64))) (ho' : w.ownsRow B' 3 1 (.slice (some ⟨g', 0, none⟩) n c') n (zs.map (Value.int .i64))) (hn : zs.length = n) (hl : n ≤ 1099511627776) :
    Calls Tryd.prog 16 #[.slice (some ⟨g, 0, none⟩) n c, .slice (some ⟨g', 0, none⟩) n c'] w fun e w' => e = .returned (.bool true) ∧ Below w.heap.size w w' := by
  have HO := Lib.hid ho
  have HO' := Lib.hid ho'
  have HN := Lib.hid hn
  have HL : Hid (n ≤ 1099511627776) := hl
  clear ho ho' hn hl
  go_enter Tryd.func16, Tryd.ntmps16
  go_wp2
  go_loopw [5] (fun i wr => ∃ k : Nat, k ≤ n ∧ i = .int .i64 (k : Int) ∧ Below w.heap.size w wr) (fun i _ => n - (intOf i).toNat)
  case atStart => exact ⟨0, Nat.zero_le _, rfl, Below.refl _ _⟩
  case round =>
    obtain ⟨k, hk, rfl, hb⟩ := hrel
    have HB := Lib.hid hb
    clear hb
    by_cases hlt : k < n
    · obtain ⟨v, hv⟩ : ∃ v, zs[k]? = some v := ⟨_, List.getElem?_eq_getElem (by rw [HN.out]; exact hlt)⟩
      have hc := HO.out.cellAt k (by omega)
      have hc' := HO'.out.cellAt k (by omega)
      rw [List.getElem?_map, hv] at hc hc'
      simp only [Option.map_some] at hc hc'
      have hd := (HB.out.cell (p := ⟨g, k, none⟩) (HO.out.lt g rfl).2).trans hc
      have hd' := (HB.out.cell (p := ⟨g', k, none⟩) (HO'.out.lt g' rfl).2).trans hc'
      have hl := HL.out
      have hki : (0 : Int) ≤ k := by omega
      have hkb : (k : Int) < n := by omega
      have hk1 : IntKind.i64.wrap ((k : Int) + 1) = (k : Int) + 1 := IntWalk.i64_in _ (by omega)
      clear hv hc hc'
      go_wp2_with fail
      go_quiet (fail)
      go_wp2
      go_roundw
      case rel => exact ⟨k + 1, by omega, by go_num, ⟨HB.out.os, HB.out.tape, HB.out.output, HB.out.size, HB.out.block⟩⟩
      case measure => simp [intOf]; omega
    · obtain rfl : k = n := by omega
      go_wp2
      go_ret
      exact ⟨rfl, HB.out⟩
end Go.Proofs.YtpjillclladjaaaDoor.Win

namespace Go.Proofs.YtpjillclladjaaaDoor.Win

open Go.RowKit Go.PlainAid Go.Proofs.YtpjillclladjaaaDoor.Oct Go.Proofs.YtpjillclladjaaaDoor.Flt Go.Proofs.YtpjillclladjaaaDoor.Rdr Go.Proofs.YtpjillclladjaaaDoor.Args

open Go.Proofs.YtpjillclladjaaaDoor.Act (A3 actL flatA ActsAt I64 Wide row_beside row_base)

set_option linter.unusedVariables false

set_option linter.unusedSimpArgs false

/-- The place of the first that is somebody's; or -1. -/
def someI (l : List A3) : Int := match l.findIdx? (fun x => !nobody x.s) with | some k => (k : Int) | none => -1
theorem someI_at {l : List A3} {k : Nat} {x : A3} (hx : l[k]? = some x) (hs : nobody x.s = false) (hb : ∀ j y, j < k → l[j]? = some y → nobody y.s = true) : someI l = (k : Int) := by
  have hk : k < l.length := (List.getElem?_eq_some_iff.1 hx).1
  have h : l.findIdx? (fun x => !nobody x.s) = some k := by
    rw [List.findIdx?_eq_some_iff_getElem]
    refine ⟨hk, ?_, fun j hj => ?_⟩
    · have e : l[k] = x := (List.getElem?_eq_some_iff.1 hx).2
      rw [e, hs]; rfl
    · have := hb j l[j] hj (List.getElem?_eq_getElem (by omega))
      rw [this]; simp
  unfold someI
  rw [h]
theorem someI_none {l : List A3} (hb : ∀ j y, j < l.length → l[j]? = some y → nobody y.s = true) : someI l = -1 := by
  have h : l.findIdx? (fun x => !nobody x.s) = none := by
    rw [List.findIdx?_eq_none_iff]
    intro x hx
    obtain ⟨j, hj, rfl⟩ := List.mem_iff_getElem.1 hx
    rw [hb j _ hj (List.getElem?_eq_getElem hj)]; rfl
  unfold someI
  rw [h]
def IxRel (l : List A3) (w : World) (i : Value) (wr : World) : Prop := ∃ k : Nat, k ≤ l.length ∧ i = .int .i64 (k : Int) ∧ (∀ j y, j < k → l[j]? = some y → nobody y.s = true) ∧ Below w.heap.size w wr
end Go.Proofs.YtpjillclladjaaaDoor.Win
