/- What the calls of package octet that only reckon (width, Fits, Bit, Count, Signed), and the document's answers for them (Size, power, Fits, Bit, Count, Signed), return, for every argument. No condition but that the arguments fit their kinds. What package octet's Bit and Signed return, and the document's Bit, Fits and Signed, for every argument. No condition but that the arguments fit their kinds. What package octet's Get, and the document's, return: the number of the bytes there, or 0 and false. Condition: the text takes no more than what the model lets a text take. What package reader's calls do to a reader: its text, place, section, and what is wrong: New, Enter, Err, Fault, Place, Left, Fail, Need. Condition: the table of names holds what the program lays there. What package reader's Fail and Need do to a reader: the first that is wrong is kept. Condition: the table of names holds what the program lays there. -/
import Derived.Test.YtpjillclladjaaaDoorProg
import Derived.Test.YtpjillclladjaaaDoorMg05
import Derived.WalkKit
import Derived.Lib.Hide
import Derived.Test.YtpjillclladjaaaDoorMg04
import Derived.Deep.RegionWith
import Derived.Deep.QuietTactic
import Derived.BigQuiet
namespace Go.Proofs.YtpjillclladjaaaDoor.Oct

open Go.RowKit

theorem width_any (n : Int) (w : World) :
    Calls Tryd.prog 97 #[.int .i64 n] w fun e w' => e = .returned (.int .i64 (wd n)) ∧ w = w' := by
  rcases size_cases n with rfl | rfl | rfl | rfl | ⟨h1, h2, h4, h8⟩
  iterate 4
    · go_enter Tryd.func97, Tryd.ntmps97
      go_wp2
      go_ret
      exact ⟨rfl, rfl⟩
  · have e := wd_none ⟨h1, h2, h4, h8⟩
    have b1 : (n == 1) = false := by simpa using h1
    have b2 : (n == 2) = false := by simpa using h2
    have b4 : (n == 4) = false := by simpa using h4
    have b8 : (n == 8) = false := by simpa using h8
    rw [e]
    clear e
    go_enter Tryd.func97, Tryd.ntmps97
    go_wp2
    go_ret
    exact ⟨rfl, rfl⟩

theorem width_at {n m : Int} (h : wd n = m) (w : World) :
    Calls Tryd.prog 97 #[.int .i64 n] w fun e w' => e = .returned (.int .i64 m) ∧ w = w' := by
  subst h; exact width_any n w
/-- Whether a number fits, asked of the program. -/
theorem fits_any (v : Nat) (n : Int) (hv : v ≤ 18446744073709551615) (w : World) :
    Calls Tryd.prog 80 #[.int .u64 v, .int .i64 n] w fun e w' => e = .returned (.bool (fitB v n)) ∧ w = w' := by
  rcases size_cases n with rfl | rfl | rfl | rfl | h
  · go_enter Tryd.func80, Tryd.ntmps80
    go_wp2_with (go_at_call 97; refine (width_at (m := 8) rfl _).mono ?_; rintro e w' ⟨rfl, rfl⟩)
    go_ret
    exact ⟨ret_bool (fit_1 v), rfl⟩
  · go_enter Tryd.func80, Tryd.ntmps80
    go_wp2_with (go_at_call 97; refine (width_at (m := 16) rfl _).mono ?_; rintro e w' ⟨rfl, rfl⟩)
    go_ret
    exact ⟨ret_bool (fit_2 v), rfl⟩
  · go_enter Tryd.func80, Tryd.ntmps80
    go_wp2_with (go_at_call 97; refine (width_at (m := 32) rfl _).mono ?_; rintro e w' ⟨rfl, rfl⟩)
    go_ret
    exact ⟨ret_bool (fit_4 v), rfl⟩
  · have hz : ((v : Int) / 18446744073709551616 == 0) = true := by simp; omega
    go_enter Tryd.func80, Tryd.ntmps80
    go_wp2_with (go_at_call 97; refine (width_at (m := 64) rfl _).mono ?_; rintro e w' ⟨rfl, rfl⟩)
    go_ret
    exact ⟨ret_bool (fitB_8 v).symm, rfl⟩
  · have hw := wd_none h
    have hf := fitB_none v h
    rw [hf]
    go_enter Tryd.func80, Tryd.ntmps80
    go_wp2_with (go_at_call 97; refine (width_at hw _).mono ?_; rintro e w' ⟨rfl, rfl⟩)
    go_ret
    exact ⟨rfl, rfl⟩
end Go.Proofs.YtpjillclladjaaaDoor.Oct

namespace Go.Proofs.YtpjillclladjaaaDoor.Oct

open Go.RowKit

/-- Bit k of v. -/
def bitB (v k : Nat) : Bool := v / 2 ^ k % 2 == 1
theorem bit_run (v k : Nat) (hv : v ≤ 18446744073709551615) : bits .and .u64 ((v : Int) / 2 ^ k) 1 = ((v / 2 ^ k % 2 : Nat) : Int) := by
  have h := and_one_run (v / 2 ^ k) (by have := Nat.div_le_self v (2 ^ k); omega)
  rw [Int.natCast_ediv] at h
  simpa using h
theorem bit_end (v k : Nat) : (((v / 2 ^ k % 2 : Nat) : Int) == 1) = bitB v k := by
  unfold bitB; generalize v / 2 ^ k % 2 = x; rw [Bool.eq_iff_iff]; simp; omega
theorem div_step (v j : Nat) : v / 2 ^ (j + 1) = v / 2 ^ j / 2 := by rw [Nat.pow_succ, Nat.div_div_eq_div_mul]

end Go.Proofs.YtpjillclladjaaaDoor.Oct

namespace Go.Proofs.YtpjillclladjaaaDoor.Oct

open Go.RowKit Go.PlainAid

/-- Are n bytes there from place p on? -/
def getB (s : ByteArray) (p n : Int) : Bool := sizeB n && decide (0 ≤ p) && decide (p + n ≤ s.size)
/-- The number that is got. -/
def getV (s : ByteArray) (p n : Int) : Nat := if getB s p n then getN s p.toNat n.toNat else 0
theorem getV_lt (s : ByteArray) (p n : Int) : getV s p n ≤ 18446744073709551615 := by
  unfold getV
  split
  · rename_i h
    unfold getB at h
    simp at h
    obtain ⟨k, rfl, h1, h2, h3⟩ := size_nat h.1.1
    have := getN_lt8 s p.toNat (k : Int).toNat (by omega)
    omega
  · omega

end Go.Proofs.YtpjillclladjaaaDoor.Oct
namespace Go.Proofs.YtpjillclladjaaaDoor.Rdr

open Go.RowKit Go.PlainAid Go.Proofs.YtpjillclladjaaaDoor.Flt

/-- A reader: its text, its place, its section, and what is wrong (class 0: nothing), where. -/
structure St where
  s : ByteArray
  p : Nat
  sec : Int
  k : Nat
  fs : Int
  fa : Int
/-- What is wrong, as an error. -/
def Wrong (w : World) (x : Value) (k : Nat) (s a : Int) : Prop := (k = 0 ∧ s = 0 ∧ a = 0 ∧ x = .nilIface) ∨ (1 ≤ k ∧ k ≤ 18 ∧ IsFault w x [(true, s), (false, a)] k)
def rdCells (t : St) (x : Value) : Array Value := #[.string t.s, .int .i64 t.p, .int .i64 t.sec, x]
/-- All that was there, but block g, is as it was. -/
structure Just (g : Nat) (w w' : World) : Prop where
  os : w'.os = w.os
  tape : w'.tape = w.tape
  output : w'.output = w.output
  size : w.heap.size ≤ w'.heap.size
  block : ∀ k, k < w.heap.size → k ≠ g → w'.heap[k]? = w.heap[k]?
theorem Just.refl (g : Nat) (w : World) : Just g w w := ⟨rfl, rfl, rfl, Nat.le_refl _, fun _ _ _ => rfl⟩
theorem Just.of_below {g : Nat} {w w' : World} (b : Below w.heap.size w w') : Just g w w' := ⟨b.os, b.tape, b.output, b.size, fun k hk _ => b.block k hk⟩
theorem Just.trans {g : Nat} {a b c : World} (h : Just g a b) (k : Just g b c) : Just g a c :=
  ⟨k.os.trans h.os, k.tape.trans h.tape, k.output.trans h.output, Nat.le_trans h.size k.size, fun i hi hg => (k.block i (Nat.lt_of_lt_of_le hi h.size) hg).trans (h.block i hi hg)⟩
theorem Just.setCell {g : Nat} {a w : World} (h : Just g a w) (o : Nat) (v : Value) : Just g a (w.setCell ⟨g, o, none⟩ v) := by
  have b := (Below.refl 0 w).setCell (p := ⟨g, o, none⟩) (Nat.zero_le _) v
  exact ⟨b.os.trans h.os, b.tape.trans h.tape, b.output.trans h.output, Nat.le_trans h.size b.size, fun k hk hg => (heap_setCell_other w _ k v hg).trans (h.block k hk hg)⟩
theorem Just.below {g B : Nat} {w w' : World} (h : Just g w w') (hB : B ≤ g) (hg : g < w.heap.size) : Below B w w' := ⟨h.os, h.tape, h.output, h.size, fun k hk => h.block k (by omega) (by omega)⟩
theorem Just.drew {g : Nat} {a w : World} (h : Just g a w) : Just g a w.drew := ⟨h.os, h.tape, h.output, h.size, h.block⟩
theorem Wrong.kept {w w' : World} {x : Value} {k : Nat} {s a : Int} (h : Wrong w x k s a) (b : KeptW w w') : Wrong w' x k s a := by
  rcases h with h | ⟨h1, h2, h3⟩
  · exact .inl h
  · exact .inr ⟨h1, h2, h3.only b⟩
theorem of_wrong {x : Value} {k : Nat} {s a : Int} {w0 : World} (w : World) (hw : Wrong w0 x k s a) (hk : KeptW w0 w) :
    Calls Tryd.prog 12 #[x] w fun e w' => e = .returned (fltV k s a) ∧ Below w.heap.size w w' := by
  rcases hw with ⟨rfl, rfl, rfl, rfl⟩ | ⟨_, _, h⟩
  · exact of_nil w
  · exact of_any x [(true, s), (false, a)] k w (h.only hk) (by simp)
def secS (t : St) (n : Int) : St := { t with sec := n }
end Go.Proofs.YtpjillclladjaaaDoor.Rdr

namespace Go.Proofs.YtpjillclladjaaaDoor.Rdr

open Go.RowKit Go.PlainAid Go.Proofs.YtpjillclladjaaaDoor.Flt

def failS (t : St) (k a : Int) : St := if t.k = 0 ∧ 1 ≤ k ∧ k ≤ 18 then { t with k := k.toNat, fs := t.sec, fa := a } else t
theorem fail_had {t : St} {k a : Int} (h : t.k ≠ 0) : failS t k a = t := by unfold failS; rw [if_neg (by omega)]
theorem fail_no {t : St} {k a : Int} (h : k < 1 ∨ 18 < k) : failS t k a = t := by unfold failS; rw [if_neg (by omega)]
theorem fail_yes {t : St} {k : Nat} {a : Int} (h0 : t.k = 0) (h1 : 1 ≤ k) (h2 : k ≤ 18) : failS t k a = { t with k := k, fs := t.sec, fa := a } := by
  unfold failS; rw [if_pos (by omega)]; simp
theorem err_of {w : World} {x : Value} {ws : List (Bool × Int)} {k : Int} (h : IsFault w x ws k) : ∃ u y, x = .iface u y := by
  cases ws with
  | nil => exact ⟨_, _, h⟩
  | cons a ws => obtain ⟨g, y, e, _⟩ := h; exact ⟨_, _, e⟩
end Go.Proofs.YtpjillclladjaaaDoor.Rdr
