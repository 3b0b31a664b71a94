/- What package name's Put lays behind bytes, the document's bytes of a name, and that they are read as the name. Condition: at most 2 to the power 30 bytes come in. What the document's bytes of a name are, and that package name's Get reads them as the name. No condition. Bytes in slices: what slices.Clone, slices.Grow of nothing and slices.Concat of two hand back. Condition: at most 2 to the power 40 bytes come in. What package header's Put lays behind bytes. Condition: the variables hold what the program lays there; at most 2 to the power 30 bytes come in. The chapter's example, asked of the program: it returns true, and changes nothing that was there. No condition. Bytes that came in, and bytes of the call's own, as text. No condition. A partition's bytes, as the program makes them. Condition: the partition is right. What package parts' Put lays behind bytes. Condition: the variables hold what the program lays there; at most 2 to the power 30 bytes come in. The document's bytes of partitions. Condition: they are right. -/
import Derived.Test.YtmcmmbkodllpkaaGreatDoorMg07
import Derived.Test.YtmcmmbkodllpkaaGreatDoorMg08
import Derived.Lib.AppendStr
import Derived.Laws.AppendOwnNone
import Derived.Lib.AppendZerosOnto
import Derived.Lib.AppendZeros
import Derived.Lib.SliceRun
import Derived.IntWalk
import Derived.Lib.SlBytesConst
import Derived.Test.YtmcmmbkodllpkaaGreatDoorMg01
import Derived.ChangeSame
import Derived.Deep.RegionHeld3
namespace Go.Proofs.YtmcmmbkodllpkaaGreatDoor.Nam

open Go.RowKit Go.PlainAid Go.Proofs.YtmcmmbkodllpkaaGreatDoor.Oct Go.Proofs.YtmcmmbkodllpkaaGreatDoor.Flt Go.Proofs.YtmcmmbkodllpkaaGreatDoor.Rdr

set_option linter.unusedVariables false

/-- A text's bytes, as numbers. -/
def bytesOf (s : ByteArray) : List Int := s.data.toList.map fun b => (b.toNat : Int)
theorem bytesOf_len (s : ByteArray) : (bytesOf s).length = s.size := by unfold bytesOf; rw [List.length_map, Array.length_toList]; rfl
theorem bytesOf_range (s : ByteArray) : ∀ x ∈ bytesOf s, 0 ≤ x ∧ x ≤ 255 := by
  intro x hx
  unfold bytesOf at hx
  obtain ⟨b, _, rfl⟩ := List.mem_map.1 hx
  have := b.toNat_lt
  omega
theorem strCells_bytes (s : ByteArray) : Go.Lib.strCells s = (bytesOf s).map (Value.int .u8) := by
  unfold Go.Lib.strCells bytesOf
  rw [List.map_map]; rfl
theorem str_bytes (s : ByteArray) : strOfNums (bytesOf s) = s := by
  have h : ∀ k, k < s.size → bt (strOfNums (bytesOf s)) k = bt s k := by
    intro k hk
    rw [bt_strOf _ k (by rw [bytesOf_len]; exact hk) (bytesOf_range s)]
    unfold bytesOf bt
    rw [dif_pos hk]
    simp only [List.getElem_map, Array.getElem_toList]
    rfl
  have hs : (strOfNums (bytesOf s)).size = s.size := by rw [strOfNums_size, bytesOf_len]
  apply ByteArray.ext
  apply Array.ext
  · exact hs
  · intro i h1 h2
    have h3 := h i h2
    unfold bt at h3
    rw [dif_pos (show i < (strOfNums (bytesOf s)).size from h1), dif_pos (show i < s.size from h2)] at h3
    have h4 : ((strOfNums (bytesOf s))[i]'h1).toNat = (s[i]'h2).toNat := by omega
    exact UInt8.toNat_inj.1 h4
set_option maxRecDepth 4000 in
theorem conv_owns {w : World} {B n : Nat} {v : Value} {xs : List Int} (h : w.ownsRow B 5 1 v n (xs.map (Value.int .u8))) :
    (convert 72 9 v).run Tryz.prog w = .ok (.string (strOfNums xs)) w := by
  have hl : xs.length = n := by have := h.1; simpa using this
  rcases h.2 with ⟨rfl, h0⟩ | ⟨g, cap, cur, rfl, h3⟩
  · subst h0
    obtain rfl : xs = [] := List.eq_nil_of_length_eq_zero hl
    rw [run_convert_bytes_string (P := Tryz.prog) w 72 9 5 none 0 0 underU8 rfl rfl]
    rfl
  · refine run_convert_bytes_arg (P := Tryz.prog) w 72 5 underU8 rfl g 0 n cap xs hl ?_ 9 rfl
    intro i hi
    rw [Nat.zero_add, h.cellAt i (by omega)]
    simp [List.getD, List.getElem?_eq_getElem (show i < xs.length by omega)]
/-- What Put hands back. -/
def PPost (w : World) (ys : List Int) (k : Int) (e : Ending) (w' : World) : Prop :=
  ∃ V n, e = .returned (.tuple #[V, .int .i64 k]) ∧ w'.ownsRow w.heap.size 5 1 V n (ys.map (Value.int .u8)) ∧ Below w.heap.size w w'
end Go.Proofs.YtmcmmbkodllpkaaGreatDoor.Nam
namespace Go.Proofs.YtmcmmbkodllpkaaGreatDoor.Nam

open Go.RowKit Go.PlainAid Go.Proofs.YtmcmmbkodllpkaaGreatDoor.Oct Go.Proofs.YtmcmmbkodllpkaaGreatDoor.Flt Go.Proofs.YtmcmmbkodllpkaaGreatDoor.Rdr

set_option linter.unusedVariables false

/-- A name's bytes. -/
def nmB (s : ByteArray) : ByteArray := strOfNums ((s.size : Int) :: bytesOf s)
theorem nmB_cat (s : ByteArray) : strOfNums [(s.size : Int)] ++ s = nmB s := by
  unfold nmB
  rw [show ((s.size : Int) :: bytesOf s) = [(s.size : Int)] ++ bytesOf s from rfl, strOf_append, str_bytes]
theorem nmB_size (s : ByteArray) : (nmB s).size = 1 + s.size := by
  unfold nmB; rw [strOfNums_size, List.length_cons, bytesOf_len]; omega
theorem cat_extract (a b : ByteArray) (n : Nat) (h : a.size = n) : (a ++ b).extract n (n + b.size) = b := by
  apply ByteArray.ext
  rw [ByteArray.data_extract, ByteArray.data_append, ← h]
  show (a.data ++ b.data).extract a.data.size (a.data.size + b.data.size) = b.data
  have e1 : a.data.extract a.data.size (a.data.size + b.data.size) = #[] := by
    apply Array.eq_empty_of_size_eq_zero; rw [Array.size_extract]; omega
  rw [Array.extract_append, e1]
  simp
/-- What is put is got. -/
theorem back (s : ByteArray) (h1 : 1 ≤ s.size) (h2 : s.size ≤ 16) (hr : rightB s = true) :
    nmS ⟨nmB s, 0, 0, 0, 0, 0⟩ = ⟨nmB s, 1 + s.size, 0, 0, 0, 0⟩ ∧ nmV ⟨nmB s, 0, 0, 0, 0, 0⟩ = s := by
  have hsz := nmB_size s
  have hb : getB (nmB s) (0 : Nat) (1 : Nat) = true := by unfold getB sizeB; rw [hsz]; simp; omega
  have hg : getV (nmB s) (0 : Nat) (1 : Nat) = s.size := by
    unfold getV
    rw [if_pos hb]
    simp only [Int.toNat_natCast]
    rw [getN, getN]
    have : bt (nmB s) (0 + 0) = s.size := by
      unfold nmB
      rw [bt_strOf _ _ (by simp) (by
        intro x hx
        rcases List.mem_cons.1 hx with rfl | hx
        · omega
        · exact bytesOf_range s x hx)]
      rfl
    rw [this]; simp
  have e1 : numS ⟨nmB s, 0, 0, 0, 0, 0⟩ 1 = ⟨nmB s, 1, 0, 0, 0, 0⟩ := by
    unfold numS; rw [if_pos rfl]; simp only []; rw [hb]; rfl
  have e2 : numV ⟨nmB s, 0, 0, 0, 0, 0⟩ 1 = s.size := by
    unfold numV; rw [if_pos rfl]; exact hg
  have hle : 1 + s.size ≤ (nmB s).size := by omega
  have e3 : txtS ⟨nmB s, 1, 0, 0, 0, 0⟩ (s.size : Nat) = ⟨nmB s, 1 + s.size, 0, 0, 0, 0⟩ := by
    unfold txtS; simp only [Int.toNat_natCast]; rw [if_pos trivial, if_pos hle]
  have e4 : txtV ⟨nmB s, 1, 0, 0, 0, 0⟩ (s.size : Nat) = s := by
    unfold txtV; simp only [Int.toNat_natCast]; rw [if_pos ⟨trivial, hle⟩]
    rw [← nmB_cat]
    exact cat_extract _ _ 1 (by rw [strOfNums_size]; rfl)
  have hng : ¬ (s.size = 0 ∨ 16 < s.size) := by omega
  constructor
  · unfold nmS
    rw [e1, e2, e3, e4, if_neg (by simp), if_neg hng, if_neg (by simp), hr]; rfl
  · unfold nmV
    rw [e1, e2, e3, e4, if_pos ⟨rfl, hng, rfl, hr⟩]
end Go.Proofs.YtmcmmbkodllpkaaGreatDoor.Nam
namespace Go.Proofs.YtmcmmbkodllpkaaGreatDoor.Byt

open Go.RowKit Go.PlainAid Go.Proofs.YtmcmmbkodllpkaaGreatDoor.Oct Go.Proofs.YtmcmmbkodllpkaaGreatDoor.Nam

set_option linter.unusedVariables false

set_option linter.unusedSimpArgs false

/-- Bytes of the call's own. -/
def OPost (w : World) (n : Nat) (xs : List Int) (e : Ending) (w' : World) : Prop := ∃ V, e = .returned V ∧ w'.ownsRow w.heap.size 5 1 V n (xs.map (Value.int .u8)) ∧ Below w.heap.size w w'
theorem owns_empty (w : World) : (w.alloc (.cells #[] 5)).ownsRow w.heap.size 5 1 (.slice (some ⟨w.heap.size, 0, none⟩) 0 0) 0 [] := by
  have h := owns_block (w := w.alloc (.cells #[] 5)) (B := w.heap.size) (n := 0) (c := 0) (cs := []) (heap_alloc_new _ _) (Nat.le_refl _) rfl (by unfold maxLen; omega)
  exact h
theorem bytes_at {w : World} {a : Addr} {n : Nat} {xs : List Int} (h : IsBytes w (some a) n xs) : ∀ j v, (xs.map (Value.int .u8))[j]? = some v → w.cell? (a.add j) = some v := by
  intro j v hj
  have h0 : 0 < n := by
    rw [← h.1]
    rcases Nat.lt_or_ge j (xs.map (Value.int .u8)).length with hl | hl
    · rw [List.length_map] at hl; omega
    · rw [List.getElem?_eq_none hl] at hj; cases hj
  obtain ⟨ad, e, h2⟩ := h.2 h0
  obtain rfl := Option.some.inj e
  exact h2 j v hj
theorem bytes_kept {w w' : World} {A : Option Addr} {n : Nat} {xs : List Int} (h : IsBytes w A n xs) (b : Below w.heap.size w w') : IsBytes w' A n xs :=
  ⟨h.1, fun hp => by obtain ⟨ad, e1, e2⟩ := h.2 hp; exact ⟨ad, e1, fun j u hj => (b.cell (cell_lt (e2 j u hj))).trans (e2 j u hj)⟩⟩
def catN (len m : Nat) : Nat → Nat
  | 0 => 0
  | 1 => len
  | _ => len + m
def catL (xs ys : List Int) : Nat → List Int
  | 0 => []
  | 1 => xs
  | _ => xs ++ ys
end Go.Proofs.YtmcmmbkodllpkaaGreatDoor.Byt
namespace Go.Proofs.YtmcmmbkodllpkaaGreatDoor.Hdr

open Go.RowKit Go.PlainAid Go.Proofs.YtmcmmbkodllpkaaGreatDoor.Oct Go.Proofs.YtmcmmbkodllpkaaGreatDoor.Flt Go.Proofs.YtmcmmbkodllpkaaGreatDoor.Rdr Go.Proofs.YtmcmmbkodllpkaaGreatDoor.Byt

set_option linter.unusedVariables false

set_option linter.unusedSimpArgs false

theorem owns_base {w : World} {B B' n : Nat} {v : Value} {xs : List Value} (h : w.ownsRow B 5 1 v n xs) (hb : B' ≤ B) : w.ownsRow B' 5 1 v n xs := by
  obtain ⟨e1, e2⟩ := h
  refine ⟨e1, ?_⟩
  rcases e2 with h | ⟨g, c, cur, h1, h2, h3⟩
  · exact .inl h
  · exact .inr ⟨g, c, cur, h1, Nat.le_trans hb h2, h3⟩
/-- What Put hands back where something is wrong. -/
def HNo (h : H7) (w : World) (n : Nat) (xs : List Int) (e : Ending) (w' : World) : Prop :=
  ∃ V x, e = .returned (.tuple #[V, x]) ∧ w'.ownsRow w.heap.size 5 1 V n (xs.map (Value.int .u8)) ∧ Wrong w' x (bad h).1 (sec1 (bad h).1) (bad h).2 ∧ Below w.heap.size w w'
theorem iface_of_wrong {w : World} {x : Value} {k : Nat} {s a : Int} (h : Wrong w x k s a) (hk : k ≠ 0) : ∃ u y, x = .iface u y := by
  rcases h with ⟨h1, _⟩ | ⟨_, _, h3⟩
  · exact absurd h1 hk
  · exact err_of h3
/-- A header's numbers and their sizes, in their order. -/
def fldF (tot ep fi a b c d : Nat) : Nat → Nat × Nat
  | 0 => (tot, 4)
  | 1 => (ep, 8)
  | 2 => (fi, 1)
  | 3 => (a, 1)
  | 4 => (b, 1)
  | 5 => (c, 2)
  | _ => (d, 2)
def accB (F : Nat → Nat × Nat) : Nat → List Int
  | 0 => [67, 87, 77, 49]
  | k + 1 => accB F k ++ low (F k).1 (F k).2
theorem own_bytes {w : World} {B g n c : Nat} {xs : List Int} (h : w.ownsRow B 5 1 (.slice (some ⟨g, 0, none⟩) n c) n (xs.map (Value.int .u8))) : IsBytes w (some ⟨g, 0, none⟩) n xs := by
  have hl : xs.length = n := by have := h.1; simpa using this
  refine ⟨hl, fun _ => ⟨⟨g, 0, none⟩, rfl, fun j v hj => ?_⟩⟩
  have hjn : j < n := by
    rcases Nat.lt_or_ge j (xs.map (Value.int .u8)).length with hh | hh
    · rw [List.length_map] at hh; omega
    · rw [List.getElem?_eq_none hh] at hj; cases hj
  have := h.cellAt j (by omega)
  have e : (Addr.mk g 0 none).add j = ⟨g, j, none⟩ := by cases j <;> simp [Addr.add]
  rw [e, this, hj]
/-- Bytes of the call's own, and no error. -/
def HYes (w : World) (n : Nat) (xs : List Int) (e : Ending) (w' : World) : Prop :=
  ∃ V, e = .returned (.tuple #[V, .nilIface]) ∧ w'.ownsRow w.heap.size 5 1 V n (xs.map (Value.int .u8)) ∧ Below w.heap.size w w'
def PRel (F : Nat → Nat × Nat) (w : World) (v i : Value) (wr : World) : Prop :=
  ∃ k g n c : Nat, k ≤ 7 ∧ i = .int .i64 k ∧ v = .slice (some ⟨g, 0, none⟩) n c ∧ n ≤ 4 + 8 * k ∧ 1 ≤ n ∧ IsBytes wr (some ⟨g, 0, none⟩) n (accB F k) ∧ Below w.heap.size w wr
end Go.Proofs.YtmcmmbkodllpkaaGreatDoor.Hdr
namespace Go.Proofs.YtmcmmbkodllpkaaGreatDoor.Oct

open Go.RowKit Go.PlainAid

set_option maxRecDepth 8000 in
/-- A slice of the call's own as text. -/
theorem conv_own {w : World} {B g n cap : Nat} {xs : List Int} (h : w.ownsRow B 5 1 (.slice (some ⟨g, 0, none⟩) n cap) n (xs.map (Value.int .u8))) :
    (convert 72 9 (.slice (some ⟨g, 0, none⟩) n cap)).run Tryz.prog w = .ok (.string (strOfNums xs)) w := by
  have hl : xs.length = n := by have := h.1; simpa using this
  refine run_convert_bytes_arg (P := Tryz.prog) w 72 5 underU8 rfl g 0 n cap xs hl ?_ 9 rfl
  intro i hi
  rw [Nat.zero_add, h.cellAt i (by omega)]
  simp [List.getD, List.getElem?_eq_getElem (show i < xs.length by omega)]
set_option maxRecDepth 8000 in
/-- A slice that came in as text. -/
theorem conv_bytes {w : World} {A : Option Addr} {n cap : Nat} {xs : List Int} (h : IsBytes w A n xs) :
    (convert 72 9 (.slice A n cap)).run Tryz.prog w = .ok (.string (strOfNums xs)) w := by
  obtain ⟨hl, hc⟩ := h
  rcases Nat.eq_zero_or_pos n with h0 | hp
  · subst h0
    obtain rfl : xs = [] := List.eq_nil_of_length_eq_zero hl
    rw [run_convert_bytes_string (P := Tryz.prog) w 72 9 5 A 0 cap underU8 rfl rfl]
    cases A with
    | none => simp [Conv.bytesToString, strOfNums]; rfl
    | some ad =>
      rw [run_bytesToString w ad 0 cap [] (by simpa using run_loadCells_list (P := Tryz.prog) w ad [] (by simp))]
      rfl
  · obtain ⟨ad, rfl, hcell⟩ := hc hp
    have hl2 : (loadCells ad n).run Tryz.prog w = .ok (xs.map (Value.int .u8)).toArray w := by
      have := run_loadCells_list (P := Tryz.prog) w ad (xs.map (Value.int .u8)) hcell
      simpa [hl] using this
    rw [run_convert_bytes_string (P := Tryz.prog) w 72 9 5 (some ad) n cap underU8 rfl rfl, run_bytesToString w ad n cap xs hl2, foldl_push_bytes]
    simp [strOfNums, ByteArray.empty, ByteArray.emptyWithCapacity]
    rfl

end Go.Proofs.YtmcmmbkodllpkaaGreatDoor.Oct
namespace Go.Proofs.YtmcmmbkodllpkaaGreatDoor.Byt

open Go.RowKit Go.PlainAid Go.Proofs.YtmcmmbkodllpkaaGreatDoor.Args Go.Proofs.YtmcmmbkodllpkaaGreatDoor.Oct Go.Proofs.YtmcmmbkodllpkaaGreatDoor.Nam

set_option linter.unusedVariables false

set_option linter.unusedSimpArgs false

/-- What the walk needs of the bytes that came in: the first 'len' of them. -/
theorem bytes_of {w : World} {a : Option Addr} {len cap : Nat} {zs : List Int} (h : IsRow .u8 w a len cap zs) : ∃ xs, IsBytes w a len xs ∧ (∀ x ∈ xs, 0 ≤ x ∧ x ≤ 255) ∧ (a = none → len = 0 ∧ cap = 0) ∧ len ≤ cap := by
  rcases h with ⟨rfl, rfl, rfl, rfl⟩ | ⟨x, rfl, hl, hm, hz, hcell, hwz⟩
  · exact ⟨[], ⟨rfl, fun h => absurd h (by omega)⟩, by simp, fun _ => ⟨rfl, rfl⟩, Nat.le_refl _⟩
  · refine ⟨zs.take len, ⟨by simp; omega, fun _ => ⟨x, rfl, fun j v hj => ?_⟩⟩, fun y hy => ?_, fun h => (by cases h), hl⟩
    · have hjl : j < len := by
        rcases Nat.lt_or_ge j len with h | h
        · exact h
        · rw [List.getElem?_eq_none (by simp; omega)] at hj; cases hj
      rw [hcell j (by omega)]
      have hz2 : j < zs.length := by omega
      simp [hjl, List.getElem?_eq_getElem hz2] at hj
      subst hj
      simp [List.getD, List.getElem?_eq_getElem hz2]
    · exact bounds_u8 (hwz y (List.mem_of_mem_take hy))
theorem conv_kept {w w' : World} {A : Option Addr} {n cap : Nat} {xs : List Int} (h : IsBytes w A n xs) (b : Below w.heap.size w w') : (convert 72 9 (.slice A n cap)).run Tryz.prog w' = .ok (.string (strOfNums xs)) w' := by
  refine conv_bytes (⟨h.1, fun hp => ?_⟩ : IsBytes w' A n xs)
  obtain ⟨ad, e1, e2⟩ := h.2 hp
  exact ⟨ad, e1, fun j u hj => (b.cell (cell_lt (e2 j u hj))).trans (e2 j u hj)⟩
theorem owns_at {w w' : World} {B g n cap : Nat} {xs : List Value} (h : w.ownsRow B 5 1 (.slice (some ⟨g, 0, none⟩) n cap) n xs) (hx : w'.heap[g]? = w.heap[g]?) : w'.ownsRow B 5 1 (.slice (some ⟨g, 0, none⟩) n cap) n xs := by
  obtain ⟨e1, e2⟩ := h
  refine ⟨e1, ?_⟩
  rcases e2 with ⟨h, _⟩ | ⟨g', c', cur, h, h2⟩
  · cases h
  · cases h
    exact .inr ⟨g, cap, cur, rfl, h2.1, by rw [hx]; exact h2.2.1, h2.2.2⟩
set_option maxRecDepth 8000 in
/-- The bytes behind the first as text. -/
theorem conv_part {w w' : World} {B g n cap c' l m : Nat} {xs ys : List Int} (h : w.ownsRow B 5 1 (.slice (some ⟨g, 0, none⟩) n cap) n ((xs ++ ys).map (Value.int .u8))) (hx : w'.heap[g]? = w.heap[g]?) (hl : xs.length = l) (hm : ys.length = m) :
    (convert 72 9 (.slice (some ⟨g, l, none⟩) m c')).run Tryz.prog w' = .ok (.string (strOfNums ys)) w' := by
  have h' := owns_at h hx
  have hn : xs.length + ys.length = n := by have := h.1; simpa using this
  refine run_convert_bytes_arg (P := Tryz.prog) w' 72 5 underU8 rfl g l m c' ys hm ?_ 9 rfl
  intro i hi
  rw [h'.cellAt (l + i) (by omega)]
  subst hl
  rw [List.map_append, List.getElem?_append_right (by rw [List.length_map]; omega), List.length_map, Nat.add_sub_cancel_left]
  simp [List.getD, List.getElem?_eq_getElem (show i < ys.length by omega)]
set_option maxRecDepth 8000 in
theorem low_slice (w : World) (G l n c : Nat) (h1 : l < n) (h2 : n ≤ c) :
    (Instr.slice 72 (.slice (some ⟨G, 0, none⟩) n c) (some (.int .i64 (l : Int))) none none).run Tryz.prog w = .ok (.slice (some ⟨G, l, none⟩) (n - l) (c - l)) w := by
  have hne : ¬ c = l := by omega
  rw [run_slice_l (P := Tryz.prog) w 72 (some ⟨G, 0, none⟩) n c rfl .i64 (l : Int) (by omega) (by omega)]
  go_simp
theorem owns_kept {w w' : World} {B n : Nat} {v : Value} {xs : List Value} (h : w.ownsRow B 5 1 v n xs) (b : Below w.heap.size w w') : w'.ownsRow B 5 1 v n xs := by
  obtain ⟨e1, e2⟩ := h
  refine ⟨e1, ?_⟩
  rcases e2 with h | ⟨g, c, cur, h1, h2, h3, h4⟩
  · exact .inl h
  · have hlt : g < w.heap.size := by
      rcases Nat.lt_or_ge g w.heap.size with hh | hh
      · exact hh
      · rw [Array.getElem?_eq_none hh] at h3; cases h3
    exact .inr ⟨g, c, cur, h1, h2, (b.block _ hlt).trans h3, h4⟩
/-- Bytes of the call's own, one at least, lie in a block. -/
theorem own_open {w : World} {B n : Nat} {v : Value} {xs : List Int} (h : w.ownsRow B 5 1 v n (xs.map (Value.int .u8))) (hn : 0 < n) : ∃ G c : Nat, v = .slice (some ⟨G, 0, none⟩) n c ∧ B ≤ G ∧ G < w.heap.size ∧ n ≤ c := by
  rcases h.2 with ⟨_, h0⟩ | ⟨g, cap, cur, e1, e2, e3, e4, _⟩
  · omega
  · refine ⟨g, cap, e1, e2, ?_, e4⟩
    rcases Nat.lt_or_ge g w.heap.size with hh | hh
    · exact hh
    · rw [Array.getElem?_eq_none hh] at e3; cases e3
end Go.Proofs.YtmcmmbkodllpkaaGreatDoor.Byt
namespace Go.Proofs.YtmcmmbkodllpkaaGreatDoor.Prt

open Go.RowKit Go.PlainAid Go.Proofs.YtmcmmbkodllpkaaGreatDoor.Oct Go.Proofs.YtmcmmbkodllpkaaGreatDoor.Flt Go.Proofs.YtmcmmbkodllpkaaGreatDoor.Rdr Go.Proofs.YtmcmmbkodllpkaaGreatDoor.Nam

open Go.Proofs.YtmcmmbkodllpkaaGreatDoor.Hdr (own_bytes owns_base)

open Go.Proofs.YtmcmmbkodllpkaaGreatDoor.Byt (bytes_kept own_open)

set_option linter.unusedVariables false

set_option linter.unusedSimpArgs false

def bitN (b : Bool) : Nat := if b then 1 else 0
theorem bitN_le (b : Bool) : bitN b ≤ 1 := by unfold bitN; split <;> omega
def QPost (w : World) (xs ys : List Int) (e : Ending) (w' : World) : Prop := ∃ G n c : Nat, e = .returned (.tuple #[.slice (some ⟨G, 0, none⟩) n c, .bool true]) ∧ n = (xs ++ ys).length ∧ w.heap.size ≤ G ∧ w'.ownsRow w.heap.size 5 1 (.slice (some ⟨G, 0, none⟩) n c) n ((xs ++ ys).map (Value.int .u8)) ∧ Below w.heap.size w w'
theorem qpost {w : World} {xs ys : List Int} {e : Ending} {w' : World} (h : PutPost w xs true ys e w') : QPost w xs ys e w' := by
  obtain ⟨n, c, rfl, ho, hb⟩ := h
  exact ⟨_, n, c, rfl, by have := ho.1; simpa using this.symm, Nat.le_refl _, ho, hb⟩
def cellB (x : C2) : List Int := low (bitN x.kept) 1 ++ low x.v 4
def cellsB (l : List C2) : List Int := l.flatMap cellB
theorem cellsB_snoc (l : List C2) (x : C2) : cellsB (l ++ [x]) = cellsB l ++ cellB x := by simp [cellsB]
theorem cellsB_len (l : List C2) : (cellsB l).length = l.length * 5 := by
  induction l with
  | nil => rfl
  | cons x l ih =>
    have : cellsB (x :: l) = cellB x ++ cellsB l := rfl
    rw [this, List.length_append, ih, List.length_cons]
    simp [cellB, low_length]; omega
def headB (x : PT) : List Int := (((low x.id.toNat 1 ++ low (bitN x.may) 1) ++ ((x.nm.size : Int) :: Nam.bytesOf x.nm)) ++ low x.cs.length 1)
def partB (x : PT) : List Int := headB x ++ cellsB x.cs
/-- What the numbers of a partition's cells are like. -/
def WideC (x : PT) : Prop := ∀ y ∈ x.cs, y.v ≤ 4294967295
theorem rg_right {x : PT} (h : rg x = 0) : (0 ≤ x.id ∧ x.id ≤ 255) ∧ rightB x.nm = true ∧ x.cs.length ≤ 16 := by
  unfold rg rgtP at h
  split at h
  · cases h
  · rename_i h1
    split at h
    · cases h
    · rename_i h2
      split at h
      · cases h
      · rename_i h3
        simp at h1 h2 h3
        exact ⟨by omega, h2, by omega⟩
def FRel (x : PT) (w : World) (v i : Value) (wr : World) : Prop :=
  ∃ k g n c : Nat, k ≤ x.cs.length ∧ i = .int .i64 k ∧ v = .slice (some ⟨g, 0, none⟩) n c ∧ wr.ownsRow w.heap.size 5 1 (.slice (some ⟨g, 0, none⟩) n c) n ((headB x ++ cellsB (x.cs.take k)).map (Value.int .u8)) ∧ Below w.heap.size w wr
def FPost (x : PT) (w : World) (e : Ending) (w' : World) : Prop := ∃ V n, e = .returned V ∧ 0 < n ∧ n ≤ 1000 ∧ w'.ownsRow w.heap.size 5 1 V n ((partB x).map (Value.int .u8)) ∧ Below w.heap.size w w'
end Go.Proofs.YtmcmmbkodllpkaaGreatDoor.Prt

namespace Go.Proofs.YtmcmmbkodllpkaaGreatDoor.Prt

open Go.RowKit Go.PlainAid Go.Proofs.YtmcmmbkodllpkaaGreatDoor.Oct Go.Proofs.YtmcmmbkodllpkaaGreatDoor.Flt Go.Proofs.YtmcmmbkodllpkaaGreatDoor.Rdr Go.Proofs.YtmcmmbkodllpkaaGreatDoor.Nam

open Go.Proofs.YtmcmmbkodllpkaaGreatDoor.Hdr (own_bytes owns_base iface_of_wrong)

open Go.Proofs.YtmcmmbkodllpkaaGreatDoor.Byt (bytes_kept own_open)

set_option linter.unusedVariables false

set_option linter.unusedSimpArgs false

theorem fb_all {α : Type} (f : List α → α → Nat) : ∀ (l pre : List α), (fb f pre l).1 = 0 → ∀ (i : Nat) (x : α), l[i]? = some x → f (pre ++ l.take i) x = 0
  | [], _, _, i, x, h => by simp at h
  | y :: l, pre, h, i, x, hx => by
    rw [fb] at h
    split at h
    · rename_i h0
      cases i with
      | zero =>
        obtain rfl : y = x := by simpa using hx
        simpa using h0
      | succ i =>
        have := fb_all f l (pre ++ [y]) h i x (by simpa using hx)
        simpa using this
    · rename_i h0
      exact absurd h h0
theorem bad_rg {l : List PT} (h : (badP l).1 = 0) : ∀ x ∈ l, rg x = 0 := by
  intro x hx
  obtain ⟨i, hi, rfl⟩ := List.mem_iff_getElem.1 hx
  have h1 := fb_all b1P l [] h i _ (List.getElem?_eq_getElem hi)
  unfold b1P at h1
  split at h1
  · assumption
  · exact h1
def textB (l : List PT) : List Int := l.flatMap partB
theorem textB_snoc (l : List PT) (x : PT) : textB (l ++ [x]) = textB l ++ partB x := by simp [textB]
def PNo (l : List PT) (w : World) (n : Nat) (xs : List Int) (e : Ending) (w' : World) : Prop :=
  ∃ V x, e = .returned (.tuple #[V, x]) ∧ w'.ownsRow w.heap.size 5 1 V n (xs.map (Value.int .u8)) ∧ Wrong w' x (badP l).1 (sec2 (badP l).1) (badP l).2 ∧ Below w.heap.size w w'
def PYes (l : List PT) (w : World) (xs : List Int) (e : Ending) (w' : World) : Prop :=
  ∃ V n, e = .returned (.tuple #[V, .nilIface]) ∧ w'.ownsRow w.heap.size 5 1 V n ((xs ++ textB l).map (Value.int .u8)) ∧ Below w.heap.size w w'
def GRel (l : List PT) (len : Nat) (xs : List Int) (w : World) (v i : Value) (wr : World) : Prop :=
  ∃ k n : Nat, k ≤ l.length ∧ i = .int .i64 k ∧ n ≤ len + k * 1000 ∧ wr.ownsRow w.heap.size 5 1 v n ((xs ++ textB (l.take k)).map (Value.int .u8)) ∧ Below w.heap.size w wr
end Go.Proofs.YtmcmmbkodllpkaaGreatDoor.Prt

namespace Go.Proofs.YtmcmmbkodllpkaaGreatDoor.Prt

open Go.RowKit Go.PlainAid Go.Proofs.YtmcmmbkodllpkaaGreatDoor.Oct Go.Proofs.YtmcmmbkodllpkaaGreatDoor.Flt Go.Proofs.YtmcmmbkodllpkaaGreatDoor.Rdr Go.Proofs.YtmcmmbkodllpkaaGreatDoor.Nam

set_option linter.unusedVariables false

set_option linter.unusedSimpArgs false

def trS (b : Bool) : ByteArray := strOfNums (low (bitN b) 1)
theorem trS_size (b : Bool) : (trS b).size = 1 := by unfold trS; rw [strOfNums_size, low_length]
theorem partB_len {x : PT} (h : rg x = 0) : (partB x).length ≤ 200 := by
  obtain ⟨_, hrb, hc⟩ := rg_right h
  have hsz : x.nm.size ≤ 16 := by
    by_cases h : 1 ≤ x.nm.size ∧ x.nm.size ≤ 16
    · exact h.2
    · rw [right_out h] at hrb; cases hrb
  unfold partB headB
  simp [low_length, Nam.bytesOf_len, cellsB_len]
  omega
theorem textB_len (l : List PT) (h : ∀ x ∈ l, rg x = 0) : (textB l).length ≤ l.length * 200 := by
  induction l with
  | nil => simp [textB]
  | cons x l ih =>
    have h1 := ih fun y hy => h y (List.mem_cons_of_mem _ hy)
    have h2 := partB_len (h x List.mem_cons_self)
    have : textB (x :: l) = partB x ++ textB l := rfl
    rw [this, List.length_append, List.length_cons]
    omega
def HRel (l : List PT) (w : World) (v i : Value) (wr : World) : Prop := ∃ k : Nat, k ≤ l.length ∧ i = .int .i64 k ∧ v = .string (strOfNums (textB (l.take k))) ∧ Below w.heap.size w wr
end Go.Proofs.YtmcmmbkodllpkaaGreatDoor.Prt
