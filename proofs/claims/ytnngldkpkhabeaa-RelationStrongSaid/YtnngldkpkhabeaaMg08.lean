/- What is wrong first with partitions that are to be put, as the program tells it. Condition: the variables hold what the program lays there. What is wrong first with partitions that are to be put, as the document tells it. No condition. What package octet's Put returns: bytes in memory of its own, those that came in and the number's behind them, where it fits; nothing that was there has changed. Condition: at most 2 to the power 40 bytes come in. What package name's Put lays behind bytes, the document's bytes of a name, and that they are read as the name. Condition: at most 2 to the power 30 bytes come in. What the document's bytes of a name are, and that package name's Get reads them as the name. No condition. Bytes in slices: what slices.Clone, slices.Grow of nothing and slices.Concat of two hand back. Condition: at most 2 to the power 40 bytes come in. -/
import Derived.Test.YtnngldkpkhabeaaMg07
import Derived.IntWalk
import Derived.Test.YtnngldkpkhabeaaMg04
import Derived.Laws.CopyOwn
import Derived.Lib.AppendStr
import Derived.Laws.AppendOwnNone
import Derived.Lib.AppendZerosOnto
import Derived.Lib.AppendZeros
import Derived.Lib.SliceRun
namespace Go.Proofs.Ytnngldkpkhabeaa.Prt

open Go.RowKit Go.PlainAid Go.Proofs.Ytnngldkpkhabeaa.Oct Go.Proofs.Ytnngldkpkhabeaa.Flt Go.Proofs.Ytnngldkpkhabeaa.Rdr Go.Proofs.Ytnngldkpkhabeaa.Nam

set_option linter.unusedVariables false

set_option linter.unusedSimpArgs false

/-- The first one of which f tells something: what, and its place. -/
def fb {α : Type} (f : List α → α → Nat) (pre : List α) : List α → Nat × Int
  | [] => (0, 0)
  | x :: l => if f pre x = 0 then fb f (pre ++ [x]) l else (f pre x, (pre.length : Int))
theorem fb_step {α : Type} (f : List α → α → Nat) (l : List α) (i : Nat) (x : α) (hx : l[i]? = some x) : fb f (l.take i) (l.drop i) = if f (l.take i) x = 0 then fb f (l.take (i + 1)) (l.drop (i + 1)) else (f (l.take i) x, (i : Int)) := by
  have hi : i < l.length := by
    rcases Nat.lt_or_ge i l.length with h | h
    · exact h
    · rw [List.getElem?_eq_none h] at hx; cases hx
  have hxe : l[i] = x := by rw [List.getElem?_eq_getElem hi] at hx; exact Option.some.inj hx
  have hd : l.drop i = x :: l.drop (i + 1) := by rw [List.drop_eq_getElem_cons hi, hxe]
  have ht : l.take (i + 1) = l.take i ++ [x] := by rw [List.take_succ_eq_append_getElem hi, hxe]
  rw [hd, fb, ht]
  have hl : (l.take i).length = i := by simp; omega
  rw [hl]
theorem fb_end {α : Type} (f : List α → α → Nat) (l : List α) : fb f (l.take l.length) (l.drop l.length) = (0, 0) := by simp [fb]
theorem take_snoc {α : Type} (l : List α) (i : Nat) (x : α) (hx : l[i]? = some x) : l.take (i + 1) = l.take i ++ [x] := by
  have hi : i < l.length := by
    rcases Nat.lt_or_ge i l.length with h | h
    · exact h
    · rw [List.getElem?_eq_none h] at hx; cases hx
  have hxe : l[i] = x := by rw [List.getElem?_eq_getElem hi] at hx; exact Option.some.inj hx
  rw [List.take_succ_eq_append_getElem hi, hxe]
def rg (x : PT) : Nat := rgtP ⟨x.id, x.nm, x.may, none, x.cs.length, 0⟩
def lastP (l : List PT) : Int := (l.getLast?.map PT.id).getD (-1)
theorem lastP_snoc (l : List PT) (x : PT) : lastP (l ++ [x]) = x.id := by simp [lastP]
def b1P (pre : List PT) (x : PT) : Nat := if rg x = 0 then (if x.id ≤ lastP pre then 9 else 0) else rg x
def badP (l : List PT) : Nat × Int := fb b1P [] l
theorem rg_le (x : PT) : rg x ≤ 18 := by unfold rg rgtP; repeat' split
                                         all_goals omega
def sec2 (k : Nat) : Int := if k = 0 then 0 else 2
/-- What the numbers and texts of a partition that came in are like. -/
def WideP (x : PT) : Prop := Hdr.I64 x.id ∧ x.nm.size ≤ maxLen
def WRel (l : List PT) (w : World) (v i : Value) (wr : World) : Prop := ∃ k : Nat, k ≤ l.length ∧ i = .int .i64 k ∧ v = .int .i64 (lastP (l.take k)) ∧ badP l = fb b1P (l.take k) (l.drop k) ∧ Below w.heap.size w wr
end Go.Proofs.Ytnngldkpkhabeaa.Prt

namespace Go.Proofs.Ytnngldkpkhabeaa.Prt

open Go.RowKit Go.PlainAid Go.Proofs.Ytnngldkpkhabeaa.Oct Go.Proofs.Ytnngldkpkhabeaa.Flt Go.Proofs.Ytnngldkpkhabeaa.Rdr Go.Proofs.Ytnngldkpkhabeaa.Nam

open Go.Proofs.Ytnngldkpkhabeaa.Hdr (below_set2)

set_option linter.unusedVariables false

set_option linter.unusedSimpArgs false

theorem below_drewN {B : Nat} {a w : World} (h : Below B a w) (n : Nat) : Below B a (w.drewN n) := ⟨h.os, h.tape, h.output, h.size, h.block⟩
theorem rg_id {x : PT} (h : rg x = 0) : 0 ≤ x.id := by
  unfold rg rgtP at h
  split at h
  · cases h
  · rename_i h1
    simp at h1
    omega
end Go.Proofs.Ytnngldkpkhabeaa.Prt
namespace Go.Proofs.Ytnngldkpkhabeaa.Oct

open Go.RowKit Go.PlainAid

/-- 'make([]T, m, n)' with cells of one place each. -/
theorem wpList_make_lc {P : Program} (w : World) {ops : Array Oper} {rest : List Oper} {o : Oper} {a : Act} {Q : Exit → Act → World → Prop}
    (hg : o.guard = none) (l c : Operand) (t : TypeId) (hop : o.op = Op.makeSlice t l c)
    (e : TypeId) (i : TypeInfo) (z : Value) (h1 : P.underlying t = some (.slice e)) (h2 : P.info? e = some i) (h3 : i.zero = some z) (h4 : i.size = 1) (hz : z.cells = #[z])
    (kl kc : IntKind) (L C : Int) (m n : Nat) (hl : a.eval l = .int kl L) (hc : a.eval c = .int kc C) (hL : L = (m : Int)) (hC : C = (n : Int)) (hmn : m ≤ n) (b2 : i.bytes * n ≤ 281474976710656) (b3 : n ≤ 9223372036854775807)
    (hK : ∀ w' cur, Hid (cur = List.replicate n z) → Hid (w'.heap[w.heap.size]? = some (.cells cur.toArray e (0, 0))) → Below w.heap.size w w' → wpList P ops Q rest (a.put o.dst (.slice (some ⟨w.heap.size, 0, none⟩) m n)) w') :
    wpList P ops Q (o :: rest) a w := by
  refine wpList_plain hg fun K hK' => ?_
  have hb' : (i.bytes : Int) * (n : Int) ≤ 281474976710656 := by
    have h : ((i.bytes * n : Nat) : Int) ≤ 281474976710656 := by omega
    rwa [Int.natCast_mul] at h
  have hrun := run_make (P := P) w t e i z h1 h2 h3 kl kc m n (by omega) (by omega) hb' (by omega)
  simp only [Int.toNat_natCast, h4, Nat.mul_one, hz] at hrun
  subst hL
  subst hC
  unfold Oper.wp
  simp [execOp, hop, hl, hc, hrun, Result.andThen]
  refine hK' _ _ (hK _ _ rfl ?_ ((Below.refl _ _).alloc (Nat.le_refl _) _))
  show _ = _
  have e1 : madeCells #[z] n = (List.replicate n z).toArray := by
    apply Array.toList_inj.1; rw [toList_madeCells_one]
  rw [e1]
  exact heap_alloc_new _ _

theorem infoU8 : (Try.prog.info? 5).map (fun i => (i.zero, i.size, i.bytes)) = some (some (.int .u8 0), 1, 1) := by kernel_rfl
theorem sizeU8 : (Try.prog.info? 5).map (·.size) = some 1 := by kernel_rfl

/-- A slice of bytes that reads as xs. -/
def IsBytes (w : World) (A : Option Addr) (n : Nat) (xs : List Int) : Prop :=
  xs.length = n ∧ (0 < n → ∃ ad, A = some ad ∧ ∀ j v, (xs.map (Value.int .u8))[j]? = some v → w.cell? (ad.add j) = some v)

theorem shift_run (v n k m : Nat) (hk : k < n) (hm : 8 * (n : Int) - 8 * k - 8 = (m : Int)) : IntKind.u8.wrap ((v : Int) / 2 ^ m) = ((v / 256 ^ (n - 1 - k) % 256 : Nat) : Int) := by
  have e : m = 8 * (n - 1 - k) := by omega
  subst e
  rw [IntKind.wrap_u8']
  have e2 : (2 : Nat) ^ (8 * (n - 1 - k)) = 256 ^ (n - 1 - k) := by rw [Nat.pow_mul]
  have e3 : (v : Int) / 2 ^ (8 * (n - 1 - k)) = ((v / 2 ^ (8 * (n - 1 - k)) : Nat) : Int) := by rw [Int.natCast_ediv]; simp
  rw [e3, e2]
  omega

theorem cell_lt {w : World} {a : Addr} {v : Value} (h : w.cell? a = some v) : a.block < w.heap.size := by
  rcases Nat.lt_or_ge a.block w.heap.size with hlt | hge
  · exact hlt
  · simp [World.cell?, Array.getElem?_eq_none hge] at h

/-- What Put hands back. -/
def PutPost (w : World) (xs : List Int) (r : Bool) (ys : List Int) (e : Ending) (w' : World) : Prop :=
  ∃ n cap : Nat, e = .returned (.tuple #[.slice (some ⟨w.heap.size, 0, none⟩) n cap, .bool r]) ∧ w'.ownsRow w.heap.size 5 1 (.slice (some ⟨w.heap.size, 0, none⟩) n cap) n ((xs ++ ys).map (Value.int .u8)) ∧ Below w.heap.size w w'

theorem owns_block {w : World} {B n c : Nat} {cs : List Value} (h : w.heap[B]? = some (.cells cs.toArray 5 (0, 0))) (hn : n ≤ c) (hc : cs.length = c) (hm : c ≤ maxLen) :
    w.ownsRow B 5 1 (.slice (some ⟨B, 0, none⟩) n c) n (cs.take n) :=
  ⟨by simp; omega, .inr ⟨B, c, cs.toArray, rfl, Nat.le_refl _, h, hn, hm, by simpa using hc, by simp⟩⟩

end Go.Proofs.Ytnngldkpkhabeaa.Oct
namespace Go.Proofs.Ytnngldkpkhabeaa.Nam

open Go.RowKit Go.PlainAid Go.Proofs.Ytnngldkpkhabeaa.Oct Go.Proofs.Ytnngldkpkhabeaa.Flt Go.Proofs.Ytnngldkpkhabeaa.Rdr

set_option linter.unusedVariables false

/-- A text's bytes, as numbers. -/
def bytesOf (s : ByteArray) : List Int := s.data.toList.map fun b => (b.toNat : Int)
theorem bytesOf_len (s : ByteArray) : (bytesOf s).length = s.size := by unfold bytesOf; rw [List.length_map, Array.length_toList]; rfl
theorem bytesOf_range (s : ByteArray) : ∀ x ∈ bytesOf s, 0 ≤ x ∧ x ≤ 255 := by
  intro x hx
  unfold bytesOf at hx
  obtain ⟨b, _, rfl⟩ := List.mem_map.1 hx
  have := b.toNat_lt
  omega
theorem strCells_bytes (s : ByteArray) : Go.Lib.strCells s = (bytesOf s).map (Value.int .u8) := by
  unfold Go.Lib.strCells bytesOf
  rw [List.map_map]; rfl
theorem str_bytes (s : ByteArray) : strOfNums (bytesOf s) = s := by
  have h : ∀ k, k < s.size → bt (strOfNums (bytesOf s)) k = bt s k := by
    intro k hk
    rw [bt_strOf _ k (by rw [bytesOf_len]; exact hk) (bytesOf_range s)]
    unfold bytesOf bt
    rw [dif_pos hk]
    simp only [List.getElem_map, Array.getElem_toList]
    rfl
  have hs : (strOfNums (bytesOf s)).size = s.size := by rw [strOfNums_size, bytesOf_len]
  apply ByteArray.ext
  apply Array.ext
  · exact hs
  · intro i h1 h2
    have h3 := h i h2
    unfold bt at h3
    rw [dif_pos (show i < (strOfNums (bytesOf s)).size from h1), dif_pos (show i < s.size from h2)] at h3
    have h4 : ((strOfNums (bytesOf s))[i]'h1).toNat = (s[i]'h2).toNat := by omega
    exact UInt8.toNat_inj.1 h4
/-- What Put hands back. -/
def PPost (w : World) (ys : List Int) (k : Int) (e : Ending) (w' : World) : Prop :=
  ∃ V n, e = .returned (.tuple #[V, .int .i64 k]) ∧ w'.ownsRow w.heap.size 5 1 V n (ys.map (Value.int .u8)) ∧ Below w.heap.size w w'
end Go.Proofs.Ytnngldkpkhabeaa.Nam
namespace Go.Proofs.Ytnngldkpkhabeaa.Nam

open Go.RowKit Go.PlainAid Go.Proofs.Ytnngldkpkhabeaa.Oct Go.Proofs.Ytnngldkpkhabeaa.Flt Go.Proofs.Ytnngldkpkhabeaa.Rdr

set_option linter.unusedVariables false

/-- A name's bytes. -/
def nmB (s : ByteArray) : ByteArray := strOfNums ((s.size : Int) :: bytesOf s)
theorem nmB_cat (s : ByteArray) : strOfNums [(s.size : Int)] ++ s = nmB s := by
  unfold nmB
  rw [show ((s.size : Int) :: bytesOf s) = [(s.size : Int)] ++ bytesOf s from rfl, strOf_append, str_bytes]
theorem nmB_size (s : ByteArray) : (nmB s).size = 1 + s.size := by
  unfold nmB; rw [strOfNums_size, List.length_cons, bytesOf_len]; omega
theorem cat_extract (a b : ByteArray) (n : Nat) (h : a.size = n) : (a ++ b).extract n (n + b.size) = b := by
  apply ByteArray.ext
  rw [ByteArray.data_extract, ByteArray.data_append, ← h]
  show (a.data ++ b.data).extract a.data.size (a.data.size + b.data.size) = b.data
  have e1 : a.data.extract a.data.size (a.data.size + b.data.size) = #[] := by
    apply Array.eq_empty_of_size_eq_zero; rw [Array.size_extract]; omega
  rw [Array.extract_append, e1]
  simp
/-- What is put is got. -/
theorem back (s : ByteArray) (h1 : 1 ≤ s.size) (h2 : s.size ≤ 16) (hr : rightB s = true) :
    nmS ⟨nmB s, 0, 0, 0, 0, 0⟩ = ⟨nmB s, 1 + s.size, 0, 0, 0, 0⟩ ∧ nmV ⟨nmB s, 0, 0, 0, 0, 0⟩ = s := by
  have hsz := nmB_size s
  have hb : getB (nmB s) (0 : Nat) (1 : Nat) = true := by unfold getB sizeB; rw [hsz]; simp; omega
  have hg : getV (nmB s) (0 : Nat) (1 : Nat) = s.size := by
    unfold getV
    rw [if_pos hb]
    simp only [Int.toNat_natCast]
    rw [getN, getN]
    have : bt (nmB s) (0 + 0) = s.size := by
      unfold nmB
      rw [bt_strOf _ _ (by simp) (by
        intro x hx
        rcases List.mem_cons.1 hx with rfl | hx
        · omega
        · exact bytesOf_range s x hx)]
      rfl
    rw [this]; simp
  have e1 : numS ⟨nmB s, 0, 0, 0, 0, 0⟩ 1 = ⟨nmB s, 1, 0, 0, 0, 0⟩ := by
    unfold numS; rw [if_pos rfl]; simp only []; rw [hb]; rfl
  have e2 : numV ⟨nmB s, 0, 0, 0, 0, 0⟩ 1 = s.size := by
    unfold numV; rw [if_pos rfl]; exact hg
  have hle : 1 + s.size ≤ (nmB s).size := by omega
  have e3 : txtS ⟨nmB s, 1, 0, 0, 0, 0⟩ (s.size : Nat) = ⟨nmB s, 1 + s.size, 0, 0, 0, 0⟩ := by
    unfold txtS; simp only [Int.toNat_natCast]; rw [if_pos trivial, if_pos hle]
  have e4 : txtV ⟨nmB s, 1, 0, 0, 0, 0⟩ (s.size : Nat) = s := by
    unfold txtV; simp only [Int.toNat_natCast]; rw [if_pos ⟨trivial, hle⟩]
    rw [← nmB_cat]
    exact cat_extract _ _ 1 (by rw [strOfNums_size]; rfl)
  have hng : ¬ (s.size = 0 ∨ 16 < s.size) := by omega
  constructor
  · unfold nmS
    rw [e1, e2, e3, e4, if_neg (by simp), if_neg hng, if_neg (by simp), hr]; rfl
  · unfold nmV
    rw [e1, e2, e3, e4, if_pos ⟨rfl, hng, rfl, hr⟩]
end Go.Proofs.Ytnngldkpkhabeaa.Nam
namespace Go.Proofs.Ytnngldkpkhabeaa.Byt

open Go.RowKit Go.PlainAid Go.Proofs.Ytnngldkpkhabeaa.Oct Go.Proofs.Ytnngldkpkhabeaa.Nam

set_option linter.unusedVariables false

set_option linter.unusedSimpArgs false

/-- Bytes of the call's own. -/
def OPost (w : World) (n : Nat) (xs : List Int) (e : Ending) (w' : World) : Prop := ∃ V, e = .returned V ∧ w'.ownsRow w.heap.size 5 1 V n (xs.map (Value.int .u8)) ∧ Below w.heap.size w w'
theorem owns_empty (w : World) : (w.alloc (.cells #[] 5)).ownsRow w.heap.size 5 1 (.slice (some ⟨w.heap.size, 0, none⟩) 0 0) 0 [] := by
  have h := owns_block (w := w.alloc (.cells #[] 5)) (B := w.heap.size) (n := 0) (c := 0) (cs := []) (heap_alloc_new _ _) (Nat.le_refl _) rfl (by unfold maxLen; omega)
  exact h
theorem bytes_at {w : World} {a : Addr} {n : Nat} {xs : List Int} (h : IsBytes w (some a) n xs) : ∀ j v, (xs.map (Value.int .u8))[j]? = some v → w.cell? (a.add j) = some v := by
  intro j v hj
  have h0 : 0 < n := by
    rw [← h.1]
    rcases Nat.lt_or_ge j (xs.map (Value.int .u8)).length with hl | hl
    · rw [List.length_map] at hl; omega
    · rw [List.getElem?_eq_none hl] at hj; cases hj
  obtain ⟨ad, e, h2⟩ := h.2 h0
  obtain rfl := Option.some.inj e
  exact h2 j v hj
theorem bytes_kept {w w' : World} {A : Option Addr} {n : Nat} {xs : List Int} (h : IsBytes w A n xs) (b : Below w.heap.size w w') : IsBytes w' A n xs :=
  ⟨h.1, fun hp => by obtain ⟨ad, e1, e2⟩ := h.2 hp; exact ⟨ad, e1, fun j u hj => (b.cell (cell_lt (e2 j u hj))).trans (e2 j u hj)⟩⟩
def catN (len m : Nat) : Nat → Nat
  | 0 => 0
  | 1 => len
  | _ => len + m
def catL (xs ys : List Int) : Nat → List Int
  | 0 => []
  | 1 => xs
  | _ => xs ++ ys
end Go.Proofs.Ytnngldkpkhabeaa.Byt
