
/- What package name's Put lays behind bytes, the document's bytes of a name, and that they are read as the name. Condition: at most 2 to the power 30 bytes come in. -/

import Derived.Test.YtlbpmbdogkfecaaDoorNamD

import Derived.Test.YtlbpmbdogkfecaaDoorOctP

import Derived.Lib.AppendStr

namespace Go.Proofs.YtlbpmbdogkfecaaDoor.Nam

open Go.RowKit Go.PlainAid Go.Proofs.YtlbpmbdogkfecaaDoor.Oct Go.Proofs.YtlbpmbdogkfecaaDoor.Flt Go.Proofs.YtlbpmbdogkfecaaDoor.Rdr

set_option linter.unusedVariables false

/-- A text's bytes, as numbers. -/
def bytesOf (s : ByteArray) : List Int := s.data.toList.map fun b => (b.toNat : Int)
theorem bytesOf_len (s : ByteArray) : (bytesOf s).length = s.size := by unfold bytesOf; rw [List.length_map, Array.length_toList]; rfl
theorem bytesOf_range (s : ByteArray) : ∀ x ∈ bytesOf s, 0 ≤ x ∧ x ≤ 255 := by
  intro x hx
  unfold bytesOf at hx
  obtain ⟨b, _, rfl⟩ := List.mem_map.1 hx
  have := b.toNat_lt
  omega
theorem strCells_bytes (s : ByteArray) : Go.Lib.strCells s = (bytesOf s).map (Value.int .u8) := by
  unfold Go.Lib.strCells bytesOf
  rw [List.map_map]; rfl
theorem str_bytes (s : ByteArray) : strOfNums (bytesOf s) = s := by
  have h : ∀ k, k < s.size → bt (strOfNums (bytesOf s)) k = bt s k := by
    intro k hk
    rw [bt_strOf _ k (by rw [bytesOf_len]; exact hk) (bytesOf_range s)]
    unfold bytesOf bt
    rw [dif_pos hk]
    simp only [List.getElem_map, Array.getElem_toList]
    rfl
  have hs : (strOfNums (bytesOf s)).size = s.size := by rw [strOfNums_size, bytesOf_len]
  apply ByteArray.ext
  apply Array.ext
  · exact hs
  · intro i h1 h2
    have h3 := h i h2
    unfold bt at h3
    rw [dif_pos (show i < (strOfNums (bytesOf s)).size from h1), dif_pos (show i < s.size from h2)] at h3
    have h4 : ((strOfNums (bytesOf s))[i]'h1).toNat = (s[i]'h2).toNat := by omega
    exact UInt8.toNat_inj.1 h4
/-- What Put hands back. -/
def PPost (w : World) (ys : List Int) (k : Int) (e : Ending) (w' : World) : Prop :=
  ∃ V n, e = .returned (.tuple #[V, .int .i64 k]) ∧ w'.ownsRow w.heap.size 5 1 V n (ys.map (Value.int .u8)) ∧ Below w.heap.size w w'
end Go.Proofs.YtlbpmbdogkfecaaDoor.Nam
