/- What the document says is wrong first with windows. Condition: at most 1,000 windows. DERIVED: THE SHELF's CONTRACTS AT THIS DUMP, IN PLAIN WORDS (tools/lay-plain.mjs out of 'TryShelfM.lean', which tools/lay-shelf.mjs wrote): THE SAME DECLARATIONS UNDER THE SAME NAMES: 'import', 'namespace', 'open', 'def', 'theorem' AND NOTHING ELSE: no command of the shelf's: FOR A HAND-IN. Each laying: the table of numbers ('.._ren') and one theorem, a field a fact of the dump's own or the kernel's comparison; each contract: ONE APPLICATION. -/
import Derived.Test.YtnngldkpkhabeaaMg23
import Derived.Shelf.SlGeneric
import Derived.Shelf.SlMaps.Clone
import Derived.Ground.SlmcProg
import Derived.Test.YtnngldkpkhabeaaProg
namespace Go.Proofs.Ytnngldkpkhabeaa.Win

open Go.RowKit Go.PlainAid Go.Proofs.Ytnngldkpkhabeaa.Oct Go.Proofs.Ytnngldkpkhabeaa.Flt Go.Proofs.Ytnngldkpkhabeaa.Rdr Go.Proofs.Ytnngldkpkhabeaa.Args

open Go.Proofs.Ytnngldkpkhabeaa.Act (A3 actL flatA ActsAt I64 Wide)

set_option linter.unusedVariables false

set_option linter.unusedSimpArgs false

theorem mem_snoc (ids : List Int) (k : Nat) (hk : k < ids.length) (v : Int) (h : memB (ids.take k) v = false) : memB (ids.take (k + 1)) v = (ids[k]?.getD 0 == v) := by
  have e0 : ids.take (k + 1) = ids.take k ++ [ids[k]] := by
    rw [List.take_add_one, List.getElem?_eq_getElem hk]; rfl
  have e1 : ids[k]?.getD 0 = ids[k] := by rw [List.getElem?_eq_getElem hk]; rfl
  unfold memB at h ⊢
  rw [e0, e1]
  have h' : ¬ v ∈ ids.take k := by simpa using h
  by_cases e : ids[k] = v
  · rw [decide_eq_true (List.mem_append_right _ (by rw [e]; exact List.mem_singleton.2 rfl)), e]; simp
  · rw [decide_eq_false (fun hm => by
      rcases List.mem_append.1 hm with hm | hm
      · exact h' hm
      · exact e (List.mem_singleton.1 hm).symm)]
    simp [e]
theorem below_dn {B : Nat} {a w : World} (h : Below B a w) (n : Nat) : Below B a (w.drewN n) := ⟨h.os, h.tape, h.output, h.size, h.block⟩
theorem bad_first {ids : List Int} {fr : Int} {x : A3} (h1 : memB ids x.s = true) (h2 : okW fr x = true) : bad1W ids fr ⟨0, 0, 0⟩ x = 0 := by
  unfold bad1W
  rw [h1, h2]
  have : 0 ≤ x.p := by
    unfold okW at h2
    split at h2
    · simp at h2
    · split at h2
      · simp at h2
      · omega
  simp [show ¬ x.p < 0 by omega]
end Go.Proofs.Ytnngldkpkhabeaa.Win
namespace Go.Proofs
open Go.Shelf
def Try.mclone_ren : Go.Shelf.Ren := ⟨fun | 5 => 65 | 7 => 83 | n => n, fun | 23 => 49 | 25 => 3 | 3 => 29 | 4 => 4 | 20 => 20 | n => n, fun | n => n⟩
theorem Try.mclone : Go.Proofs.SlLaysW.n5 Try.prog Try.mclone_ren := {
  mixed := by kernel_rfl
  f5 := ⟨Try.f65.name, by decide, Try.func65.trans (congrArg some (by kernel_rfl))⟩
  f7 := Try.func83.trans (congrArg some (by kernel_rfl))
  t4 := Try.underlying4
  a4 := Try.isAgg4
  z4 := Try.sizeOf4
  v4 := Try.zeroValue4
  t20 := Try.underlying20
  a20 := Try.isAgg20
  z20 := Try.sizeOf20
  v20 := Try.zeroValue20
  t23 := Try.underlying49
  a23 := Try.isAgg49
  z23 := Try.sizeOf49
  v23 := Try.zeroValue49 }
end Go.Proofs
