
/- What the document says is wrong first with windows. Condition: at most 1,000 windows. -/

import Derived.Test.YtfomkhhkcohdlaaDoorWinD

namespace Go.Proofs.YtfomkhhkcohdlaaDoor.Win

open Go.RowKit Go.PlainAid Go.Proofs.YtfomkhhkcohdlaaDoor.Oct Go.Proofs.YtfomkhhkcohdlaaDoor.Flt Go.Proofs.YtfomkhhkcohdlaaDoor.Rdr Go.Proofs.YtfomkhhkcohdlaaDoor.Args

open Go.Proofs.YtfomkhhkcohdlaaDoor.Act (A3 actL flatA ActsAt I64 Wide)

set_option linter.unusedVariables false

set_option linter.unusedSimpArgs false

theorem mem_snoc (ids : List Int) (k : Nat) (hk : k < ids.length) (v : Int) (h : memB (ids.take k) v = false) : memB (ids.take (k + 1)) v = (ids[k]?.getD 0 == v) := by
  have e0 : ids.take (k + 1) = ids.take k ++ [ids[k]] := by
    rw [List.take_add_one, List.getElem?_eq_getElem hk]; rfl
  have e1 : ids[k]?.getD 0 = ids[k] := by rw [List.getElem?_eq_getElem hk]; rfl
  unfold memB at h ⊢
  rw [e0, e1]
  have h' : ¬ v ∈ ids.take k := by simpa using h
  by_cases e : ids[k] = v
  · rw [decide_eq_true (List.mem_append_right _ (by rw [e]; exact List.mem_singleton.2 rfl)), e]; simp
  · rw [decide_eq_false (fun hm => by
      rcases List.mem_append.1 hm with hm | hm
      · exact h' hm
      · exact e (List.mem_singleton.1 hm).symm)]
    simp [e]
theorem below_dn {B : Nat} {a w : World} (h : Below B a w) (n : Nat) : Below B a (w.drewN n) := ⟨h.os, h.tape, h.output, h.size, h.block⟩
theorem bad_first {ids : List Int} {fr : Int} {x : A3} (h1 : memB ids x.s = true) (h2 : okW fr x = true) : bad1W ids fr ⟨0, 0, 0⟩ x = 0 := by
  unfold bad1W
  rw [h1, h2]
  have : 0 ≤ x.p := by
    unfold okW at h2
    split at h2
    · simp at h2
    · split at h2
      · simp at h2
      · omega
  simp [show ¬ x.p < 0 by omega]
end Go.Proofs.YtfomkhhkcohdlaaDoor.Win
