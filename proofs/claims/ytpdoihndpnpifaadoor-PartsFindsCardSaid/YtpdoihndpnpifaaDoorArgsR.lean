
/- Words for arguments that came in: slices of structs whose fields are numbers, texts and truth values. It says nothing of the program. No condition. -/

import Derived.Test.YtpdoihndpnpifaaDoorArgs

import Derived.Deep.Slices

import Derived.Deep.Fields

import Derived.ChangeSame

namespace Go.Proofs.YtpdoihndpnpifaaDoor.Args

open Go.RowKit Go.ChangeShapes Go.WideShapes Go.Deep

/-- A field's kind. -/
inductive FK where
  | int (k : IntKind)
  | bool
  | string
def FK.desc : FK → TypeDesc
  | .int k => .int k
  | .bool => .bool
  | .string => .string
/-- A value of a field of that kind. -/
def FK.fits : FK → Value → Prop
  | .int k, v => ∃ n, v = .int k n ∧ (Lit.int k n).wf = true
  | .bool, v => ∃ b, v = .bool b
  | .string, v => ∃ s : ByteArray, v = .string s ∧ s.size ≤ maxLen
/-- A slice of structs that came in: nil, or rows of as many cells as there are fields. -/
def IsRecs (w : World) (a : Option Addr) (len cap : Nat) (ks : List FK) : Prop :=
  (a = none ∧ len = 0 ∧ cap = 0) ∨
  ∃ x, a = some x ∧ len ≤ cap ∧ cap ≤ maxLen ∧ ∀ i, i < len → ∀ (j : Nat) (k : FK), ks[j]? = some k → ∃ v, w.cell? ((x.add (i * ks.length)).add j) = some v ∧ k.fits v
section

variable {H : Type} {enc : TypeId × Value → H} {P : Program} {w : World} {base : Nat} {spare : Nat → Bool} {held : Bool}

theorem open_recs {t e : TypeId} {fs : Array Field} {fuel : Nat} {cs : List Value} {x : DataW H × List MemPlace} (ks : List FK) (ht : P.underlying t = some (.slice e)) (he : P.underlying e = some (.struct fs))
    (hone : oneCellFields P fs = true) (hC : P.cellsOf e = ks.length) (hk : ∀ (j : Nat) (k : FK), ks[j]? = some k → ∃ f : Field, fs[j]? = some f ∧ P.underlying f.type = some k.desc) (h : DataW.trod enc P w base spare held fuel t cs = some x) :
    ∃ a len cap, cs = [.slice a len cap] ∧ IsRecs w a len cap ks := by
  rcases open_slice ht h with ⟨h0, _⟩ | ⟨a, len, cap, m, n, D, Pl, hcs, hb, hl, hm, hmm, hx, hi⟩
  · exact ⟨none, 0, 0, h0, .inl ⟨rfl, rfl, rfl⟩⟩
  · refine ⟨some a, len, cap, hcs, .inr ⟨a, rfl, hl, hm, fun i him j k hj => ?_⟩⟩
    have him' : i < m := by rw [hmm]; split <;> omega
    obtain ⟨cs', hc, ht'⟩ := hi i him'
    rw [hC] at hc
    obtain ⟨ys, n', hn', hy, hlen, hyl, hf⟩ := DataW.trod_struct he ht'
    obtain ⟨_, hcl, hat⟩ := World.cells?_some hc
    obtain ⟨f, hfj, hfd⟩ := hk j k hj
    obtain ⟨ho, hk1⟩ := hone_of hone j f hfj
    have hjl : j < ks.length := by
      rcases Nat.lt_or_ge j ks.length with h | h
      · exact h
      · rw [List.getElem?_eq_none h] at hj; cases hj
    have hcell := hat j hjl
    have hjc : j < cs'.length := by omega
    have h1 := hf j f hfj
    rw [ho, hk1] at h1
    have hone' : (cs'.drop j).take 1 = [cs'[j]] := by
      rw [List.drop_eq_getElem_cons hjc]
      rfl
    rw [hone'] at h1
    have hyj : j < ys.length := by
      have := (Array.getElem?_eq_some_iff.1 hfj).1
      omega
    rw [List.getElem?_eq_getElem hyj] at h1
    refine ⟨cs'[j], by rw [hcell, List.getElem?_eq_getElem hjc], ?_⟩
    cases k with
    | int kk =>
      obtain ⟨z, hz, _, hw⟩ := DataW.trod_int hfd h1
      simp at hz
      exact ⟨z, hz, hw⟩
    | bool =>
      obtain ⟨b, hz, _⟩ := DataW.trod_bool hfd h1
      simp at hz
      exact ⟨b, hz⟩
    | string =>
      obtain ⟨s, hz, _, hw⟩ := DataW.trod_string hfd h1
      simp at hz
      exact ⟨s, hz, hw⟩
end

end Go.Proofs.YtpdoihndpnpifaaDoor.Args
