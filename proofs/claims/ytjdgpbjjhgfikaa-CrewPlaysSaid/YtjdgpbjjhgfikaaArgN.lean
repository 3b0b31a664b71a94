
/- Words for arguments that came in: slices of structs whose fields are plain or slices of numbers. It says nothing of the program. No condition. -/

import Derived.Test.YtjdgpbjjhgfikaaArgs

namespace Go.Proofs.Ytjdgpbjjhgfikaa.Args

open Go.RowKit Go.ChangeShapes Go.WideShapes Go.Deep

/-- A field's kind: a plain one; a slice of numbers. -/
inductive FN where
  | one (k : FK)
  | nums (k : IntKind)
def FN.okT (P : Program) : FN → TypeId → Prop
  | .one k, t => P.underlying t = some k.desc
  | .nums k, t => ∃ e, P.underlying t = some (.slice e) ∧ P.underlying e = some (.int k) ∧ P.cellsOf e = 1
/-- A slice of numbers that came in: nil, or a row whose first 'len' cells are numbers. -/
def IsNums (k : IntKind) (w : World) (a : Option Addr) (len cap : Nat) : Prop :=
  (a = none ∧ len = 0 ∧ cap = 0) ∨
  ∃ x, a = some x ∧ len ≤ cap ∧ cap ≤ maxLen ∧ ∀ i, i < len → ∃ z, w.cell? (x.add i) = some (.int k z) ∧ (Lit.int k z).wf = true
def FN.fits (w : World) : FN → Value → Prop
  | .one k, v => k.fits v
  | .nums k, v => ∃ a len cap, v = .slice a len cap ∧ IsNums k w a len cap
def IsNRows (w : World) (a : Option Addr) (len cap : Nat) (ks : List FN) : Prop :=
  (a = none ∧ len = 0 ∧ cap = 0) ∨
  ∃ x, a = some x ∧ len ≤ cap ∧ cap ≤ maxLen ∧ ∀ i, i < len → ∀ (j : Nat) (k : FN), ks[j]? = some k → ∃ v, w.cell? ((x.add (i * ks.length)).add j) = some v ∧ k.fits w v
section

variable {H : Type} {enc : TypeId × Value → H} {P : Program} {w : World} {base : Nat} {spare : Nat → Bool} {held : Bool}

theorem open_numsN {t e : TypeId} {k : IntKind} {fuel : Nat} {cs : List Value} {x : DataW H × List MemPlace} (ht : P.underlying t = some (.slice e)) (he : P.underlying e = some (.int k)) (hC : P.cellsOf e = 1) (h : DataW.trod enc P w base spare held fuel t cs = some x) :
    ∃ a len cap, cs = [.slice a len cap] ∧ IsNums k w a len cap := by
  rcases open_slice ht h with ⟨h0, _⟩ | ⟨a, len, cap, m, n, D, Pl, hcs, hb, hl, hm, hmm, hx, hi⟩
  · exact ⟨none, 0, 0, h0, .inl ⟨rfl, rfl, rfl⟩⟩
  · refine ⟨some a, len, cap, hcs, .inr ⟨a, rfl, hl, hm, fun i him => ?_⟩⟩
    have him' : i < m := by rw [hmm]; split <;> omega
    obtain ⟨cs', hc, ht'⟩ := hi i him'
    rw [hC] at hc
    obtain ⟨_, hcl, hat⟩ := World.cells?_some hc
    obtain ⟨z, hz, _, hw⟩ := DataW.trod_int he ht'
    have h0 := hat 0 (by omega)
    rw [hz] at h0
    refine ⟨z, ?_, hw⟩
    have e1 : (a.add (i * 1)).add 0 = a.add i := by simp [Addr.add]
    rw [e1] at h0
    exact h0
theorem open_nfields {t : TypeId} {fs : Array Field} {fuel : Nat} {cs : List Value} {x : DataW H × List MemPlace} (ks : List FN) (ht : P.underlying t = some (.struct fs)) (hone : oneCellFields P fs = true) (hl : cs.length = ks.length)
    (hk : ∀ (j : Nat) (k : FN), ks[j]? = some k → ∃ f : Field, fs[j]? = some f ∧ k.okT P f.type) (h : DataW.trod enc P w base spare held fuel t cs = some x) :
    ∀ (j : Nat) (k : FN), ks[j]? = some k → ∃ v, cs[j]? = some v ∧ k.fits w v := by
  intro j k hj
  obtain ⟨ys, n', hn', hy, hlen, hyl, hf⟩ := DataW.trod_struct ht h
  obtain ⟨f, hfj, hfd⟩ := hk j k hj
  obtain ⟨ho, hk1⟩ := hone_of hone j f hfj
  have hjl : j < ks.length := by
    rcases Nat.lt_or_ge j ks.length with h | h
    · exact h
    · rw [List.getElem?_eq_none h] at hj; cases hj
  have hjc : j < cs.length := by omega
  have h1 := hf j f hfj
  rw [ho, hk1] at h1
  have hone' : (cs.drop j).take 1 = [cs[j]] := by
    rw [List.drop_eq_getElem_cons hjc]
    rfl
  rw [hone'] at h1
  have hyj : j < ys.length := by
    have := (Array.getElem?_eq_some_iff.1 hfj).1
    omega
  rw [List.getElem?_eq_getElem hyj] at h1
  refine ⟨cs[j], List.getElem?_eq_getElem hjc, ?_⟩
  cases k with
  | one k =>
    cases k with
    | int kk =>
      obtain ⟨z, hz, _, hw⟩ := DataW.trod_int hfd h1
      simp at hz
      exact ⟨z, hz, hw⟩
    | bool =>
      obtain ⟨b, hz, _⟩ := DataW.trod_bool hfd h1
      simp at hz
      exact ⟨b, hz⟩
    | string =>
      obtain ⟨s, hz, _, hw⟩ := DataW.trod_string hfd h1
      simp at hz
      exact ⟨s, hz, hw⟩
  | nums kk =>
    obtain ⟨e, h2, h3, h4⟩ := hfd
    obtain ⟨a, len, cap, hc, hr⟩ := open_numsN h2 h3 h4 h1
    simp at hc
    exact ⟨a, len, cap, hc, hr⟩
theorem open_nrows {t e : TypeId} {fs : Array Field} {fuel : Nat} {cs : List Value} {x : DataW H × List MemPlace} (ks : List FN) (ht : P.underlying t = some (.slice e)) (he : P.underlying e = some (.struct fs))
    (hone : oneCellFields P fs = true) (hC : P.cellsOf e = ks.length) (hk : ∀ (j : Nat) (k : FN), ks[j]? = some k → ∃ f : Field, fs[j]? = some f ∧ k.okT P f.type) (h : DataW.trod enc P w base spare held fuel t cs = some x) :
    ∃ a len cap, cs = [.slice a len cap] ∧ IsNRows w a len cap ks := by
  rcases open_slice ht h with ⟨h0, _⟩ | ⟨a, len, cap, m, n, D, Pl, hcs, hb, hl, hm, hmm, hx, hi⟩
  · exact ⟨none, 0, 0, h0, .inl ⟨rfl, rfl, rfl⟩⟩
  · refine ⟨some a, len, cap, hcs, .inr ⟨a, rfl, hl, hm, fun i him j k hj => ?_⟩⟩
    have him' : i < m := by rw [hmm]; split <;> omega
    obtain ⟨cs', hc, ht'⟩ := hi i him'
    rw [hC] at hc
    obtain ⟨_, hcl, hat⟩ := World.cells?_some hc
    have hjl : j < ks.length := by
      rcases Nat.lt_or_ge j ks.length with h | h
      · exact h
      · rw [List.getElem?_eq_none h] at hj; cases hj
    obtain ⟨v, hv, hfit⟩ := open_nfields ks he hone hcl hk ht' j k hj
    exact ⟨v, by rw [hat j hjl, hv], hfit⟩
end

end Go.Proofs.Ytjdgpbjjhgfikaa.Args
