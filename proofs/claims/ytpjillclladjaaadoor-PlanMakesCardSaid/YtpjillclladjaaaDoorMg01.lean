/- Words for arguments that came in: slices of numbers and of texts. It says nothing of the program. No condition. Words for arguments that came in: slices of structs whose fields are numbers, texts and truth values. It says nothing of the program. No condition. Words for arguments that came in: structs whose fields are numbers, texts, truth values and slices, and slices of these. It says nothing of the program. No condition. -/
import Derived.WalkKit
import Derived.PlainAid
import Derived.OpenShut
import Derived.Deep.Slices
import Derived.Deep.Fields
import Derived.ChangeSame
namespace Go.Proofs.YtpjillclladjaaaDoor.Args

open Go.RowKit

/-- A slice of numbers that came in: nil, or a row of 'cap' cells, the first 'len' of them its elements. -/
def IsRow (k : IntKind) (w : World) (a : Option Addr) (len cap : Nat) (zs : List Int) : Prop :=
  (a = none ∧ len = 0 ∧ cap = 0 ∧ zs = []) ∨
  ∃ x, a = some x ∧ len ≤ cap ∧ cap ≤ maxLen ∧ zs.length = cap ∧ (∀ i, i < zs.length → w.cell? (x.add i) = some (.int k (zs.getD i 0))) ∧ ∀ n ∈ zs, (Lit.int k n).wf = true

/-- A slice of texts that came in: nil, or a row of 'cap' cells, the first 'len' of them its elements. -/
def IsStrs (w : World) (a : Option Addr) (len cap : Nat) (zs : List ByteArray) : Prop :=
  (a = none ∧ len = 0 ∧ cap = 0 ∧ zs = []) ∨
  ∃ x, a = some x ∧ len ≤ cap ∧ cap ≤ maxLen ∧ zs.length = cap ∧ (∀ i, i < zs.length → w.cell? (x.add i) = some (.string (zs.getD i ByteArray.empty))) ∧ ∀ s ∈ zs, s.size ≤ maxLen
end Go.Proofs.YtpjillclladjaaaDoor.Args

namespace Go.Proofs.YtpjillclladjaaaDoor.Args

open Go.RowKit Go.ChangeShapes Go.WideShapes Go.Deep

/-- A field's kind. -/
inductive FK where
  | int (k : IntKind)
  | bool
  | string
def FK.desc : FK → TypeDesc
  | .int k => .int k
  | .bool => .bool
  | .string => .string
/-- A value of a field of that kind. -/
def FK.fits : FK → Value → Prop
  | .int k, v => ∃ n, v = .int k n ∧ (Lit.int k n).wf = true
  | .bool, v => ∃ b, v = .bool b
  | .string, v => ∃ s : ByteArray, v = .string s ∧ s.size ≤ maxLen
/-- A slice of structs that came in: nil, or rows of as many cells as there are fields. -/
def IsRecs (w : World) (a : Option Addr) (len cap : Nat) (ks : List FK) : Prop :=
  (a = none ∧ len = 0 ∧ cap = 0) ∨
  ∃ x, a = some x ∧ len ≤ cap ∧ cap ≤ maxLen ∧ ∀ i, i < len → ∀ (j : Nat) (k : FK), ks[j]? = some k → ∃ v, w.cell? ((x.add (i * ks.length)).add j) = some v ∧ k.fits v
section

variable {H : Type} {enc : TypeId × Value → H} {P : Program} {w : World} {base : Nat} {spare : Nat → Bool} {held : Bool}

theorem open_recs {t e : TypeId} {fs : Array Field} {fuel : Nat} {cs : List Value} {x : DataW H × List MemPlace} (ks : List FK) (ht : P.underlying t = some (.slice e)) (he : P.underlying e = some (.struct fs))
    (hone : oneCellFields P fs = true) (hC : P.cellsOf e = ks.length) (hk : ∀ (j : Nat) (k : FK), ks[j]? = some k → ∃ f : Field, fs[j]? = some f ∧ P.underlying f.type = some k.desc) (h : DataW.trod enc P w base spare held fuel t cs = some x) :
    ∃ a len cap, cs = [.slice a len cap] ∧ IsRecs w a len cap ks := by
  rcases open_slice ht h with ⟨h0, _⟩ | ⟨a, len, cap, m, n, D, Pl, hcs, hb, hl, hm, hmm, hx, hi⟩
  · exact ⟨none, 0, 0, h0, .inl ⟨rfl, rfl, rfl⟩⟩
  · refine ⟨some a, len, cap, hcs, .inr ⟨a, rfl, hl, hm, fun i him j k hj => ?_⟩⟩
    have him' : i < m := by rw [hmm]; split <;> omega
    obtain ⟨cs', hc, ht'⟩ := hi i him'
    rw [hC] at hc
    obtain ⟨ys, n', hn', hy, hlen, hyl, hf⟩ := DataW.trod_struct he ht'
    obtain ⟨_, hcl, hat⟩ := World.cells?_some hc
    obtain ⟨f, hfj, hfd⟩ := hk j k hj
    obtain ⟨ho, hk1⟩ := hone_of hone j f hfj
    have hjl : j < ks.length := by
      rcases Nat.lt_or_ge j ks.length with h | h
      · exact h
      · rw [List.getElem?_eq_none h] at hj; cases hj
    have hcell := hat j hjl
    have hjc : j < cs'.length := by omega
    have h1 := hf j f hfj
    rw [ho, hk1] at h1
    have hone' : (cs'.drop j).take 1 = [cs'[j]] := by
      rw [List.drop_eq_getElem_cons hjc]
      rfl
    rw [hone'] at h1
    have hyj : j < ys.length := by
      have := (Array.getElem?_eq_some_iff.1 hfj).1
      omega
    rw [List.getElem?_eq_getElem hyj] at h1
    refine ⟨cs'[j], by rw [hcell, List.getElem?_eq_getElem hjc], ?_⟩
    cases k with
    | int kk =>
      obtain ⟨z, hz, _, hw⟩ := DataW.trod_int hfd h1
      simp at hz
      exact ⟨z, hz, hw⟩
    | bool =>
      obtain ⟨b, hz, _⟩ := DataW.trod_bool hfd h1
      simp at hz
      exact ⟨b, hz⟩
    | string =>
      obtain ⟨s, hz, _, hw⟩ := DataW.trod_string hfd h1
      simp at hz
      exact ⟨s, hz, hw⟩
end

end Go.Proofs.YtpjillclladjaaaDoor.Args

namespace Go.Proofs.YtpjillclladjaaaDoor.Args

open Go.RowKit Go.ChangeShapes Go.WideShapes Go.Deep

/-- A field's kind: a plain one; a slice of structs of plain fields; any slice. -/
inductive FS where
  | one (k : FK)
  | recs (ks : List FK)
  | sl
def FS.okT (P : Program) : FS → TypeId → Prop
  | .one k, t => P.underlying t = some k.desc
  | .recs ks, t => ∃ e fs, P.underlying t = some (.slice e) ∧ P.underlying e = some (.struct fs) ∧ oneCellFields P fs = true ∧ P.cellsOf e = ks.length ∧ ∀ (j : Nat) (k : FK), ks[j]? = some k → ∃ f : Field, fs[j]? = some f ∧ P.underlying f.type = some k.desc
  | .sl, t => ∃ e, P.underlying t = some (.slice e)
def FS.fits (w : World) : FS → Value → Prop
  | .one k, v => k.fits v
  | .recs ks, v => ∃ a len cap, v = .slice a len cap ∧ IsRecs w a len cap ks
  | .sl, v => ∃ a len cap, v = .slice a len cap ∧ len ≤ cap ∧ cap ≤ maxLen
/-- A struct that came in: its fields' values. -/
def IsAgg (w : World) (ks : List FS) (cs : Array Value) : Prop := cs.size = ks.length ∧ ∀ (j : Nat) (k : FS), ks[j]? = some k → ∃ v, cs[j]? = some v ∧ k.fits w v
/-- A slice of structs that came in: nil, or rows of as many cells as there are fields. -/
def IsRows (w : World) (a : Option Addr) (len cap : Nat) (ks : List FS) : Prop :=
  (a = none ∧ len = 0 ∧ cap = 0) ∨
  ∃ x, a = some x ∧ len ≤ cap ∧ cap ≤ maxLen ∧ ∀ i, i < len → ∀ (j : Nat) (k : FS), ks[j]? = some k → ∃ v, w.cell? ((x.add (i * ks.length)).add j) = some v ∧ k.fits w v
section

variable {H : Type} {enc : TypeId × Value → H} {P : Program} {w : World} {base : Nat} {spare : Nat → Bool} {held : Bool}

theorem open_fields {t : TypeId} {fs : Array Field} {fuel : Nat} {cs : List Value} {x : DataW H × List MemPlace} (ks : List FS) (ht : P.underlying t = some (.struct fs)) (hone : oneCellFields P fs = true) (hl : cs.length = ks.length)
    (hk : ∀ (j : Nat) (k : FS), ks[j]? = some k → ∃ f : Field, fs[j]? = some f ∧ k.okT P f.type) (h : DataW.trod enc P w base spare held fuel t cs = some x) :
    ∀ (j : Nat) (k : FS), ks[j]? = some k → ∃ v, cs[j]? = some v ∧ k.fits w v := by
  intro j k hj
  obtain ⟨ys, n', hn', hy, hlen, hyl, hf⟩ := DataW.trod_struct ht h
  obtain ⟨f, hfj, hfd⟩ := hk j k hj
  obtain ⟨ho, hk1⟩ := hone_of hone j f hfj
  have hjl : j < ks.length := by
    rcases Nat.lt_or_ge j ks.length with h | h
    · exact h
    · rw [List.getElem?_eq_none h] at hj; cases hj
  have hjc : j < cs.length := by omega
  have h1 := hf j f hfj
  rw [ho, hk1] at h1
  have hone' : (cs.drop j).take 1 = [cs[j]] := by
    rw [List.drop_eq_getElem_cons hjc]
    rfl
  rw [hone'] at h1
  have hyj : j < ys.length := by
    have := (Array.getElem?_eq_some_iff.1 hfj).1
    omega
  rw [List.getElem?_eq_getElem hyj] at h1
  refine ⟨cs[j], List.getElem?_eq_getElem hjc, ?_⟩
  cases k with
  | one k =>
    cases k with
    | int kk =>
      obtain ⟨z, hz, _, hw⟩ := DataW.trod_int hfd h1
      simp at hz
      exact ⟨z, hz, hw⟩
    | bool =>
      obtain ⟨b, hz, _⟩ := DataW.trod_bool hfd h1
      simp at hz
      exact ⟨b, hz⟩
    | string =>
      obtain ⟨s, hz, _, hw⟩ := DataW.trod_string hfd h1
      simp at hz
      exact ⟨s, hz, hw⟩
  | recs kk =>
    obtain ⟨e, fs', h2, h3, h4, h5, h6⟩ := hfd
    obtain ⟨a, len, cap, hc, hr⟩ := open_recs kk h2 h3 h4 h5 h6 h1
    simp at hc
    exact ⟨a, len, cap, hc, hr⟩
  | sl =>
    obtain ⟨e, h2⟩ := hfd
    rcases open_slice h2 h1 with ⟨h0, _⟩ | ⟨a, len, cap, m, n, D, Pl, hcs, hb, hl, hm, _⟩
    · simp at h0
      exact ⟨none, 0, 0, h0, Nat.le_refl _, Nat.zero_le _⟩
    · simp at hcs
      exact ⟨some a, len, cap, hcs, hl, hm⟩
theorem open_rows {t e : TypeId} {fs : Array Field} {fuel : Nat} {cs : List Value} {x : DataW H × List MemPlace} (ks : List FS) (ht : P.underlying t = some (.slice e)) (he : P.underlying e = some (.struct fs))
    (hone : oneCellFields P fs = true) (hC : P.cellsOf e = ks.length) (hk : ∀ (j : Nat) (k : FS), ks[j]? = some k → ∃ f : Field, fs[j]? = some f ∧ k.okT P f.type) (h : DataW.trod enc P w base spare held fuel t cs = some x) :
    ∃ a len cap, cs = [.slice a len cap] ∧ IsRows w a len cap ks := by
  rcases open_slice ht h with ⟨h0, _⟩ | ⟨a, len, cap, m, n, D, Pl, hcs, hb, hl, hm, hmm, hx, hi⟩
  · exact ⟨none, 0, 0, h0, .inl ⟨rfl, rfl, rfl⟩⟩
  · refine ⟨some a, len, cap, hcs, .inr ⟨a, rfl, hl, hm, fun i him j k hj => ?_⟩⟩
    have him' : i < m := by rw [hmm]; split <;> omega
    obtain ⟨cs', hc, ht'⟩ := hi i him'
    rw [hC] at hc
    obtain ⟨_, hcl, hat⟩ := World.cells?_some hc
    have hjl : j < ks.length := by
      rcases Nat.lt_or_ge j ks.length with h | h
      · exact h
      · rw [List.getElem?_eq_none h] at hj; cases hj
    obtain ⟨v, hv, hfit⟩ := open_fields ks he hone hcl hk ht' j k hj
    exact ⟨v, by rw [hat j hjl, hv], hfit⟩
end

end Go.Proofs.YtpjillclladjaaaDoor.Args

namespace Go.Proofs.YtpjillclladjaaaDoor.Args

open Go.RowKit Go.ChangeShapes Go.WideShapes Go.Deep

/-- A field's kind of a struct that holds rows of structs: a plain one; a slice of structs of plain fields; a slice of structs of more. -/
inductive FM where
  | one (k : FK)
  | recs (ks : List FK)
  | rows (ks : List FS)
def FM.okT (P : Program) : FM → TypeId → Prop
  | .one k, t => P.underlying t = some k.desc
  | .recs ks, t => (FS.recs ks).okT P t
  | .rows ks, t => ∃ e fs, P.underlying t = some (.slice e) ∧ P.underlying e = some (.struct fs) ∧ oneCellFields P fs = true ∧ P.cellsOf e = ks.length ∧ ∀ (j : Nat) (k : FS), ks[j]? = some k → ∃ f : Field, fs[j]? = some f ∧ k.okT P f.type
def FM.fits (w : World) : FM → Value → Prop
  | .one k, v => k.fits v
  | .recs ks, v => ∃ a len cap, v = .slice a len cap ∧ IsRecs w a len cap ks
  | .rows ks, v => ∃ a len cap, v = .slice a len cap ∧ IsRows w a len cap ks
/-- A struct with rows of structs that came in: its fields' values. -/
def IsMod (w : World) (ks : List FM) (cs : Array Value) : Prop := cs.size = ks.length ∧ ∀ (j : Nat) (k : FM), ks[j]? = some k → ∃ v, cs[j]? = some v ∧ k.fits w v
section

variable {H : Type} {enc : TypeId × Value → H} {P : Program} {w : World} {base : Nat} {spare : Nat → Bool} {held : Bool}

theorem open_mod {t : TypeId} {fs : Array Field} {fuel : Nat} {cs : List Value} {x : DataW H × List MemPlace} (ks : List FM) (ht : P.underlying t = some (.struct fs)) (hone : oneCellFields P fs = true) (hl : cs.length = ks.length)
    (hk : ∀ (j : Nat) (k : FM), ks[j]? = some k → ∃ f : Field, fs[j]? = some f ∧ k.okT P f.type) (h : DataW.trod enc P w base spare held fuel t cs = some x) :
    ∀ (j : Nat) (k : FM), ks[j]? = some k → ∃ v, cs[j]? = some v ∧ k.fits w v := by
  intro j k hj
  obtain ⟨ys, n', hn', hy, hlen, hyl, hf⟩ := DataW.trod_struct ht h
  obtain ⟨f, hfj, hfd⟩ := hk j k hj
  obtain ⟨ho, hk1⟩ := hone_of hone j f hfj
  have hjl : j < ks.length := by
    rcases Nat.lt_or_ge j ks.length with h | h
    · exact h
    · rw [List.getElem?_eq_none h] at hj; cases hj
  have hjc : j < cs.length := by omega
  have h1 := hf j f hfj
  rw [ho, hk1] at h1
  have hone' : (cs.drop j).take 1 = [cs[j]] := by
    rw [List.drop_eq_getElem_cons hjc]
    rfl
  rw [hone'] at h1
  have hyj : j < ys.length := by
    have := (Array.getElem?_eq_some_iff.1 hfj).1
    omega
  rw [List.getElem?_eq_getElem hyj] at h1
  refine ⟨cs[j], List.getElem?_eq_getElem hjc, ?_⟩
  cases k with
  | one k =>
    cases k with
    | int kk =>
      obtain ⟨z, hz, _, hw⟩ := DataW.trod_int hfd h1
      simp at hz
      exact ⟨z, hz, hw⟩
    | bool =>
      obtain ⟨b, hz, _⟩ := DataW.trod_bool hfd h1
      simp at hz
      exact ⟨b, hz⟩
    | string =>
      obtain ⟨s, hz, _, hw⟩ := DataW.trod_string hfd h1
      simp at hz
      exact ⟨s, hz, hw⟩
  | recs kk =>
    obtain ⟨e, fs', h2, h3, h4, h5, h6⟩ := hfd
    obtain ⟨a, len, cap, hc, hr⟩ := open_recs kk h2 h3 h4 h5 h6 h1
    simp at hc
    exact ⟨a, len, cap, hc, hr⟩
  | rows kk =>
    obtain ⟨e, fs', h2, h3, h4, h5, h6⟩ := hfd
    obtain ⟨a, len, cap, hc, hr⟩ := open_rows kk h2 h3 h4 h5 h6 h1
    simp at hc
    exact ⟨a, len, cap, hc, hr⟩
end

/-- A module's fields. -/
def modK : List FM := [.one (.int .u64), .one (.int .i64), .rows [.one (.int .i64), .one .string, .one .bool, .recs [.int .u32, .bool]], .rows [.one (.int .i64), .one (.int .i64), .recs [.int .i64, .int .i64, .int .i64], .recs [.int .i64, .int .i64, .int .i64]], .recs [.int .i64, .int .i64], .recs [.int .i64, .int .i64, .int .i64]]
end Go.Proofs.YtpjillclladjaaaDoor.Args
