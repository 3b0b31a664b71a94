
/- Cells of a partition: what the laws hold of them while they walk. Condition: at most a thousand cells. -/

import Derived.Test.YtjdgpbjjhgfikaaCelF

namespace Go.Proofs.Ytjdgpbjjhgfikaa.Cel

open Go.RowKit Go.PlainAid Go.Proofs.Ytjdgpbjjhgfikaa.Args

set_option linter.unusedVariables false

set_option linter.unusedSimpArgs false

theorem nums_of {w : World} {a : Option Addr} {len cap : Nat} {z : List Int} (h : IsRow .u32 w a len cap z) : ∃ l : List Nat, l.length = len ∧ NumsAt w a l ∧ (∀ v ∈ l, v ≤ 4294967295) := by
  rcases h with ⟨rfl, rfl, rfl, rfl⟩ | ⟨y, rfl, h1, h2, h3, h4, h5⟩
  · exact ⟨[], rfl, fun i x hx => by simp at hx, by simp⟩
  · obtain ⟨l, hl, hp⟩ := list_of (fun i (v : Nat) => w.cell? (y.add i) = some (.int .u32 (v : Int)) ∧ v ≤ 4294967295) len (by
      intro i hi
      have hc := h4 i (by omega)
      have hm : z.getD i 0 ∈ z := by simp [List.getD, show i < z.length by omega]
      have hb := bounds_u32 (h5 _ hm)
      obtain ⟨v, hv⟩ := Int.eq_ofNat_of_zero_le hb.1
      rw [hv] at hc hb
      exact ⟨v, hc, by omega⟩)
    refine ⟨l, hl, fun i x hx => ⟨y, rfl, (hp i x hx).1⟩, fun x hx => ?_⟩
    obtain ⟨i, hi, rfl⟩ := List.mem_iff_getElem.1 hx
    exact (hp i _ (List.getElem?_eq_getElem hi)).2
/-- A partition's cells of the call's own, and nothing else has changed. -/
structure CW (w0 : World) (g : Nat) (FA : Option Addr) (fc : Nat) (fs : List C2) (A : Option Addr) (c : Nat) (ns : List Nat) (n : Nat) (wn : Int) (W : World) : Prop where
  ic : IsC W w0.heap.size g FA fc fs A c ns n wn
  below : Below w0.heap.size w0 W
section

variable {w0 W W' : World} {g : Nat} {FA : Option Addr} {fc : Nat} {fs : List C2} {A : Option Addr} {c : Nat} {ns ns' : List Nat} {n : Nat} {wn wn' : Int}

theorem CW.keep (h : CW w0 g FA fc fs A c ns n wn W) (b : Below W.heap.size W W') : CW w0 g FA fc fs A c ns n wn W' := ⟨h.ic.keep b, h.below.trans (b.mono h.below.size)⟩
theorem CW.drewN (h : CW w0 g FA fc fs A c ns n wn W) (m : Nat) : CW w0 g FA fc fs A c ns n wn (W.drewN m) := h.keep ⟨rfl, rfl, rfl, Nat.le_refl _, fun _ _ => rfl⟩
theorem CW.two (h : CW w0 g FA fc fs A c ns n wn W) (i : IsC W' w0.heap.size g FA fc fs A c ns' n wn') (t : Two g A W W') : CW w0 g FA fc fs A c ns' n wn' W' :=
  ⟨i, Two.below h.below t h.below.size h.ic.ge (fun a ha => (own_at h.ic.own a ha).2.1)⟩
/-- A row that was made behind the cells stays. -/
theorem Two.nums (t : Two g A W W') {D : Option Addr} {l : List Nat} (h : NumsAt W D l) (hg : ∀ d, D = some d → d.block ≠ g) (hA : ∀ d a, D = some d → A = some a → a.block ≠ d.block) : NumsAt W' D l := by
  intro i v hv
  obtain ⟨y, hy, hc⟩ := h i v hv
  refine ⟨y, hy, (World.cell?_of_block ?_).trans hc⟩
  have hyb : (y.add i).block = y.block := by cases i <;> rfl
  rw [hyb]
  exact t.block y.block (by have := Go.block_lt_of_cell hc; rw [hyb] at this; exact this) (hg y hy) (fun a ha => hA y a hy ha)
end

theorem fresh_new (fs : List C2) : decide (fs.map C2.v = fs.map C2.v) = true := decide_eq_true rfl
theorem start_all2 {fs : List C2} {ns : List Nat} {n : Nat} (h1 : fs.length = n) (h2 : ns.length = n) : startL (fun _ => true) fs ns = fs.map C2.v := start_all fs ns (by omega)
end Go.Proofs.Ytjdgpbjjhgfikaa.Cel
