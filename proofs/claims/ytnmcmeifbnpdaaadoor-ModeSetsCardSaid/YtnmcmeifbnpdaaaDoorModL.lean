
/- Out of what a row lists of the table of modes' names: that the table's block holds the names. No condition but that the table is listed as the program lays it. -/

import Derived.Test.YtnmcmeifbnpdaaaDoorModB

import Derived.LaidLaws

import Derived.LaidHandle

import Derived.Lib.LaidTab

import Derived.Stop.LaidErr

import Derived.ChangeArms

namespace Go.Proofs.YtnmcmeifbnpdaaaDoor.Mod

open Go.RowKit

def mdBytes : List (List UInt8) := [[105, 100, 108, 101], [99, 111, 108, 100], [119, 97, 114, 109], [110, 111, 114, 109, 97, 108]]
theorem mdBytes_md : (mdBytes.map fun s => Value.string ⟨s.toArray⟩) = mdL.map Value.string := by rfl

/-- An array of texts that reads as the texts l holds them, cell for cell. -/
theorem cells_of_strs {H : Type} {enc : TypeId × Value → H} {P : Program} {w : World} {base : Nat} {sp : Nat → Bool} {held : Bool} {fuel : Nat} {t e : TypeId} {n : Nat} {cs : List Value} {l : List (List UInt8)} {p : List MemPlace}
    (ht : P.underlying t = some (.array n e)) (he : P.underlying e = some .string) (hce : P.cellsOf e = 1) (hct : P.cellsOf t = n)
    (h : DataW.trod enc P w base sp held fuel t cs = some (.agg (l.map fun s => .lit (.string s)), p)) : cs = l.map fun s => Value.string ⟨s.toArray⟩ := by
  cases fuel with
  | zero => simp [DataW.trod] at h
  | succ fuel =>
    simp only [DataW.trod, ht, hce, hct, Nat.mul_one] at h
    split at h
    · rename_i hl
      obtain ⟨xs, hm, hx⟩ := Option.map_eq_some_iff.1 h
      have hxs : xs.map (·.1) = l.map fun s => (DataW.lit (.string s) : DataW H) := by
        have := congrArg Prod.fst hx
        simpa using this
      have hxl : xs.length = n := by simpa using Lib.mapM_length hm
      have hzl : l.length = n := by
        have := congrArg List.length hxs
        simp at this
        omega
      apply List.ext_getElem?
      intro i
      by_cases hi : i < n
      · obtain ⟨b, hb, hf⟩ := Lib.mapM_at hm i i (by simp [hi])
        obtain ⟨s, hc, rfl, _⟩ := DataW.trod_string he hf
        have h1 : cs[i]? = some (.string s) := by
          have := congrArg (·[0]?) hc
          simpa [List.getElem?_take, List.getElem?_drop] using this
        have h2 : (xs.map (·.1))[i]? = some (DataW.lit (.string s.data.toList) : DataW H) := by simp [hb]
        rw [hxs] at h2
        simp only [List.getElem?_map, Option.map_eq_some_iff, DataW.lit.injEq, Lit.string.injEq] at h2
        obtain ⟨z', hz', e⟩ := h2
        simp [h1, hz', e]
      · rw [List.getElem?_eq_none (by omega), List.getElem?_eq_none (by simp; omega)]
    · cases h

theorem gNames : Tryd.prog.globalNamed "countwheel/mode.names" = some 0 := by kernel_rfl
theorem tNames : (Tryd.prog.globals[0]?).map (·.type) = some 41 := by kernel_rfl
/-- The table stands first on the list. -/
theorem tab_of_head {W : World} {n : String} {rest : List (String × DataW Unit)} (hn : n = "countwheel/mode.names") (h : laidMet Tryd.prog ((n, .agg (mdBytes.map fun s => .lit (.string s))) :: rest) W) : Tab W := by
  subst hn
  obtain ⟨ps, ⟨g, t, cs, fuel, p, q, hg, ht, hvar, hd, _, e⟩, _, hrows⟩ := h
  obtain rfl := Option.some.inj (gNames.symm.trans hg)
  obtain rfl := Option.some.inj (tNames.symm.trans ht)
  have hcs := cells_of_strs Tryd.underlying41 Tryd.underlying9 (by kernel_rfl) (by kernel_rfl) hd
  rw [mdBytes_md] at hcs
  have hcs' : cs = mdCells := by
    apply Array.toList_inj.1; rw [hcs]; rfl
  subst hcs'
  obtain ⟨⟨c, t, hc⟩, _⟩ := hrows 0 0 (by rw [e]; apply List.mem_append_left; apply List.mem_append_left; simp [MemPlace.row, mdCells_size])
  refine ⟨t, ?_⟩
  have hv : W.var? Tryd.prog "countwheel/mode.names" = some c := by
    unfold World.var?
    rw [gNames]
    simp [hc]
  rw [hvar] at hv
  rw [hc, Option.some.inj hv]
end Go.Proofs.YtnmcmeifbnpdaaaDoor.Mod
