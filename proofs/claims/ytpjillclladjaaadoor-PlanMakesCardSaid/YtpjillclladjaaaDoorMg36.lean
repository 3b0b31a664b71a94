/- Out of what a row lists of the table of names: that the table's block holds the names. No condition but that the table is listed as the program lays it. -/
import Derived.Test.YtpjillclladjaaaDoorMg03
import Derived.LaidLaws
import Derived.LaidHandle
import Derived.Lib.LaidTab
import Derived.Stop.LaidErr
import Derived.ChangeArms
namespace Go.Proofs.YtpjillclladjaaaDoor.Flt

open Go.RowKit

def nmBytes : List (List UInt8) := [[], [97, 114, 103, 117, 109, 101, 110, 116], [115, 104, 111, 114, 116], [109, 97, 103, 105, 99], [108, 101, 110, 103, 116, 104], [115, 117, 109], [102, 111, 114, 109], [110, 97, 109, 101], [109, 97, 110, 121], [111, 114, 100, 101, 114], [114, 101, 102, 101, 114, 101, 110, 99, 101], [119, 105, 110, 100, 111, 119], [111, 118, 101, 114, 108, 97, 112], [112, 101, 114, 105, 111, 100], [98, 117, 100, 103, 101, 116], [112, 97, 105, 114], [104, 97, 108, 116], [115, 116, 97, 116, 101], [114, 97, 110, 103, 101]]
theorem nmBytes_nm : (nmBytes.map fun s => Value.string ⟨s.toArray⟩) = nmL.map Value.string := by rfl

/-- An array of texts that reads as the texts l holds them, cell for cell. -/
theorem cells_of_strs {H : Type} {enc : TypeId × Value → H} {P : Program} {w : World} {base : Nat} {sp : Nat → Bool} {held : Bool} {fuel : Nat} {t e : TypeId} {n : Nat} {cs : List Value} {l : List (List UInt8)} {p : List MemPlace}
    (ht : P.underlying t = some (.array n e)) (he : P.underlying e = some .string) (hce : P.cellsOf e = 1) (hct : P.cellsOf t = n)
    (h : DataW.trod enc P w base sp held fuel t cs = some (.agg (l.map fun s => .lit (.string s)), p)) : cs = l.map fun s => Value.string ⟨s.toArray⟩ := by
  cases fuel with
  | zero => simp [DataW.trod] at h
  | succ fuel =>
    simp only [DataW.trod, ht, hce, hct, Nat.mul_one] at h
    split at h
    · rename_i hl
      obtain ⟨xs, hm, hx⟩ := Option.map_eq_some_iff.1 h
      have hxs : xs.map (·.1) = l.map fun s => (DataW.lit (.string s) : DataW H) := by
        have := congrArg Prod.fst hx
        simpa using this
      have hxl : xs.length = n := by simpa using Lib.mapM_length hm
      have hzl : l.length = n := by
        have := congrArg List.length hxs
        simp at this
        omega
      apply List.ext_getElem?
      intro i
      by_cases hi : i < n
      · obtain ⟨b, hb, hf⟩ := Lib.mapM_at hm i i (by simp [hi])
        obtain ⟨s, hc, rfl, _⟩ := DataW.trod_string he hf
        have h1 : cs[i]? = some (.string s) := by
          have := congrArg (·[0]?) hc
          simpa [List.getElem?_take, List.getElem?_drop] using this
        have h2 : (xs.map (·.1))[i]? = some (DataW.lit (.string s.data.toList) : DataW H) := by simp [hb]
        rw [hxs] at h2
        simp only [List.getElem?_map, Option.map_eq_some_iff, DataW.lit.injEq, Lit.string.injEq] at h2
        obtain ⟨z', hz', e⟩ := h2
        simp [h1, hz', e]
      · rw [List.getElem?_eq_none (by omega), List.getElem?_eq_none (by simp; omega)]
    · cases h

theorem gNames : Tryd.prog.globalNamed "countwheel/fault.names" = some 0 := by kernel_rfl
theorem tNames : (Tryd.prog.globals[0]?).map (·.type) = some 116 := by kernel_rfl
/-- The table stands first on the list. -/
theorem names_of_head {W : World} {n : String} {rest : List (String × DataW Unit)} (hn : n = "countwheel/fault.names") (h : laidMet Tryd.prog ((n, .agg (nmBytes.map fun s => .lit (.string s))) :: rest) W) : Names W := by
  subst hn
  obtain ⟨ps, ⟨g, t, cs, fuel, p, q, hg, ht, hvar, hd, _, e⟩, _, hrows⟩ := h
  obtain rfl := Option.some.inj (gNames.symm.trans hg)
  obtain rfl := Option.some.inj (tNames.symm.trans ht)
  have hcs := cells_of_strs Tryd.underlying116 Tryd.underlying9 (by kernel_rfl) (by kernel_rfl) hd
  rw [nmBytes_nm] at hcs
  have hcs' : cs = nmCells := by
    apply Array.toList_inj.1; rw [hcs]; rfl
  subst hcs'
  obtain ⟨⟨c, t, hc⟩, _⟩ := hrows 0 0 (by rw [e]; apply List.mem_append_left; apply List.mem_append_left; simp [MemPlace.row, nmCells_size])
  refine ⟨t, ?_⟩
  have hv : W.var? Tryd.prog "countwheel/fault.names" = some c := by
    unfold World.var?
    rw [gNames]
    simp [hc]
  rw [hvar] at hv
  rw [hc, Option.some.inj hv]
end Go.Proofs.YtpjillclladjaaaDoor.Flt
