
/- The function PartsFinds returns true for every slice of partitions, every number and every two partitions. Condition: the package-level variables hold what the program lays in them (the card ties that). This text: the walk through the Go text; the row is in the text without the W at its name's end. -/

import Derived.Test.YtpdoihndpnpifaaDoorArgs

import Derived.Test.YtpdoihndpnpifaaDoorPrtQ

import Derived.Test.YtpdoihndpnpifaaDoorPrtL

import Derived.Test.YtpdoihndpnpifaaDoorPrtD

import Derived.Test.YtpdoihndpnpifaaDoorCnv

import Derived.Test.YtpdoihndpnpifaaDoorArgsS

import Derived.Deep.RegionHeld3

import Derived.Deep.CutRange

namespace Go.Proofs.YtpdoihndpnpifaaDoor.partsFinds

open Go.RowKit Go.PlainAid Go.Proofs.YtpdoihndpnpifaaDoor.Args

set_option linter.unusedVariables false

open Go.Proofs.YtpdoihndpnpifaaDoor.Flt Go.Proofs.YtpdoihndpnpifaaDoor.Rdr Go.Proofs.YtpdoihndpnpifaaDoor.Oct Go.Proofs.YtpdoihndpnpifaaDoor.Byt Go.Proofs.YtpdoihndpnpifaaDoor.Prt

/-- A partition that came in by value. -/
theorem part_of {w : World} {a : Array Value} (h : IsAgg w [.one (.int .i64), .one .string, .one .bool, .recs [.int .u32, .bool]] a) :
    ∃ (x : PT) (B : Option Addr) (c : Nat), a = #[.int .i64 x.id, .string x.nm, .bool x.may, .slice B x.cs.length c] ∧ CellsAt w B x.cs ∧ (B = none → c = 0) ∧ x.cs.length ≤ c ∧ c ≤ maxLen ∧ WideP x ∧ WideC x := by
  obtain ⟨hs, hf⟩ := h
  obtain ⟨v0, e0, id, rfl, w0⟩ := hf 0 _ rfl
  obtain ⟨v1, e1, nm, rfl, w1⟩ := hf 1 _ rfl
  obtain ⟨v2, e2, may, rfl⟩ := hf 2 _ rfl
  obtain ⟨v3, e3, B, bl, bc, rfl, w3⟩ := hf 3 _ rfl
  obtain ⟨cs, hcl, hca, hcw, hcn, hc1, hc2⟩ := cells_of w3
  refine ⟨⟨id, nm, may, cs⟩, B, bc, ?_, hca, hcn, by show cs.length ≤ bc; omega, hc2, ⟨bounds_i64 w0, w1⟩, hcw⟩
  have hs4 : a.size = 4 := hs
  apply Array.ext_getElem?
  intro i
  rcases (show i = 0 ∨ i = 1 ∨ i = 2 ∨ i = 3 ∨ 4 ≤ i by omega) with rfl | rfl | rfl | rfl | h
  · exact e0
  · exact e1
  · exact e2
  · rw [e3, ← hcl]; rfl
  · rw [Array.getElem?_eq_none (by omega), Array.getElem?_eq_none (by simp; omega)]
/-- Partitions laid by a call of its own, one behind the other. -/
theorem laid_two {W : World} {b : Nat} {x y : PT} {A B : Option Addr} {ca cb : Nat} (hr : W.heap[b]? = some (.cells #[.int .i64 x.id, .string x.nm, .bool x.may, .slice A x.cs.length ca, .int .i64 y.id, .string y.nm, .bool y.may, .slice B y.cs.length cb] 25 (0, 0)))
    (h1 : CellsAt W A x.cs ∧ (A = none → ca = 0) ∧ x.cs.length ≤ ca ∧ ca ≤ maxLen) (h2 : CellsAt W B y.cs ∧ (B = none → cb = 0) ∧ y.cs.length ≤ cb ∧ cb ≤ maxLen) : PartsAt W (some ⟨b, 0, none⟩) [x, y] := by
  intro i z hz
  rcases (show i = 0 ∨ i = 1 ∨ 2 ≤ i by omega) with rfl | rfl | h
  · obtain rfl : x = z := by simpa using hz
    refine ⟨_, A, ca, rfl, ?_, ?_, ?_, ?_, h1⟩
    all_goals (rw [add_at]; (try dsimp only); rw [cell_of_row _ _ _ _ _ _ hr]; rfl)
  · obtain rfl : y = z := by simpa using hz
    refine ⟨_, B, cb, rfl, ?_, ?_, ?_, ?_, h2⟩
    all_goals (rw [add_at]; (try dsimp only); rw [cell_of_row _ _ _ _ _ _ hr]; rfl)
  · rw [List.getElem?_eq_none (by simpa using h)] at hz; cases hz
theorem laid_one {W : World} {b : Nat} {x : PT} {A : Option Addr} {ca : Nat} (hr : W.heap[b]? = some (.cells #[.int .i64 x.id, .string x.nm, .bool x.may, .slice A x.cs.length ca] 25 (0, 0)))
    (h1 : CellsAt W A x.cs ∧ (A = none → ca = 0) ∧ x.cs.length ≤ ca ∧ ca ≤ maxLen) : PartsAt W (some ⟨b, 0, none⟩) [x] := by
  intro i z hz
  rcases (show i = 0 ∨ 1 ≤ i by omega) with rfl | h
  · obtain rfl : x = z := by simpa using hz
    refine ⟨_, A, ca, rfl, ?_, ?_, ?_, ?_, h1⟩
    all_goals (rw [add_at]; (try dsimp only); rw [cell_of_row _ _ _ _ _ _ hr]; rfl)
  · rw [List.getElem?_eq_none (by simpa using h)] at hz; cases hz
/-- The two partitions' own blocks, and what was there. -/
structure FH (w : World) (ca cb : Array Value) (W : World) : Prop where
  a : W.heap[w.heap.size]? = some (.cells ca 25 (0, 0))
  b : W.heap[w.heap.size + 1]? = some (.cells cb 25 (0, 0))
  below : Below w.heap.size w W
theorem FH.keep {w W W' : World} {ca cb : Array Value} (f : FH w ca cb W) (b : Below W.heap.size W W') : FH w ca cb W' :=
  ⟨(b.block _ (lt_of_block f.a)).trans f.a, (b.block _ (lt_of_block f.b)).trans f.b, f.below.trans (b.mono f.below.size)⟩
theorem FH.al {w W : World} {ca cb : Array Value} (f : FH w ca cb W) (o : Obj) : FH w ca cb (W.alloc o) := f.keep ((Below.refl _ _).alloc (Nat.le_refl _) o)
theorem FH.dr {w W : World} {ca cb : Array Value} (f : FH w ca cb W) : FH w ca cb W.drew := f.keep ⟨rfl, rfl, rfl, Nat.le_refl _, fun _ _ => rfl⟩
theorem FH.drN {w W : World} {ca cb : Array Value} (f : FH w ca cb W) (n : Nat) : FH w ca cb (W.drewN n) := f.keep ⟨rfl, rfl, rfl, Nat.le_refl _, fun _ _ => rfl⟩
theorem FH.cells {w W : World} {x0 x1 x2 x3 y0 y1 y2 y3 : Value} (f : FH w #[x0, x1, x2, x3] #[y0, y1, y2, y3] W) : (W.cell? ⟨w.heap.size, 0, none⟩ = some x0 ∧ W.cell? ⟨w.heap.size, 1, none⟩ = some x1 ∧ W.cell? ⟨w.heap.size, 2, none⟩ = some x2 ∧ W.cell? ⟨w.heap.size, 3, none⟩ = some x3) ∧ W.cell? ⟨w.heap.size + 1, 0, none⟩ = some y0 ∧ W.cell? ⟨w.heap.size + 1, 1, none⟩ = some y1 ∧ W.cell? ⟨w.heap.size + 1, 2, none⟩ = some y2 ∧ W.cell? ⟨w.heap.size + 1, 3, none⟩ = some y3 := by
  refine ⟨⟨?_, ?_, ?_, ?_⟩, ?_, ?_, ?_, ?_⟩
  all_goals first
    | (rw [cell_of_row W _ _ _ _ _ f.a]; rfl)
    | (rw [cell_of_row W _ _ _ _ _ f.b]; rfl)
theorem k8 {a b c d e f g h : Prop} (k : (a ∧ b ∧ c ∧ d) ∧ e ∧ f ∧ g ∧ h) : a ∧ b ∧ c ∧ d ∧ e ∧ f ∧ g ∧ h := ⟨k.1.1, k.1.2.1, k.1.2.2.1, k.1.2.2.2, k.2⟩
def SRel (l : List PT) (id : Int) (w : World) (ca cb : Array Value) (v sm i : Value) (wr : World) : Prop := ∃ k : Nat, k ≤ l.length ∧ i = .int .i64 k ∧ FH w ca cb wr ∧
  ((v = .int .i64 0 ∧ sm = .bool false ∧ ∀ (j : Nat) (y : PT), j < k → l[j]? = some y → (y.id == id) = false) ∨ ∃ o : Nat, v = .int .i64 o ∧ sm = .bool true ∧ fiN id l = some o)
set_option maxRecDepth 8000 in
set_option maxHeartbeats 6000000 in
theorem walk (a0 : Option Addr) (len0 cap0 : Nat) (a1 : Int) (a2 : Array Value) (a3 : Array Value) (w : World) (w0 : IsRows w a0 len0 cap0 [.one (.int .i64), .one (.string), .one (.bool), .recs [.int .u32, .bool]]) (w1 : (Lit.int .i64 a1).wf = true) (w2 : IsAgg w [.one (.int .i64), .one (.string), .one (.bool), .recs [.int .u32, .bool]] a2) (w3 : IsAgg w [.one (.int .i64), .one (.string), .one (.bool), .recs [.int .u32, .bool]] a3) (hn : Go.Proofs.YtpdoihndpnpifaaDoor.Flt.Names w) :
    Calls Tryd.prog 3 #[.slice a0 len0 cap0, .int .i64 a1, .agg a2, .agg a3] w fun e w' => e = .returned (.bool true) ∧ Below w.heap.size w w' := by
  have HN := Lib.hid hn
  clear hn w1
  obtain ⟨l, hll, hpa, hwd, hlc0, hcm0⟩ := parts_of w0
  obtain ⟨x, XA, xc, rfl, hx1, hx2, hx3, hx4, hx5, hx6⟩ := part_of w2
  obtain ⟨y, YA, yc, rfl, hy1, hy2, hy3, hy4, hy5, hy6⟩ := part_of w3
  have hl0 : len0 ≤ maxLen := Nat.le_trans hlc0 hcm0
  have hnil0 : a0 = none → cap0 = 0 := by
    rcases w0 with ⟨_, _, h⟩ | ⟨y, h, _⟩
    · exact fun _ => h
    · exact fun e => by rw [h] at e; cases e
  have HNC := Lib.hid (And.intro hnil0 hlc0)
  have hba : Below w.heap.size w ((w.alloc (.cells #[.int .i64 x.id, .string x.nm, .bool x.may, .slice XA x.cs.length xc] 25)).alloc (.cells #[.int .i64 y.id, .string y.nm, .bool y.may, .slice YA y.cs.length yc] 25)) := two_below w _ _
  have hra : ((w.alloc (.cells #[.int .i64 x.id, .string x.nm, .bool x.may, .slice XA x.cs.length xc] 25)).alloc (.cells #[.int .i64 y.id, .string y.nm, .bool y.may, .slice YA y.cs.length yc] 25)).heap[w.heap.size]? = some (.cells #[.int .i64 x.id, .string x.nm, .bool x.may, .slice XA x.cs.length xc] 25 (0, 0)) := (heap_alloc_old _ _ (by simp)).trans (heap_alloc_new _ _)
  have hrb := Hdr.second_new w (.cells #[.int .i64 x.id, .string x.nm, .bool x.may, .slice XA x.cs.length xc] 25) (.cells #[.int .i64 y.id, .string y.nm, .bool y.may, .slice YA y.cs.length yc] 25)
  have HLG := Lib.hid (long_any a0 cap0 l _ (hpa.kept hba) (fun x h => (hwd x h).1.2) (by rw [hll]; exact hl0))
  rw [hll] at HLG
  have HBA := Lib.hid hba
  have HRA := Lib.hid hra
  have HRB := Lib.hid hrb
  have HPA := Lib.hid hpa
  have HWD := Lib.hid hwd
  have HLL := Lib.hid hll
  have HX := Lib.hid (And.intro hx1 (And.intro hx2 (And.intro hx3 hx4)))
  have HY := Lib.hid (And.intro hy1 (And.intro hy2 (And.intro hy3 hy4)))
  have HXW := Lib.hid (And.intro hx5 hx6)
  have HYW := Lib.hid (And.intro hy5 hy6)
  have HSIZ := Lib.hid size_pt
  clear w0 w2 w3 hll hpa hwd hlc0 hcm0 hnil0 hx1 hx2 hx3 hx4 hx5 hx6 hy1 hy2 hy3 hy4 hy5 hy6 hba hra hrb hl0
  go_enter Tryd.func3, Tryd.ntmps3
  go_wp2_with fail
  refine HLG.out.mono ?_
  rintro e w1 ⟨b, rfl, hsh, hb1⟩
  have HB1 := Lib.hid hb1
  have HSH := Lib.hid hsh
  clear hb1 hsh HLG
  cases b
  · have HS0 := Lib.hid (HSH.out rfl)
    have hf1 : FH w #[.int .i64 x.id, .string x.nm, .bool x.may, .slice XA x.cs.length xc] #[.int .i64 y.id, .string y.nm, .bool y.may, .slice YA y.cs.length yc] w1 := (FH.mk HRA.out HRB.out HBA.out).keep HB1.out
    have HF1 := Lib.hid hf1
    have hb2 : Below w1.heap.size w1 (w1.alloc (.cells #[.int .i64 x.id, .string x.nm, .bool x.may, .slice XA x.cs.length xc, .int .i64 y.id, .string y.nm, .bool y.may, .slice YA y.cs.length yc] 25)) := (Below.refl _ _).alloc (Nat.le_refl _) _
    have HF2 := Lib.hid (hf1.keep hb2)
    have HXK : Hid (∀ W, Below w.heap.size w W → CellsAt W XA x.cs ∧ (XA = none → xc = 0) ∧ x.cs.length ≤ xc ∧ xc ≤ maxLen) := fun W b => ⟨HX.out.1.kept b, HX.out.2⟩
    have HYK : Hid (∀ W, Below w.heap.size w W → CellsAt W YA y.cs ∧ (YA = none → yc = 0) ∧ y.cs.length ≤ yc ∧ yc ≤ maxLen) := fun W b => ⟨HY.out.1.kept b, HY.out.2⟩
    have HLG := Lib.hid (long_any (some ⟨w1.heap.size, 0, none⟩) 2 [x, y] _ (laid_two (heap_alloc_new w1 _) (HXK.out _ HF2.out.below) (HYK.out _ HF2.out.below)) (fun z hz => by
      rcases List.mem_cons.1 hz with rfl | hz
      · exact HXW.out.1.2
      · obtain rfl : z = y := by simpa using hz
        exact HYW.out.1.2) (by show 2 ≤ maxLen; unfold maxLen; omega))
    obtain ⟨LX, hLX⟩ : ∃ n, x.cs.length = n := ⟨_, rfl⟩
    obtain ⟨LY, hLY⟩ : ∃ n, y.cs.length = n := ⟨_, rfl⟩
    have HLX := Lib.hid hLX
    have HLY := Lib.hid hLY
    rw [hLX, hLY] at HF1 HF2 HLG
    rw [hLX, hLY]
    clear hf1 hb2 HSH HBA HRA HRB HB1 hLX hLY
    obtain ⟨⟨q0, q1, q2, q3⟩, p0, p1, p2, p3⟩ := HF1.out.cells
    go_wp2_with fail
    refine HLG.out.mono ?_
    rintro e w2 ⟨b, rfl, hsh, hb2⟩
    have HF3 := Lib.hid (HF2.out.keep hb2)
    have HSH := Lib.hid hsh
    clear hb2 hsh HLG
    cases b
    · have HS1 := Lib.hid (HSH.out rfl)
      clear HSH q0 q1 q2 q3 p0 p1 p2 p3 HF1 HF2
      go_wp2
      go_loopw [9, 10, 28] (fun v sm i wr => SRel l a1 w #[.int .i64 x.id, .string x.nm, .bool x.may, .slice XA LX xc] #[.int .i64 y.id, .string y.nm, .bool y.may, .slice YA LY yc] v sm i wr) (fun _ _ i _ => len0 - (intOf i).toNat)
      case atStart => exact ⟨0, Nat.zero_le _, rfl, HF3.out, .inl ⟨rfl, rfl, fun j y hj => by omega⟩⟩
      case round =>
        obtain ⟨k, hk, rfl, hf, hor⟩ := hrel
        have HF := Lib.hid hf
        have hka : k ≤ len0 := by rw [← HLL.out]; exact hk
        have hlm : len0 ≤ 40 := by rw [← HLL.out]; exact HS0.out.1
        clear hf hk HF3
        by_cases hlt : k < len0
        · obtain ⟨z, hz⟩ : ∃ z, l[k]? = some z := ⟨_, List.getElem?_eq_getElem (by rw [HLL.out]; exact hlt)⟩
          obtain ⟨ax, B, c, rfl, c1, c2, c3, c4, _⟩ := (HPA.out.kept HF.out.below) k z hz
          have HZ := Lib.hid hz
          have hki : (0 : Int) ≤ k := by omega
          have hkb : (k : Int) < len0 := by omega
          have HFA : Hid (∀ o, FH w #[.int .i64 x.id, .string x.nm, .bool x.may, .slice XA LX xc] #[.int .i64 y.id, .string y.nm, .bool y.may, .slice YA LY yc] (wr.alloc o)) := fun o => HF.out.keep ((Below.refl _ _).alloc (Nat.le_refl _) o)
          cases t : (z.id == a1) with
          | true =>
            have HT := Lib.hid t
            rcases hor with ⟨rfl, rfl, hall⟩ | ⟨o, rfl, rfl, ho⟩
            · have HO := Lib.hid (fi_hit a1 l k z hz t hall)
              clear hall hz
              go_wp2
              go_roundw
              case rel => exact ⟨k + 1, by rw [HLL.out]; omega, by go_num, HFA.out _, .inr ⟨k, rfl, rfl, HO.out⟩⟩
              case measure => simp [intOf]; omega
            · have HO := Lib.hid ho
              clear ho hz
              go_wp2
              go_roundw
              case rel => exact ⟨k + 1, by rw [HLL.out]; omega, by go_num, HFA.out _, .inr ⟨o, rfl, rfl, HO.out⟩⟩
              case measure => simp [intOf]; omega
          | false =>
            have HT := Lib.hid t
            have HOR : Hid ((_ ∧ _ ∧ ∀ (j : Nat) (y : PT), j < k + 1 → l[j]? = some y → (y.id == a1) = false) ∨ _) := hor.imp (fun h => ⟨h.1, h.2.1, fun j y hj hy => by
              by_cases hjk : j = k
              · subst hjk
                rw [hz] at hy
                obtain rfl := Option.some.inj hy
                exact t
              · exact h.2.2 j y (by omega) hy⟩) id
            clear hor hz
            go_wp2
            go_roundw
            case rel => exact ⟨k + 1, by rw [HLL.out]; omega, by go_num, HFA.out _, HOR.out⟩
            case measure => simp [intOf]; omega
        · obtain rfl : k = len0 := by omega
          have hvs := hor.elim (fun h => (⟨h.1.trans (by rw [fi_none a1 l (fun j y hy => h.2.2 j y (by rw [← HLL.out]; exact (List.getElem?_eq_some_iff.1 hy).1) hy)]; rfl), h.2.1.trans (by rw [fi_none a1 l (fun j y hy => h.2.2 j y (by rw [← HLL.out]; exact (List.getElem?_eq_some_iff.1 hy).1) hy)]; rfl)⟩ : _ = Value.int .i64 (fiV (fiN a1 l)) ∧ _ = Value.bool (fiN a1 l).isSome))
            (fun ⟨o, h1, h2, h3⟩ => ⟨h1.trans (by rw [h3]; rfl), h2.trans (by rw [h3]; rfl)⟩)
          obtain ⟨rfl, rfl⟩ := hvs
          have HFI := Lib.hid (find_any a0 cap0 l a1 wr (HPA.out.kept HF.out.below) (by have := HS0.out.1; omega))
          rw [HLL.out] at HFI
          obtain ⟨fv, hfv⟩ : ∃ fv, fiV (fiN a1 l) = fv := ⟨_, rfl⟩
          obtain ⟨fs, hfs⟩ : ∃ fs, (fiN a1 l).isSome = fs := ⟨_, rfl⟩
          rw [hfv, hfs] at HFI
          rw [hfv, hfs]
          have tfs : (fs != fs) = false := by cases fs <;> rfl
          have tfv : (fv != fv) = false := by simp
          have tRR : ∀ z : Int, (z != z) = false := fun z => by simp
          clear hor hfv hfs
          go_wp2_with fail
          refine HFI.out.mono ?_
          rintro e w3 ⟨rfl, hb3⟩
          have HF4 := Lib.hid (HF.out.keep hb3)
          clear hb3 HFI
          go_wp2
          obtain ⟨⟨q0, q1, q2, q3⟩, p0, p1, p2, p3⟩ := HF4.out.cells
          have HSM : Hid (∀ W, Below w.heap.size w W → Calls Tryd.prog 12 #[.agg #[.int .i64 x.id, .string x.nm, .bool x.may, .slice XA LX xc], .agg #[.int .i64 y.id, .string y.nm, .bool y.may, .slice YA LY yc]] W fun e w' => e = .returned (.bool (eqP x y)) ∧ Below W.heap.size W w') := fun W b => by
            have h := psame_any x y XA YA xc yc W (HXK.out W b).1 (HYK.out W b).1 (by have := (HS1.out.2 x (by simp)).2; omega) (by have := (HS1.out.2 y (by simp)).2; unfold maxLen; omega)
            rw [HLX.out, HLY.out] at h
            exact h
          have HSS : Hid (∀ W, Below w.heap.size w W → Calls Tryd.prog 12 #[.agg #[.int .i64 x.id, .string x.nm, .bool x.may, .slice XA LX xc], .agg #[.int .i64 x.id, .string x.nm, .bool x.may, .slice XA LX xc]] W fun e w' => e = .returned (.bool true) ∧ Below W.heap.size W w') := fun W b => by
            have h := psame_any x x XA XA xc xc W (HXK.out W b).1 (HXK.out W b).1 (by have := (HS1.out.2 x (by simp)).2; omega) (by have := (HS1.out.2 x (by simp)).2; unfold maxLen; omega)
            rw [HLX.out, eqP_refl] at h
            exact h
          have HRG : Hid (∀ W, Calls Tryd.prog 14 #[.agg #[.int .i64 x.id, .string x.nm, .bool x.may, .slice XA LX xc]] W fun e w' => e = .returned (.int .i64 (rg x)) ∧ Below W.heap.size W w') := fun W => by
            have h := pright_any ⟨x.id, x.nm, x.may, XA, x.cs.length, xc⟩ HXW.out.1.1 HXW.out.1.2 W
            have e : rgtP ⟨x.id, x.nm, x.may, XA, x.cs.length, xc⟩ = rg x := rfl
            rw [e] at h
            unfold ptC at h
            dsimp only at h
            rw [HLX.out] at h
            exact h
          have HR8 : Hid (∀ W, Calls Tryd.prog 15 #[.agg #[.int .i64 x.id, .string x.nm, .bool x.may, .slice XA LX xc]] W fun e w' => e = .returned (.int .i64 (rg x)) ∧ Below W.heap.size W w') := fun W => by
            have h := pright08_any ⟨x.id, x.nm, x.may, XA, x.cs.length, xc⟩ HXW.out.1.2 W
            have e : rgtP ⟨x.id, x.nm, x.may, XA, x.cs.length, xc⟩ = rg x := rfl
            rw [e] at h
            unfold ptC at h
            dsimp only at h
            rw [HLX.out] at h
            exact h
          obtain ⟨E, hE⟩ : ∃ E, eqP x y = E := ⟨_, rfl⟩
          have HRS : Hid (∀ W G1 G2, W.heap[G1]? = some (.cells #[.int .i64 x.id, .string x.nm, .bool x.may, .slice XA LX xc] 25 (0, 0)) → W.heap[G2]? = some (.cells #[.int .i64 y.id, .string y.nm, .bool y.may, .slice YA LY yc] 25 (0, 0)) → Below w.heap.size w W →
              Calls Tryd.prog 13 #[.slice (some ⟨G1, 0, none⟩) 1 1, .slice (some ⟨G2, 0, none⟩) 1 1] W fun e w' => e = .returned (.bool E) ∧ ∃ n, w' = W.drewN n) := fun W G1 G2 h1 h2 b => by
            rw [← HLX.out] at h1
            rw [← HLY.out] at h2
            have h := sameParts_any (some ⟨G1, 0, none⟩) (some ⟨G2, 0, none⟩) 1 1 [x] [y] W (laid_one h1 (HXK.out W b)) (laid_one h2 (HYK.out W b)) (by show 1 ≤ 1000; omega) (by show 1 ≤ maxLen; unfold maxLen; omega) (fun z hz => by
              obtain rfl : z = x := by simpa using hz
              have := (HS1.out.2 z (by simp)).2
              omega)
            have e : allEq eqP [x] [y] = E := by rw [← hE]; simp [allEq]
            rw [e] at h
            exact h
          rw [hE] at HSM
          have tEE : (E != E) = false := by cases E <;> rfl
          obtain ⟨R, hR⟩ : ∃ R, rg x = R := ⟨_, rfl⟩
          rw [hR] at HRG HR8
          clear hE hR
          have HSMF : Hid (∀ W, FH w #[.int .i64 x.id, .string x.nm, .bool x.may, .slice XA LX xc] #[.int .i64 y.id, .string y.nm, .bool y.may, .slice YA LY yc] W → Calls Tryd.prog 12 #[.agg #[.int .i64 x.id, .string x.nm, .bool x.may, .slice XA LX xc], .agg #[.int .i64 y.id, .string y.nm, .bool y.may, .slice YA LY yc]] W fun e w' => e = .returned (.bool E) ∧ FH w #[.int .i64 x.id, .string x.nm, .bool x.may, .slice XA LX xc] #[.int .i64 y.id, .string y.nm, .bool y.may, .slice YA LY yc] w' ∧ Below W.heap.size W w') := fun W f => (HSM.out W f.below).mono fun e w' h => ⟨h.1, f.keep h.2, h.2⟩
          have HSSF : Hid (∀ W, FH w #[.int .i64 x.id, .string x.nm, .bool x.may, .slice XA LX xc] #[.int .i64 y.id, .string y.nm, .bool y.may, .slice YA LY yc] W → Calls Tryd.prog 12 #[.agg #[.int .i64 x.id, .string x.nm, .bool x.may, .slice XA LX xc], .agg #[.int .i64 x.id, .string x.nm, .bool x.may, .slice XA LX xc]] W fun e w' => e = .returned (.bool true) ∧ FH w #[.int .i64 x.id, .string x.nm, .bool x.may, .slice XA LX xc] #[.int .i64 y.id, .string y.nm, .bool y.may, .slice YA LY yc] w') := fun W f => (HSS.out W f.below).mono fun e w' h => ⟨h.1, f.keep h.2⟩
          have HRGF : Hid (∀ W, FH w #[.int .i64 x.id, .string x.nm, .bool x.may, .slice XA LX xc] #[.int .i64 y.id, .string y.nm, .bool y.may, .slice YA LY yc] W → Calls Tryd.prog 14 #[.agg #[.int .i64 x.id, .string x.nm, .bool x.may, .slice XA LX xc]] W fun e w' => e = .returned (.int .i64 R) ∧ FH w #[.int .i64 x.id, .string x.nm, .bool x.may, .slice XA LX xc] #[.int .i64 y.id, .string y.nm, .bool y.may, .slice YA LY yc] w') := fun W f => (HRG.out W).mono fun e w' h => ⟨h.1, f.keep h.2⟩
          have HR8F : Hid (∀ W, FH w #[.int .i64 x.id, .string x.nm, .bool x.may, .slice XA LX xc] #[.int .i64 y.id, .string y.nm, .bool y.may, .slice YA LY yc] W → Calls Tryd.prog 15 #[.agg #[.int .i64 x.id, .string x.nm, .bool x.may, .slice XA LX xc]] W fun e w' => e = .returned (.int .i64 R) ∧ FH w #[.int .i64 x.id, .string x.nm, .bool x.may, .slice XA LX xc] #[.int .i64 y.id, .string y.nm, .bool y.may, .slice YA LY yc] w') := fun W f => (HR8.out W).mono fun e w' h => ⟨h.1, f.keep h.2⟩
          have HRSF : Hid (∀ W G1 G2, W.heap[G1]? = some (.cells #[.int .i64 x.id, .string x.nm, .bool x.may, .slice XA LX xc] 25 (0, 0)) → W.heap[G2]? = some (.cells #[.int .i64 y.id, .string y.nm, .bool y.may, .slice YA LY yc] 25 (0, 0)) → FH w #[.int .i64 x.id, .string x.nm, .bool x.may, .slice XA LX xc] #[.int .i64 y.id, .string y.nm, .bool y.may, .slice YA LY yc] W → Calls Tryd.prog 13 #[.slice (some ⟨G1, 0, none⟩) 1 1, .slice (some ⟨G2, 0, none⟩) 1 1] W fun e w' => e = .returned (.bool E) ∧ FH w #[.int .i64 x.id, .string x.nm, .bool x.may, .slice XA LX xc] #[.int .i64 y.id, .string y.nm, .bool y.may, .slice YA LY yc] w') := fun W G1 G2 h1 h2 f => (HRS.out W G1 G2 h1 h2 f.below).mono fun e w' h => ⟨h.1, by obtain ⟨_, n, rfl⟩ := h; exact f.drN n⟩
          clear HSM HSS HRG HR8 HRS
          go_cut [80] from 49 to 80 (fun b wx => b = .bool false ∧ FH w #[.int .i64 x.id, .string x.nm, .bool x.may, .slice XA LX xc] #[.int .i64 y.id, .string y.nm, .bool y.may, .slice YA LY yc] wx)
          case first =>
            go_region_held3 (fun wx => wx.cell? ⟨w.heap.size, 0, none⟩ = some (.int .i64 x.id) ∧ wx.cell? ⟨w.heap.size, 1, none⟩ = some (.string x.nm) ∧ wx.cell? ⟨w.heap.size, 2, none⟩ = some (.bool x.may) ∧ wx.cell? ⟨w.heap.size, 3, none⟩ = some (.slice XA LX xc) ∧ wx.cell? ⟨w.heap.size + 1, 0, none⟩ = some (.int .i64 y.id) ∧ wx.cell? ⟨w.heap.size + 1, 1, none⟩ = some (.string y.nm) ∧ wx.cell? ⟨w.heap.size + 1, 2, none⟩ = some (.bool y.may) ∧ wx.cell? ⟨w.heap.size + 1, 3, none⟩ = some (.slice YA LY yc)) (first | (go_keep; done) | exact HKP.out | (refine ⟨?_, ?_, ?_, ?_, ?_, ?_, ?_, ?_⟩ <;> assumption))
              (first
                | (go_at_call 12; (with_reducible refine (HSMF.out _ ?hf).mono ?_); (case hf => first | exact HF4.out.dr | exact (HF4.out.al _).dr | exact HF4.out.dr.al _ | exact ((HF4.out.al _).al _).dr | exact (HF4.out.dr.al _).al _); rintro e w5 ⟨rfl, hf5, hb5⟩; have HP5 := Lib.hid hf5; have HB5 := Lib.hid hb5; have HKP := Lib.hid (k8 hf5.cells); clear hf5 hb5)
                | (go_at_call 13; (with_reducible refine (HRSF.out _ _ _ ?h1 ?h2 ?h3).mono ?_); (case h1 => first | exact (heap_alloc_old _ _ (by simp)).trans (heap_alloc_new _ _) | exact Hdr.second_new _ _ _ | exact heap_alloc_new _ _ | exact (heap_alloc_old _ _ (by have := HB5.out.size; simp at this; omega)).trans ((HB5.out.block _ (by simp)).trans (heap_alloc_new _ _)) | exact (HB5.out.block _ (by simp)).trans (heap_alloc_new _ _) | exact (HB5.out.block _ (by simp; omega)).trans ((heap_alloc_old _ _ (by simp)).trans (heap_alloc_new _ _)) | exact (HB5.out.block _ (by simp)).trans (Hdr.second_new _ _ _)); (case h2 => first | exact (heap_alloc_old _ _ (by simp)).trans (heap_alloc_new _ _) | exact Hdr.second_new _ _ _ | exact heap_alloc_new _ _ | exact (heap_alloc_old _ _ (by have := HB5.out.size; simp at this; omega)).trans ((HB5.out.block _ (by simp)).trans (heap_alloc_new _ _)) | exact (HB5.out.block _ (by simp)).trans (heap_alloc_new _ _) | exact (HB5.out.block _ (by simp; omega)).trans ((heap_alloc_old _ _ (by simp)).trans (heap_alloc_new _ _)) | exact (HB5.out.block _ (by simp)).trans (Hdr.second_new _ _ _)); (case h3 => first | exact (HP5.out.al _).al _ | exact HP5.out.al _ | exact HP5.out); rintro e w6 ⟨rfl, hf6⟩; have HP6 := Lib.hid hf6; have HKP := Lib.hid (k8 hf6.cells); clear hf6)
                | (go_at_call 12; (with_reducible refine (HSSF.out _ HP6.out).mono ?_); rintro e w7 ⟨rfl, hf7⟩; have HP7 := Lib.hid hf7; have HKP := Lib.hid (k8 hf7.cells); clear hf7)
                | (go_at_call 14; (with_reducible refine (HRGF.out _ HP7.out).mono ?_); rintro e w8 ⟨rfl, hf8⟩; have HP8 := Lib.hid hf8; have HKP := Lib.hid (k8 hf8.cells); clear hf8)
                | (go_at_call 15; (with_reducible refine (HR8F.out _ HP8.out).mono ?_); rintro e w9 ⟨rfl, hf9⟩; have HP9 := Lib.hid hf9; have HKP := Lib.hid (k8 hf9.cells); clear hf9)
                | fail)
            all_goals
              go_wp2
              go_meet
              case rel => exact ⟨rfl, HP9.out⟩
          case rest =>
          obtain ⟨rfl, hf⟩ := hcut
          have HF9 := Lib.hid hf
          have hcl := pclone_any a0 cap0 l _ (HPA.out.kept hf.below) HNC.out.1 (by rw [HLL.out]; exact HNC.out.2) (by have := HS0.out.1; omega) (fun z hz => by have := (HS0.out.2 z hz).2; omega)
          rw [HLL.out] at hcl
          have HCL := Lib.hid hcl
          clear hf hcl HSMF HSSF HRGF HR8F HRSF HF4
          go_wp2_with fail
          refine HCL.out.mono ?_
          rintro e w13 ⟨V, L, rfl, hd⟩
          have hsp := sp_of hd
          have hb13 : Below w.heap.size w w13 := HF9.out.below.trans (hd.below.mono HF9.out.below.size)
          obtain ⟨A, c, rfl, hpt⟩ := rows_at hd.own (fun q hq => by
            obtain ⟨i, hi, rfl⟩ := List.mem_iff_getElem.1 hq
            exact hd.sub i _ hi (List.getElem?_eq_getElem hi))
          have hfst := hd.fst
          rw [hfst] at hpt
          have hLn : L.length = k := by have h := congrArg List.length hfst; rw [List.length_map, HLL.out] at h; exact h
          have hsm := sameParts_any A a0 c cap0 l l w13 hpt (HPA.out.kept hb13) (by have := HS0.out.1; omega) (by have := HS0.out.1; unfold maxLen; omega) (fun z hz => by have := (HS0.out.2 z hz).2; omega)
          rw [allP_refl, HLL.out] at hsm
          rw [hfst, HLL.out] at hsp
          have HFST := Lib.hid hfst
          have HSP := Lib.hid hsp
          have HLN := Lib.hid hLn
          have HB13 := Lib.hid hb13
          have HSM2 := Lib.hid hsm
          rw [hfst, HLL.out]
          clear hd hsp hb13 hpt hfst hLn hsm HCL
          go_wp2_with (go_at_call 13; refine HSM2.out.mono ?_; rintro e w14 ⟨rfl, n14, rfl⟩)
          have HSD := Lib.hid (HSP.out.drewN n14)
          have HBD := Lib.hid (below_drewN HB13.out n14)
          clear HSP HSM2
          obtain ⟨wb, hwb⟩ : ∃ x, wc = x := ⟨_, rfl⟩
          have HBB : Hid (Below w.heap.size w wb) := by show Below _ _ _; rw [← hwb]; exact HF9.out.below
          rw [hwb] at HSD
          clear hwb HF9
          go_loopw [89] (fun i wr => ∃ m : Nat, m ≤ k ∧ i = .int .i64 m ∧ SP m L (.slice A k c) wb wr) (fun i _ => k - (intOf i).toNat)
          case atStart => exact ⟨0, Nat.zero_le _, rfl, HSD.out⟩
          case round =>
            obtain ⟨m, hm, rfl, hf⟩ := hrel
            have HF := Lib.hid hf
            clear hf HSD HBD
            have hbw : Below w.heap.size w wr := HBB.out.trans (HF.out.below.mono HBB.out.size)
            have HBW := Lib.hid hbw
            clear hbw
            by_cases hlt : m < k
            · obtain ⟨q, hq⟩ : ∃ q, L[m]? = some q := ⟨_, List.getElem?_eq_getElem (by rw [HLN.out]; exact hlt)⟩
              have hql : l[m]? = some q.1 := by rw [← HFST.out, List.getElem?_map, hq]; rfl
              obtain ⟨ay, B0, c0, rfl, _, _, _, d4, hcl, _⟩ := (HPA.out.kept HBW.out) m q.1 hql
              obtain ⟨G, rfl⟩ : ∃ G, A = some ⟨G, 0, none⟩ := by
                rcases HF.out.own.2 with ⟨h, h0⟩ | ⟨g', c', cur, h, _⟩
                · rw [HLN.out] at h0; omega
                · cases h; exact ⟨_, rfl⟩
              have ho := HF.out.own
              rw [HLN.out] at ho
              have g3 := flatQ_get L m q 3 hq (by omega)
              have e3 := (ho.cellAt (m * 4 + 3) (by omega)).trans g3
              simp only [List.getElem?_cons_zero, List.getElem?_cons_succ] at e3
              have hsub := HF.out.sub m q (Nat.le_refl _) hq
              obtain ⟨Bq, cq, hqv, hca, _⟩ := own_cells hsub
              rw [hqv] at e3
              obtain ⟨ax, hax⟩ : ∃ ax : Addr, (⟨G, 0, none⟩ : Addr) = ax := ⟨_, rfl⟩
              have had : ∀ j, ax.add j = ⟨G, j, none⟩ := fun j => by rw [← hax]; exact add_at G j
              have c4 : wr.cell? ⟨(ax.add (m * 4)).block, (ax.add (m * 4)).off + 3, none⟩ = some (.slice Bq q.1.cs.length cq) := by rw [had]; exact e3
              have HAX := Lib.hid hax
              have HBK : Hid ((ax.add (m * 4)).block = G) := by show _ = _; rw [had]
              have hmi : (0 : Int) ≤ m := by omega
              have hmk : (m : Int) < k := by omega
              rw [hax]
              have HQ := Lib.hid hq
              have HQV := Lib.hid hqv
              have HSB := Lib.hid hsub
              have HCA := Lib.hid hca
              have HCB := Lib.hid hcl
              have HO := Lib.hid ho
              have hsh := (HS0.out.2 q.1 (List.mem_of_getElem? hql)).2
              have HWD2 := Lib.hid ((HWD.out q.1 (List.mem_of_getElem? hql)).2)
              clear ho g3 e3 hsub hqv hca hcl hax had hq hql
              obtain ⟨p, u⟩ := q
              obtain ⟨pid, pnm, pmay, cs⟩ := p
              dsimp only at c4 d4 HQV HSB HCA HCB hsh HWD2
              cases cs with
              | nil =>
                simp only [List.length_nil] at c4 d4
                have HN1 := Lib.hid HF.out.next
                go_wp2
                go_roundw
                case rel => exact ⟨m + 1, by omega, by go_num, by rw [← HAX.out]; exact HN1.out⟩
                case measure => simp [intOf]; omega
              | cons z cs =>
                obtain ⟨g, rfl⟩ : ∃ g, Bq = some ⟨g, 0, none⟩ := by
                  rcases HSB.out.2 with ⟨_, h0⟩ | ⟨g', c', cur, h, _⟩
                  · simp at h0
                  · rw [HQV.out] at h; cases h; exact ⟨_, rfl⟩
                obtain rfl := HQV.out
                have hg0 := HSB.out.lt g rfl
                have hGg : G ≠ g := part_ne_cell HO.out HSB.out rfl G rfl
                have e0 : wr.cell? ⟨g, 0, none⟩ = some (.int .u32 z.v) := by
                  obtain ⟨yy, hyy, h3, _⟩ := HCA.out 0 z rfl
                  cases hyy
                  exact h3
                have f0 : wr.frozen? ⟨g, 0, none⟩ = false := HSB.out.frozenAt 0
                obtain ⟨vN, hvN⟩ : ∃ v : Nat, (z.v + 1) % 4294967296 = v := ⟨_, rfl⟩
                have hzv : z.v ≤ 4294967295 := HWD2.out z (by simp)
                have hwv : IntKind.u32.wrap ((z.v : Int) + 1) = (vN : Int) := by rw [IntKind.wrap_u32]; omega
                have hne : eqC ⟨vN, z.kept⟩ z = false := by unfold eqC; simp; omega
                have HSP2 := Lib.hid (HF.out.poke HQ.out rfl (.int .u32 vN))
                have hc5 := cells_poke HSB.out vN
                have c4' := poke_cell (v := .int .u32 vN) c4 (by rw [HBK.out]; exact hGg)
                have hbW2 : Below w.heap.size w (wr.setCell ⟨g, 0, none⟩ (.int .u32 vN)) := HBB.out.trans ((HF.out.below.setCell hg0.1 _).mono HBB.out.size)
                obtain ⟨ay2, B2, c2, hay, _, _, _, d4', hd6, _⟩ := (HPA.out.kept hbW2) m _ (show l[m]? = some _ by rw [← HFST.out, List.getElem?_map, HQ.out]; rfl)
                obtain rfl := Option.some.inj hay
                dsimp only at d4' hd6
                have HSC : Hid (∀ n, Calls Tryd.prog 17 #[.slice (some ⟨g, 0, none⟩) (z :: cs).length cq, .slice B2 (z :: cs).length c2] ((wr.setCell ⟨g, 0, none⟩ (.int .u32 vN)).drewN n) fun e w' => e = .returned (.bool false) ∧ ∃ m, w' = ((wr.setCell ⟨g, 0, none⟩ (.int .u32 vN)).drewN n).drewN m) := fun n => by
                  have h := sameCells_any (some ⟨g, 0, none⟩) B2 cq c2 (⟨vN, z.kept⟩ :: cs) (z :: cs) _ (hc5.drewN n) (hd6.drewN n) (by have := hsh; simp at this ⊢; omega) (by have := hsh; unfold maxLen; simp at this ⊢; omega)
                  have e : allEq eqC (⟨vN, z.kept⟩ :: cs) (z :: cs) = false := allEq_no eqC _ _ 0 _ _ rfl rfl hne
                  rw [e] at h
                  exact h
                obtain ⟨LC, hLC⟩ : ∃ n, (z :: cs).length = n := ⟨_, rfl⟩
                have hp : 0 < LC := by rw [← hLC]; simp
                have tp : decide ((0 : Int) < (LC : Int)) = true := decide_eq_true (by omega)
                have tp2 : decide (0 < LC) = true := decide_eq_true hp
                have hpi : (0 : Int) < (LC : Int) := by omega
                rw [hLC] at c4 d4 c4' d4' HSC
                clear hg0 hGg hvN hzv hne hc5 hd6 hLC hbW2 hay HCA HCB HSB HO hsh HWD2
                go_wp2
                go_quiet ((go_at_call 17; exact Calls.quiet_of (HSC.out _)))
                go_wp2
                go_roundw
                case rel => exact ⟨m + 1, by omega, by go_num, by rw [← HAX.out]; exact HSP2.out.drewN _⟩
                case measure => simp [intOf]; omega
            · obtain rfl : m = k := by omega
              go_wp2_with (go_at_call 10; refine (Go.Proofs.YtpdoihndpnpifaaDoor.Prt.awake_any _ (HN.out.kept HBW.out)).mono ?_; rintro e w' ⟨rfl, hb⟩; have HBE := Lib.hid (HBW.out.trans (hb.mono HBW.out.size)); clear hb)
              go_ret
              exact ⟨rfl, HBE.out⟩
    · go_wp2_with (go_at_call 10; refine (Go.Proofs.YtpdoihndpnpifaaDoor.Prt.awake_any _ (HN.out.kept HF3.out.below)).mono ?_; rintro e w' ⟨rfl, hb⟩)
      go_ret
      exact ⟨rfl, HF3.out.below.trans (hb.mono HF3.out.below.size)⟩
  · go_wp2_with (go_at_call 10; refine (Go.Proofs.YtpdoihndpnpifaaDoor.Prt.awake_any _ (HN.out.kept (HBA.out.trans (HB1.out.mono HBA.out.size)))).mono ?_; rintro e w' ⟨rfl, hb⟩)
    go_ret
    exact ⟨rfl, (HBA.out.trans (HB1.out.mono HBA.out.size)).trans (hb.mono (HBA.out.trans (HB1.out.mono HBA.out.size)).size)⟩

end Go.Proofs.YtpdoihndpnpifaaDoor.partsFinds
