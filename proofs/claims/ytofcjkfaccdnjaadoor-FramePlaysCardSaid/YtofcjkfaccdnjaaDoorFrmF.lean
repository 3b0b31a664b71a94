
/- Frames: schedules that may be asked about, and their tables. Conditions: slices have at most the greatest length; the variables hold what the program lays there. Frames: the tables of schedules that may be asked about. Condition: the variables hold what the program lays there. Frames: the chapter's example. Condition: the variables hold what the program lays there. -/

import Derived.Test.YtofcjkfaccdnjaaDoorFrmD

import Derived.Test.YtofcjkfaccdnjaaDoorTabE

import Derived.Test.YtofcjkfaccdnjaaDoorWinE

import Derived.Test.YtofcjkfaccdnjaaDoorWinO

import Derived.Maps.AppendAt

namespace Go.Proofs.YtofcjkfaccdnjaaDoor.Scd

open Go.RowKit Go.PlainAid Go.Proofs.YtofcjkfaccdnjaaDoor.Oct Go.Proofs.YtofcjkfaccdnjaaDoor.Flt Go.Proofs.YtofcjkfaccdnjaaDoor.Rdr Go.Proofs.YtofcjkfaccdnjaaDoor.Act Go.Proofs.YtofcjkfaccdnjaaDoor.Args

set_option linter.unusedVariables false

set_option linter.unusedSimpArgs false

/-- Schedules, one behind the other. -/
def ScdAt (w : World) (A : Option Addr) (l : List SC) : Prop :=
  ∀ i x, l[i]? = some x → ∃ y B cb C cc, A = some y ∧ w.cell? (y.add (i * 4)) = some (.int .i64 x.id) ∧ w.cell? ⟨(y.add (i * 4)).block, (y.add (i * 4)).off + 1, none⟩ = some (.int .i64 x.fr) ∧ w.cell? ⟨(y.add (i * 4)).block, (y.add (i * 4)).off + 2, none⟩ = some (.slice B x.ws.length cb) ∧ w.cell? ⟨(y.add (i * 4)).block, (y.add (i * 4)).off + 3, none⟩ = some (.slice C x.ns.length cc) ∧
    ActsAt w B x.ws ∧ ActsAt w C x.ns ∧ x.ws.length ≤ maxLen ∧ x.ns.length ≤ maxLen
theorem ScdAt.kept {w w' : World} {A : Option Addr} {l : List SC} (h : ScdAt w A l) (b : Below w.heap.size w w') : ScdAt w' A l := by
  intro i x hx
  obtain ⟨y, B, cb, C, cc, e, c0, c1, c2, c3, h1, h2, h3⟩ := h i x hx
  exact ⟨y, B, cb, C, cc, e, (b.cell (Go.block_lt_of_cell c0)).trans c0, (b.cell (Go.block_lt_of_cell c1)).trans c1, (b.cell (Go.block_lt_of_cell c2)).trans c2, (b.cell (Go.block_lt_of_cell c3)).trans c3, h1.kept b, h2.kept b, h3⟩
def WideS (x : SC) : Prop := I64 x.id ∧ I64 x.fr ∧ (∀ y ∈ x.ws, Wide y) ∧ (∀ y ∈ x.ns, Wide y)
theorem scheds_of {w : World} {a : Option Addr} {len cap : Nat} (h : IsRows w a len cap [.one (.int .i64), .one (.int .i64), .recs [.int .i64, .int .i64, .int .i64], .recs [.int .i64, .int .i64, .int .i64]]) : ∃ l : List SC, l.length = len ∧ ScdAt w a l ∧ (∀ x ∈ l, WideS x) ∧ len ≤ maxLen := by
  rcases h with ⟨rfl, rfl, rfl⟩ | ⟨y, rfl, hlc, hcm, hcell⟩
  · exact ⟨[], rfl, fun i x hx => by simp at hx, by simp, Nat.zero_le _⟩
  · obtain ⟨l, hl, hp⟩ := list_of (fun i (x : SC) => (∃ B cb C cc, w.cell? (y.add (i * 4)) = some (.int .i64 x.id) ∧ w.cell? ⟨(y.add (i * 4)).block, (y.add (i * 4)).off + 1, none⟩ = some (.int .i64 x.fr) ∧ w.cell? ⟨(y.add (i * 4)).block, (y.add (i * 4)).off + 2, none⟩ = some (.slice B x.ws.length cb) ∧ w.cell? ⟨(y.add (i * 4)).block, (y.add (i * 4)).off + 3, none⟩ = some (.slice C x.ns.length cc) ∧
        ActsAt w B x.ws ∧ ActsAt w C x.ns ∧ x.ws.length ≤ maxLen ∧ x.ns.length ≤ maxLen) ∧ WideS x) len (by
      intro i hi
      obtain ⟨_, c0, s, rfl, hs⟩ := hcell i hi 0 _ rfl
      obtain ⟨_, c1, f, rfl, hf⟩ := hcell i hi 1 _ rfl
      obtain ⟨_, c2, B, bl, bc, rfl, hr⟩ := hcell i hi 2 _ rfl
      obtain ⟨_, c3, C, cl, cc, rfl, hr2⟩ := hcell i hi 3 _ rfl
      obtain ⟨ws, w1, w2, w3, w4, w5⟩ := acts_of hr
      obtain ⟨ns, n1, n2, n3, n4, n5⟩ := acts_of hr2
      subst w1 n1
      exact ⟨⟨s, f, ws, ns⟩, ⟨B, bc, C, cc, c0, c1, c2, c3, w2, n2, by dsimp only; omega, by dsimp only; omega⟩, bounds_i64 hs, bounds_i64 hf, w3, n3⟩)
    refine ⟨l, hl, fun i x hx => ?_, fun x hx => ?_, by omega⟩
    · obtain ⟨⟨B, cb, C, cc, h⟩, _⟩ := hp i x hx
      exact ⟨y, B, cb, C, cc, rfl, h⟩
    · obtain ⟨i, hi, rfl⟩ := List.mem_iff_getElem.1 hx
      exact (hp i _ (List.getElem?_eq_getElem hi)).2
end Go.Proofs.YtofcjkfaccdnjaaDoor.Scd

namespace Go.Proofs.YtofcjkfaccdnjaaDoor.Frm

open Go.RowKit Go.PlainAid Go.Proofs.YtofcjkfaccdnjaaDoor.Oct Go.Proofs.YtofcjkfaccdnjaaDoor.Flt Go.Proofs.YtofcjkfaccdnjaaDoor.Rdr Go.Proofs.YtofcjkfaccdnjaaDoor.Args Go.Proofs.YtofcjkfaccdnjaaDoor.Win Go.Proofs.YtofcjkfaccdnjaaDoor.Tab Go.Proofs.YtofcjkfaccdnjaaDoor.Clk

open Go.Proofs.YtofcjkfaccdnjaaDoor.Act (A3 actL flatA ActsAt I64 Wide)

open Go.Proofs.YtofcjkfaccdnjaaDoor.Scd (SC scC rgS rgS_in rowB sright09_any ScdAt WideS scheds_of)

set_option linter.unusedVariables false

set_option linter.unusedSimpArgs false

/-- A schedule that may be asked about. -/
structure OkS (ids : List Int) (x : SC) : Prop where
  rg : rgS x = 0
  fr : x.fr ≤ 60
  ws : x.ws.length ≤ 30
  ck : (chkW ids x.fr ⟨0, 0, 0⟩ 0 x.ws).1 = 0
structure Few (l : List SC) (ids : List Int) : Prop where
  all : ∀ x ∈ l, OkS ids x
  l8 : l.length ≤ 8
  ids : ids.length ≤ 40
def FwPost (l : List SC) (ids : List Int) (w : World) (e : Ending) (w' : World) : Prop := ∃ b, e = .returned (.bool b) ∧ (b = true → Few l ids) ∧ Below w.heap.size w w'
def FwRel (l : List SC) (ids : List Int) (w : World) (i : Value) (wr : World) : Prop := ∃ k : Nat, k ≤ l.length ∧ i = .int .i64 (k : Int) ∧ (∀ (j : Nat) (x : SC), j < k → l[j]? = some x → OkS ids x) ∧ Below w.heap.size w wr
set_option maxRecDepth 8000 in
set_option maxHeartbeats 6400000 in
theorem few_any (A : Option Addr) (cap n : Nat) (l : List SC) (I : Option Addr) (li ci : Nat) (ids : List Int) (w : World) (h : ScdAt w A l) (hw : ∀ x ∈ l, WideS x) (hn : l.length = n) (hl : n ≤ maxLen) (hI : IntsBelow w.heap.size w (.slice I li ci) ids) (hli : ids.length = li) (hids : ids.length ≤ maxLen) :
    Calls Tryd.prog 6 #[.slice A n cap, .slice I li ci] w (FwPost l ids w) := by
  have H := Lib.hid h
  have HW := Lib.hid hw
  have HN := Lib.hid hn
  have HI := Lib.hid hI
  have HLI := Lib.hid hli
  have hl2 : n ≤ 9223372036854775807 := hl
  have HID : Hid (ids.length ≤ 9223372036854775807) := hids
  clear h hw hn hI hli hl hids
  go_enter Tryd.func6, Tryd.ntmps6
  go_wp2
  go_loopw [11] (fun i wr => FwRel l ids w i wr) (fun i _ => n - (intOf i).toNat)
  case atStart => exact ⟨0, Nat.zero_le _, rfl, fun j x hj => by omega, Below.refl _ _⟩
  case round =>
    obtain ⟨k, hk, rfl, hall, hbel⟩ := hrel
    have HALL := Lib.hid hall
    have HB := Lib.hid hbel
    rw [HN.out] at hk
    clear hall hbel
    by_cases hlt : k < n
    · obtain ⟨x, hx⟩ : ∃ x, l[k]? = some x := ⟨_, List.getElem?_eq_getElem (by rw [HN.out]; exact hlt)⟩
      have HX := Lib.hid hx
      have HWX := Lib.hid (HW.out x (List.mem_of_getElem? hx))
      obtain ⟨y, B, cb, C, cc, rfl, c0, c1, c2, c3, hB, hC, hl3, hl4⟩ := (H.out.kept HB.out) k x hx
      have hki : (0 : Int) ≤ k := by omega
      have hkb : (k : Int) < n := by omega
      have hk1 : IntKind.i64.wrap ((k : Int) + 1) = (k : Int) + 1 := IntWalk.i64_in _ (by omega)
      have hb0 : Below wr.heap.size wr (wr.alloc (.cells (scC x B cb C cc) 37)) := (Below.refl _ _).alloc (Nat.le_refl _) _
      have HRT := Lib.hid (sright09_any x B cb C cc _ (hB.kept hb0) (hC.kept hb0) hl3 hl4)
      have HBX := Lib.hid (heap_alloc_new wr (.cells (scC x B cb C cc) 37))
      have HB1 := Lib.hid (HB.out.trans (hb0.mono HB.out.size))
      have HAB := Lib.hid (hB.kept hb0)
      obtain ⟨rg, hrg⟩ : ∃ r, rgS x = r := ⟨_, rfl⟩
      have HRG := Lib.hid hrg
      rw [hrg] at HRT
      have HCK : Hid (∀ W, Below w.heap.size w W → ActsAt W B x.ws → x.ws.length ≤ 30 → _) := fun W b hA h30 => rcheck_far x.id x.fr B cb x.ws C x.ns.length cc I li ci ids W ((HI.out.below b).mono b.size) hA HWX.out.2.2.1 HWX.out.2.1 (by omega) HID.out
      have HOK : Hid (rg = 0 → x.fr ≤ 60 → x.ws.length ≤ 30 → (chkW ids x.fr ⟨0, 0, 0⟩ 0 x.ws).1 = 0 → OkS ids x) := fun h1 h2 h3 h4 => ⟨by rw [HRG.out]; exact h1, h2, h3, h4⟩
      obtain ⟨qc, hqc⟩ : ∃ q, chkW ids x.fr ⟨0, 0, 0⟩ 0 x.ws = q := ⟨_, rfl⟩
      rw [hqc] at HOK HCK
      clear hrg hB hC hb0 hl3 hl4 hx hqc
      obtain ⟨id, fr, ws, ns⟩ := x
      unfold scC at HRT HBX HB1 HAB
      dsimp only at c0 c1 c2 c3 HRT HBX HB1 HAB HOK HCK
      obtain ⟨nw, hnw⟩ : ∃ m, ws.length = m := ⟨_, rfl⟩
      obtain ⟨nn, hnn⟩ : ∃ m, ns.length = m := ⟨_, rfl⟩
      rw [hnw] at c2 HRT HBX HB1 HAB HOK HCK
      rw [hnn] at c3 HRT HBX HB1 HAB HCK
      clear hnw hnn
      go_wp2_with fail
      refine HRT.out.mono ?_
      rintro e w2 ⟨rfl, hb2⟩
      have HX2 := Lib.hid ((hb2.block _ (lt_of_block HBX.out)).trans HBX.out)
      have HB2 := Lib.hid (HB1.out.trans (hb2.mono HB1.out.size))
      have HA2 := Lib.hid (HAB.out.kept hb2)
      clear hb2 HBX HB1 HAB HRT c0 c1 c2 c3
      have y0 := cell_of_row _ _ 0 _ _ _ HX2.out
      have y1 := cell_of_row _ _ 1 _ _ _ HX2.out
      have y2 := cell_of_row _ _ 2 _ _ _ HX2.out
      have y3 := cell_of_row _ _ 3 _ _ _ HX2.out
      simp only [List.getElem?_toArray, List.getElem?_cons_zero, List.getElem?_cons_succ] at y0 y1 y2 y3
      by_cases hr : rg = 0
      · have tr : ((rg : Int) != 0) = false := by simp [hr]
        have HR0 := Lib.hid hr
        clear hr
        by_cases hf : 60 < fr
        · have t1 : decide ((60 : Int) < fr) = true := decide_eq_true hf
          clear hf
          go_wp2
          go_ret
          exact ⟨false, rfl, fun h => (by cases h), HB2.out⟩
        · have t1 : decide ((60 : Int) < fr) = false := decide_eq_false hf
          have HF0 : Hid (fr ≤ 60) := by show _ ≤ _; omega
          clear hf
          by_cases hm : 30 < nw
          · have t2 : decide ((30 : Int) < (nw : Int)) = true := decide_eq_true (by omega)
            clear hm
            go_wp2
            go_ret
            exact ⟨false, rfl, fun h => (by cases h), HB2.out⟩
          · have t2 : decide ((30 : Int) < (nw : Int)) = false := decide_eq_false (by omega)
            have HM0 : Hid (nw ≤ 30) := by show _ ≤ _; omega
            have HC2 := Lib.hid (HCK.out w2 HB2.out HA2.out HM0.out)
            clear hm HCK
            go_wp2_with fail
            refine HC2.out.mono ?_
            rintro e w3 ⟨rfl, hb3⟩
            have HB3 := Lib.hid (HB2.out.trans (hb3.mono HB2.out.size))
            clear hb3 HC2
            by_cases hq : qc.1 = 0
            · have tq : ((qc.1 : Int) != 0) = false := by simp [hq]
              have HO := Lib.hid (HOK.out HR0.out HF0.out HM0.out hq)
              clear hq HOK
              go_wp2
              go_roundw
              case rel => exact ⟨k + 1, by rw [HN.out]; omega, by first | rfl | go_num, fun j z hj hz => by
                by_cases hjk : j = k
                · subst hjk
                  rw [HX.out] at hz
                  obtain rfl := Option.some.inj hz
                  exact HO.out
                · exact HALL.out j z (by omega) hz, HB3.out⟩
              case measure => simp [intOf]; omega
            · have tq : ((qc.1 : Int) != 0) = true := by simp; omega
              clear hq
              go_wp2
              go_ret
              exact ⟨false, rfl, fun h => (by cases h), HB3.out⟩
      · have tr : ((rg : Int) != 0) = true := by simp; omega
        clear hr
        go_wp2
        go_ret
        exact ⟨false, rfl, fun h => (by cases h), HB2.out⟩
    · obtain rfl : k = n := by omega
      have HA : Hid (∀ x ∈ l, OkS ids x) := fun x hx => by
        obtain ⟨i, hi, rfl⟩ := List.mem_iff_getElem.1 hx
        exact HALL.out i _ (by rw [← HN.out]; exact hi) (List.getElem?_eq_getElem hi)
      by_cases h8 : k ≤ 8
      · have t1 : decide ((k : Int) ≤ 8) = true := decide_eq_true (by omega)
        have H8 : Hid (k ≤ 8) := h8
        clear h8
        by_cases h40 : li ≤ 40
        · have t2 : decide ((li : Int) ≤ 40) = true := decide_eq_true (by omega)
          have H40 := Lib.hid h40
          clear h40
          go_wp2
          go_ret
          exact ⟨true, rfl, fun _ => ⟨HA.out, by rw [HN.out]; exact H8.out, by rw [HLI.out]; exact H40.out⟩, HB.out⟩
        · have t2 : decide ((li : Int) ≤ 40) = false := decide_eq_false (by omega)
          clear h40
          go_wp2
          go_ret
          exact ⟨false, rfl, fun h => (by cases h), HB.out⟩
      · have t1 : decide ((k : Int) ≤ 8) = false := decide_eq_false (by omega)
        clear h8
        go_wp2
        go_ret
        exact ⟨false, rfl, fun h => (by cases h), HB.out⟩
end Go.Proofs.YtofcjkfaccdnjaaDoor.Frm

namespace Go.Proofs.YtofcjkfaccdnjaaDoor.Frm

open Go.RowKit Go.PlainAid Go.Proofs.YtofcjkfaccdnjaaDoor.Oct Go.Proofs.YtofcjkfaccdnjaaDoor.Flt Go.Proofs.YtofcjkfaccdnjaaDoor.Rdr Go.Proofs.YtofcjkfaccdnjaaDoor.Args Go.Proofs.YtofcjkfaccdnjaaDoor.Win Go.Proofs.YtofcjkfaccdnjaaDoor.Tab Go.Proofs.YtofcjkfaccdnjaaDoor.Clk

open Go.Proofs.YtofcjkfaccdnjaaDoor.Act (A3 actL flatA ActsAt I64 Wide)

open Go.Proofs.YtofcjkfaccdnjaaDoor.Scd (SC scC rgS rgS_in rowB sright09_any ScdAt WideS scheds_of)

set_option linter.unusedVariables false

set_option linter.unusedSimpArgs false

theorem TabOk.mono {B B' : Nat} {w : World} {T : TR} (h : TabOk B w T) (hb : B ≤ B') : TabOk B' w T :=
  ⟨h.it, h.ru, Nat.lt_of_lt_of_le h.lg hb, fun a ha => Nat.lt_of_lt_of_le (h.lA a ha) hb, h.wd⟩
theorem TabOk.grown {B : Nat} {w w' : World} {T : TR} {row : Option Nat} (h : TabOk B w T) (hg : w.grownBy w' row) (hB : B ≤ w.heap.size) (h1 : ∀ j, row = some j → T.g ≠ j ∧ ∀ a, T.A = some a → a.block ≠ j) : TabOk B w' T := by
  have hne : ∀ b, (∀ j, row = some j → b ≠ j) → some b ≠ row := fun b hb e => hb b e.symm rfl
  refine ⟨⟨(hg.block _ (Nat.lt_of_lt_of_le h.lg hB) (hne _ fun j hj => (h1 j hj).1)).trans h.it.box, fun i x hx => ?_⟩, h.ru, h.lg, h.lA, h.wd⟩
  obtain ⟨a, ha, c1, c2, c3⟩ := h.it.runs i x hx
  have hbl : (a.add (i * 3)).block = a.block := add_block a (i * 3)
  have hj : w'.heap[(a.add (i * 3)).block]? = w.heap[(a.add (i * 3)).block]? := hg.block _ (by rw [hbl]; exact Nat.lt_of_lt_of_le (h.lA a ha) hB) (by rw [hbl]; exact hne _ fun j hj => (h1 j hj).2 a ha)
  exact ⟨a, ha, (World.cell?_of_block hj).trans c1, (World.cell?_of_block (a := ⟨(a.add (i * 3)).block, _, none⟩) hj).trans c2, (World.cell?_of_block (a := ⟨(a.add (i * 3)).block, _, none⟩) hj).trans c3⟩
def ptrs (Ts : List TR) : List Value := Ts.map fun X => Value.pointer (some ⟨X.g, 0, none⟩)
/-- A table is a schedule's. -/
structure Like (x : SC) (X : TR) : Prop where
  id : X.id = x.id
  fr : (X.fr : Int) = x.fr
  f : X.f = ownT x.fr x.ws
/-- Tables made so far, in a row of the call's own. -/
structure TRl (l : List SC) (k : Nat) (Ts : List TR) (V : Value) (w wr : World) : Prop where
  own : wr.ownsRow w.heap.size 63 1 V k (ptrs Ts)
  len : Ts.length = k
  like : ∀ (i : Nat) (x : SC) (X : TR), l[i]? = some x → Ts[i]? = some X → Like x X
  tabs : ∀ X ∈ Ts, TabOk wr.heap.size wr X
  apart : ∀ j, V.ownBlock = some j → ∀ X ∈ Ts, X.g ≠ j ∧ ∀ a, X.A = some a → a.block ≠ j
  below : Below w.heap.size w wr
theorem TRl.keep {l : List SC} {k : Nat} {Ts : List TR} {V : Value} {w wr w' : World} (f : TRl l k Ts V w wr) (b : Below wr.heap.size wr w') : TRl l k Ts V w w' :=
  ⟨owns_kept f.own b, f.len, f.like, fun X hX => ((f.tabs X hX).kept b).mono b.size, f.apart, f.below.trans (b.mono f.below.size)⟩
theorem TRl.more {l : List SC} {k : Nat} {Ts : List TR} {V V' : Value} {w w3 w4 : World} {x : SC} {X : TR} (f : TRl l k Ts V w w3) (hx : l[k]? = some x) (hl : Like x X) (hX : TabOk w3.heap.size w3 X) (hap : ∀ j, V.ownBlock = some j → X.g ≠ j ∧ ∀ a, X.A = some a → a.block ≠ j)
    (ho : w4.ownsRow w.heap.size 63 1 V' (k + 1) (ptrs Ts ++ [.pointer (some ⟨X.g, 0, none⟩)])) (hg : w3.grownBy w4 V.ownBlock) (hat : V'.ownBlock = V.ownBlock ∨ V'.ownBlock = some w3.heap.size) : TRl l (k + 1) (Ts ++ [X]) V' w w4 := by
  have hall : ∀ Y ∈ Ts ++ [X], TabOk w3.heap.size w3 Y := fun Y hY => by
    rcases List.mem_append.1 hY with h | h
    · exact f.tabs Y h
    · rw [List.mem_singleton.1 h]; exact hX
  have hallA : ∀ j, V.ownBlock = some j → ∀ Y ∈ Ts ++ [X], Y.g ≠ j ∧ ∀ a, Y.A = some a → a.block ≠ j := fun j hj Y hY => by
    rcases List.mem_append.1 hY with h | h
    · exact f.apart j hj Y h
    · rw [List.mem_singleton.1 h]; exact hap j hj
  refine ⟨?_, by simp [f.len], fun i y Y hy hY => ?_, fun Y hY => ((hall Y hY).grown hg (Nat.le_refl _) (fun j hj => hallA j hj Y hY)).mono hg.size, fun j hj Y hY => ?_, f.below.grown hg f.below.size (fun j hj => (f.own.lt j hj).1)⟩
  · have e : ptrs (Ts ++ [X]) = ptrs Ts ++ [.pointer (some ⟨X.g, 0, none⟩)] := by simp [ptrs]
    rw [e]; exact ho
  · by_cases hi : i < k
    · rw [List.getElem?_append_left (by rw [f.len]; exact hi)] at hY
      exact f.like i y Y hy hY
    · have hik : i = k := by
        have := (List.getElem?_eq_some_iff.1 hY).1
        simp [f.len] at this
        omega
      subst hik
      rw [List.getElem?_append_right (by rw [f.len]; exact Nat.le_refl _), f.len, Nat.sub_self] at hY
      obtain rfl : X = Y := by simpa using hY
      rw [hx] at hy
      obtain rfl := Option.some.inj hy
      exact hl
  · rcases hat with h | h
    · exact hallA j (h ▸ hj) Y hY
    · rw [h] at hj
      obtain rfl := Option.some.inj hj
      have := hall Y hY
      exact ⟨by have := this.lg; omega, fun a ha => by have := this.lA a ha; omega⟩
theorem infoT : (Tryd.prog.info? 63).map (fun i => (i.zero, i.size, i.bytes)) = some (some (.pointer none), 1, 8) := by kernel_rfl
def TbPost (l : List SC) (w : World) (e : Ending) (w' : World) : Prop := ∃ V Ts, e = .returned V ∧ TRl l l.length Ts V w w'
set_option maxRecDepth 8000 in
set_option maxHeartbeats 6400000 in
theorem tables_any (A : Option Addr) (cap n : Nat) (l : List SC) (I : Option Addr) (li ci : Nat) (ids : List Int) (w : World) (hn : Names w) (h : ScdAt w A l) (hw : ∀ x ∈ l, WideS x) (hln : l.length = n) (hI : IntsBelow w.heap.size w (.slice I li ci) ids) (hf : Few l ids) :
    Calls Tryd.prog 8 #[.slice A n cap, .slice I li ci] w (TbPost l w) := by
  obtain ⟨i0, hi, hz0, hz1, hz2⟩ := info_parts infoT
  have H := Lib.hid h
  have HW := Lib.hid hw
  have HN := Lib.hid hln
  have HI := Lib.hid hI
  have HNM := Lib.hid hn
  have HFW := Lib.hid hf
  have hl8 := hf.l8
  rw [hln] at hl8
  clear h hw hln hI hn hf
  go_enter Tryd.func8, Tryd.ntmps8
  go_wp2
  go_loopw [5, 12] (fun v i wr => ∃ (k : Nat) (Ts : List TR) (a : Option Addr) (c : Nat), k ≤ n ∧ i = .int .i64 (k : Int) ∧ v = .slice a k c ∧ TRl l k Ts v w wr) (fun _ i _ => n - (intOf i).toNat)
  case atStart => exact ⟨0, [], none, 0, Nat.zero_le _, rfl, rfl, ⟨World.ownsRow_nil _ _ _ _, rfl, fun i x X _ h => by simp at h, fun X h => by simp at h, fun j hj => by simp [Value.ownBlock] at hj, Below.refl _ _⟩⟩
  case round =>
    obtain ⟨k, Ts, a, c, hk, rfl, rfl, htr⟩ := hrel
    have HTR := Lib.hid htr
    clear htr
    by_cases hlt : k < n
    · obtain ⟨x, hx⟩ : ∃ x, l[k]? = some x := ⟨_, List.getElem?_eq_getElem (by rw [HN.out]; exact hlt)⟩
      have HX := Lib.hid hx
      have hwx := HW.out x (List.mem_of_getElem? hx)
      have hok := HFW.out.all x (List.mem_of_getElem? hx)
      obtain ⟨y, B, cb, C, cc, rfl, c0, c1, c2, c3, hB, hC, hl3, hl4⟩ := (H.out.kept HTR.out.below) k x hx
      have hki : (0 : Int) ≤ k := by omega
      have hkb : (k : Int) < n := by omega
      have hk1 : IntKind.i64.wrap ((k : Int) + 1) = (k : Int) + 1 := IntWalk.i64_in _ (by omega)
      have hb0 : Below wr.heap.size wr (wr.alloc (.cells (scC x B cb C cc) 37)) := (Below.refl _ _).alloc (Nat.le_refl _) _
      have HT1 := Lib.hid (HTR.out.keep hb0)
      have hrg := rgS_in hok.rg
      obtain ⟨fn, hfn⟩ : ∃ m : Nat, x.fr = (m : Int) := ⟨x.fr.toNat, by omega⟩
      have hck := hok.ck
      rw [hfn] at hck
      have HNW := Lib.hid (tnew_own x.id fn B cb x.ws C x.ns.length cc I li ci ids _ (HNM.out.kept HT1.out.below) ((HI.out.below HT1.out.below).mono HT1.out.below.size) (hB.kept hb0) hwx.2.2.1 (by omega) (by have := hok.ws; omega) (by have := HFW.out.ids; omega))
      have HLK : Hid (∀ g A' c', Like x ⟨g, x.id, fn, A', c', runsD (ownT (fn : Int) x.ws) fn, ownT (fn : Int) x.ws⟩) := fun g A' c' => ⟨rfl, hfn.symm, by rw [hfn]⟩
      have HRU : Hid (Runs (ownT (fn : Int) x.ws) (runsD (ownT (fn : Int) x.ws) fn) fn) := ⟨gr_runs _ fn, runs_len _ fn, by omega, by omega⟩
      have HCK := Lib.hid hck
      have HWI := Lib.hid hwx.1
      obtain ⟨f, hfe⟩ : ∃ f, ownT (fn : Int) x.ws = f := ⟨_, rfl⟩
      rw [hfe] at HNW HLK HRU
      have HROW : Hid (∀ j, (Value.slice a k c).ownBlock = some j → j < wr.heap.size) := fun j hj => (HTR.out.own.lt j hj).2
      clear hx hwx hok hB hC hl3 hl4 hb0 hrg hck hfe HTR
      obtain ⟨id, fr, ws, ns⟩ := x
      dsimp only at hfn c0 c1 c2 c3 HNW HLK HCK HWI HX
      subst hfn
      unfold scC at HT1 HNW
      dsimp only at HT1 HNW
      obtain ⟨nw, hnw⟩ : ∃ m, ws.length = m := ⟨_, rfl⟩
      obtain ⟨nn, hnn⟩ : ∃ m, ns.length = m := ⟨_, rfl⟩
      rw [hnw] at c2 HT1 HNW
      rw [hnn] at c3 HT1 HNW
      clear hnw hnn
      go_wp2_with fail
      refine HNW.out.mono ?_
      rintro e w3 (⟨_, g, A', c', rfl, hit, hnil, hlc, hb3, hge, hgA⟩ | ⟨hbad, _⟩)
      · have hT3 := HT1.out.keep hb3
        have hlA : ∀ b, A' = some b → b.block < w3.heap.size := fun b hb => by
          obtain ⟨x0, hx0⟩ := first_run HRU.out
          obtain ⟨b', hb', d0, _, _⟩ := hit.runs 0 x0 hx0.get
          rw [hb] at hb'
          obtain rfl := Option.some.inj hb'
          have h := Go.block_lt_of_cell d0
          rw [add_block] at h
          exact h
        have hX3 : TabOk w3.heap.size w3 ⟨g, id, fn, A', c', runsD f fn, f⟩ := ⟨hit, HRU.out, lt_of_block hit.box, hlA, HWI.out⟩
        have hap : ∀ j, (Value.slice a k c).ownBlock = some j → g ≠ j ∧ ∀ b, A' = some b → b.block ≠ j := fun j hj => by
          have h1 := HROW.out j hj
          rw [World.size_alloc] at hge hgA
          exact ⟨by omega, fun b hb => by have := hgA b hb; omega⟩
        have hb4 : Below w3.heap.size w3 (w3.alloc (.cells #[.pointer (some ⟨g, 0, none⟩)] 63)) := (Below.refl _ _).alloc (Nat.le_refl _) _
        have HT4 := Lib.hid (hT3.keep hb4)
        have HX4 := Lib.hid ((hX3.kept hb4).mono hb4.size)
        have HAP := Lib.hid hap
        have HLI : Hid (Like _ _) := HLK.out g A' c'
        clear hit hnil hlc hb3 hge hgA hT3 hlA hX3 hap hb4 HNW HT1 HLK c0 c1 c2 c3
        go_wp2_with (at_builtin; refine wpList_append_own_at _ rfl _ _ 28 rfl w.heap.size 63 i0 (.pointer none) 1 8 Tryd.underlying28 hi hz0 hz1 hz2 rfl (by decide) _ _ _ rfl HT4.out.own ⟨w3.heap.size, 0, none⟩ 1 1 [.pointer (some ⟨g, 0, none⟩)] rfl rfl (cell_one_new _ _ _) ?c2 ?c3 ?c4 ?c5 ?_)
        case c2 => first | rfl | (intro u hu; simp at hu; subst hu; rfl; done) | (unfold maxLen; omega) | omega | exact HT4.out.below.size
        case c3 => first | rfl | (intro u hu; simp at hu; subst hu; rfl; done) | (unfold maxLen; omega) | omega | exact HT4.out.below.size
        case c4 => first | rfl | (intro u hu; simp at hu; subst hu; rfl; done) | (unfold maxLen; omega) | omega | exact HT4.out.below.size
        case c5 => first | rfl | (intro u hu; simp at hu; subst hu; rfl; done) | (unfold maxLen; omega) | omega | exact HT4.out.below.size
        intro V5 W5 ho5 hg5 _ hat5
        have HT5 := Lib.hid (HT4.out.more HX.out HLI.out HX4.out HAP.out ho5 hg5 (by rw [World.size_alloc]; exact hat5))
        obtain ⟨A5, c5, hV5⟩ := own_form ho5
        subst hV5
        clear ho5 hg5 hat5
        go_wp2
        go_roundw
        case rel => exact ⟨k + 1, _, A5, c5, by omega, by first | rfl | go_num, rfl, HT5.out⟩
        case measure => simp [intOf]; omega
      · exact absurd HCK.out hbad
    · obtain rfl : k = n := by omega
      go_wp2
      go_ret
      exact ⟨_, Ts, rfl, by rw [HN.out]; exact HTR.out⟩
theorem TRl.ptrs_at {l : List SC} {k : Nat} {Ts : List TR} {V : Value} {w wr : World} (f : TRl l k Ts V w wr) : ∃ A c, V = .slice A k c ∧ PtrsAt wr A Ts := by
  rcases f.own.2 with ⟨e, h0⟩ | ⟨g, cap, cur, e, _, hg, _⟩
  · subst e
    have : Ts = [] := List.eq_nil_of_length_eq_zero (by rw [f.len]; exact h0)
    exact ⟨none, 0, by rw [h0], fun i X hX => by rw [this] at hX; simp at hX⟩
  · subst e
    refine ⟨_, cap, rfl, fun i X hX => ⟨_, rfl, ?_⟩⟩
    have hi := (List.getElem?_eq_some_iff.1 hX).1
    rw [f.len] at hi
    have hc := f.own.cellAt i (by omega)
    have e : (Addr.mk g 0 none).add i = ⟨g, i, none⟩ := by cases i <;> simp [Addr.add]
    rw [e, hc, ptrs, List.getElem?_map, hX]
    rfl
end Go.Proofs.YtofcjkfaccdnjaaDoor.Frm

namespace Go.Proofs.YtofcjkfaccdnjaaDoor.Frm

open Go.RowKit Go.PlainAid Go.Proofs.YtofcjkfaccdnjaaDoor.Oct Go.Proofs.YtofcjkfaccdnjaaDoor.Flt Go.Proofs.YtofcjkfaccdnjaaDoor.Rdr Go.Proofs.YtofcjkfaccdnjaaDoor.Args Go.Proofs.YtofcjkfaccdnjaaDoor.Win Go.Proofs.YtofcjkfaccdnjaaDoor.Tab Go.Proofs.YtofcjkfaccdnjaaDoor.Clk

open Go.Proofs.YtofcjkfaccdnjaaDoor.Act (A3 actL flatA ActsAt I64 Wide)

open Go.Proofs.YtofcjkfaccdnjaaDoor.Scd (SC scC rgS rgS_in rowB sright09_any ScdAt WideS scheds_of)

set_option linter.unusedVariables false

set_option linter.unusedSimpArgs false

/-- New tables make an engine. -/
theorem new_of {l : List SC} {n : Nat} {Ts : List TR} {V : Value} {w0 w : World} (f : TRl l n Ts V w0 w) (hl : n ≤ 1099511627776) (first : Int) (epoch : Nat) (hf : I64 first) (he : epoch ≤ 18446744073709551615) :
    Calls Tryd.prog 9 #[V, .int .i64 first, .int .u64 (epoch : Int)] w (ENew w Ts first epoch) := by
  obtain ⟨A, c, rfl, hp⟩ := f.ptrs_at
  exact enew_any A c n Ts first epoch w hp f.len hl f.tabs hf he
def exS : SC := ⟨0, 2, [], []⟩
theorem ex_few : Few [exS] [] := ⟨fun x hx => by obtain rfl := List.mem_singleton.1 hx; exact ⟨by decide, by decide, by decide, by decide⟩, by decide, by decide⟩
set_option maxRecDepth 8000 in
set_option maxHeartbeats 3200000 in
theorem awake18 (w : World) (hn : Names w) : Calls Tryd.prog 7 #[] w fun e w' => e = .returned (.bool true) ∧ Below w.heap.size w w' := by
  have hb1 : Below w.heap.size w (w.alloc (.cells #[.int .i64 0, .int .i64 2, .slice none 0 0, .slice none 0 0] 37)) := (Below.refl _ _).alloc (Nat.le_refl _) _
  have hrow := heap_alloc_new w (.cells #[.int .i64 0, .int .i64 2, .slice none 0 0, .slice none 0 0] 37)
  have hsc : ScdAt (w.alloc (.cells #[.int .i64 0, .int .i64 2, .slice none 0 0, .slice none 0 0] 37)) (some ⟨w.heap.size, 0, none⟩) [exS] := by
    intro i x hx
    have hi : i = 0 := by have := (List.getElem?_eq_some_iff.1 hx).1; simp at this; omega
    subst hi
    obtain rfl : exS = x := by simpa using hx
    have e : (Addr.mk w.heap.size 0 none).add (0 * 4) = ⟨w.heap.size, 0, none⟩ := by simp [Addr.add]
    refine ⟨_, none, 0, none, 0, rfl, ?_, ?_, ?_, ?_, fun j y h => by simp [exS] at h, fun j y h => by simp [exS] at h, by simp [exS], by simp [exS]⟩
    all_goals (rw [e]; exact (cell_of_row _ _ _ _ _ _ hrow).trans rfl)
  have HT := Lib.hid (tables_any (some ⟨w.heap.size, 0, none⟩) 1 1 [exS] none 0 0 [] _ (hn.kept hb1) hsc (fun x hx => by obtain rfl := List.mem_singleton.1 hx; exact ⟨by constructor <;> decide, by constructor <;> decide, fun y h => by simp [exS] at h, fun y h => by simp [exS] at h⟩) rfl (.inl ⟨rfl, rfl⟩) ex_few)
  have HB1 := Lib.hid hb1
  clear hn hb1 hrow hsc
  go_enter Tryd.func7, Tryd.ntmps7
  go_wp2_with fail
  refine HT.out.mono ?_
  rintro e w2 ⟨V, Ts, rfl, htr⟩
  have HB2 := Lib.hid (HB1.out.trans (htr.below.mono HB1.out.size))
  obtain ⟨X, hX⟩ : ∃ X, Ts = [X] := by
    have := htr.len
    cases Ts with
    | nil => simp at this
    | cons X r => exact ⟨X, by simp at this; simp [this]⟩
  subst hX
  have hlk := htr.like 0 exS X rfl rfl
  have HID : Hid (X.id = 0) := hlk.id
  have HFR : Hid (X.fr = 2) := by have := hlk.fr; show _ = _; simp [exS] at this; omega
  have HNW := Lib.hid (new_of htr (by decide) 0 0 (by constructor <;> decide) (by decide))
  have hpk : pick [X] 0 = some X := by unfold pick; simp [hlk.id, exS]
  have HPK := Lib.hid hpk
  clear htr hlk hpk HT
  go_wp2_with fail
  refine HNW.out.mono ?_
  rintro e w3 ⟨hb3, h3⟩
  obtain ⟨T, q, mb, ck, cu, hT, rfl, he⟩ : ∃ T q mb ck cu, pick [X] 0 = some T ∧ e = .returned (.tuple #[.pointer (some ⟨q, 0, none⟩), .int .i64 0]) ∧ IsE w3 w2.heap.size q mb ck cu [X] T 0 0 0 0 := by
    rcases h3 with ⟨hu, _⟩ | ⟨_, hp, _⟩ | ⟨_, h⟩
    · exact absurd (fun i j Y Z h1 h2 _ _ => by simp at h2; omega) hu
    · rw [HPK.out] at hp; cases hp
    · exact h
  have HB3 := Lib.hid (HB2.out.trans (hb3.mono HB2.out.size))
  have HE3 := Lib.hid he
  obtain rfl : X = T := by rw [HPK.out] at hT; exact Option.some.inj hT
  clear hb3 h3 hT he HNW
  go_wp2_with fail
  refine (etick_any HE3.out).mono ?_
  rintro e w4 (⟨h, _⟩ | ⟨-, -, rfl, he4, ho4⟩ | ⟨_, h, _⟩)
  · omega
  · have HE4 := Lib.hid he4
    have hb := he4.hB
    have HB4 := Lib.hid (HB3.out.trans (ho4.below (B := w.heap.size) (by have := HB2.out.size; omega) (by have := HB2.out.size; omega) (by have := HB2.out.size; omega) HB3.out.size))
    clear he4 ho4 hb
    go_wp2_with fail
    refine (etick_any HE4.out).mono ?_
    rintro e w5 (⟨h, _⟩ | ⟨_, h, _⟩ | ⟨-, -, X', cu', -, rfl, -, he5, ho5⟩)
    · omega
    · have := HFR.out; omega
    · have hb := HE4.out.hB
      have HB5 := Lib.hid (HB4.out.trans (ho5.below (B := w.heap.size) (by have := HB2.out.size; omega) (by have := HB2.out.size; omega) (by have := HB2.out.size; omega) HB4.out.size))
      clear he5 ho5 hb
      go_wp2
      go_ret
      exact ⟨rfl, HB5.out⟩
  · have := HFR.out; omega
end Go.Proofs.YtofcjkfaccdnjaaDoor.Frm
