
/- Cells of a partition: new ones. Condition: at most a thousand cells. -/

import Derived.Test.YtjdgpbjjhgfikaaCelC

namespace Go.Proofs.Ytjdgpbjjhgfikaa.Cel

open Go.RowKit Go.PlainAid Go.Proofs.Ytjdgpbjjhgfikaa.Args

set_option linter.unusedVariables false

set_option linter.unusedSimpArgs false

theorem start_all : ∀ (l : List C2) (m : List Nat), l.length = m.length → startL (fun _ => true) l m = l.map C2.v
  | [], [], _ => rfl
  | x :: l, v :: m, h => by simp only [startL, List.map_cons, if_true]; rw [start_all l m (by simpa using h)]
  | [], _ :: _, h => by simp at h
  | _ :: _, [], h => by simp at h
theorem below_drew {B : Nat} {a w : World} (h : Below B a w) : Below B a w.drew := ⟨h.os, h.tape, h.output, h.size, h.block⟩
theorem made_vs (n : Nat) : (madeCells #[.int .u32 0] n).toList = vs (List.replicate n 0) := by
  rw [toList_madeCells_one]
  simp [vs]
/-- Cells in two new blocks behind the first list's. -/
theorem IsC.made {w3 : World} {B n fc : Nat} {FA : Option Addr} {l : List C2} (hf : w3.ownsRow B 140 2 (.slice FA n fc) n (flatC l)) (hl : l.length = n) (hB : B ≤ w3.heap.size) (hn : n ≤ 1000) :
    IsC ((w3.alloc (.cells (madeCells #[.int .u32 0] n) 40)).alloc (.cells #[.slice FA n fc, .slice (some ⟨w3.heap.size, 0, none⟩) n n, .int .i64 0] 131)) B (w3.heap.size + 1) FA fc l (some ⟨w3.heap.size, 0, none⟩) n (List.replicate n 0) n 0 := by
  have hlt := fun a ha => (own_at hf a ha).2.2
  refine ⟨?_, (hf.alloc _).alloc _, ?_, hl, by simp, by omega, ?_, ?_, ?_⟩
  · have := heap_alloc_new (w3.alloc (.cells (madeCells #[.int .u32 0] n) 40)) (.cells #[.slice FA n fc, .slice (some ⟨w3.heap.size, 0, none⟩) n n, .int .i64 0] 131)
    simpa using this
  · have h := World.ownsRow_lit (base := B) (e := 40) (size := 1) w3 (madeCells #[.int .u32 0] n) n hB (by unfold maxLen; omega) (by rw [size_madeCells]; simp)
    rw [made_vs] at h
    exact h.alloc _
  · intro a ha; obtain rfl := Option.some.inj ha; simp
  · intro a ha; have := hlt a ha; omega
  · intro a b ha hb; obtain rfl := Option.some.inj hb; have := hlt a ha; simp; omega
/-- The numbers' block was there first. -/
theorem IsC.made2 {w w3 : World} {B n fc : Nat} {FA : Option Addr} {l : List C2} (hb : Below (w.heap.size + 1) (w.alloc (.cells (madeCells #[.int .u32 0] n) 40)).drew w3) (hf : w3.ownsRow (w.heap.size + 1) 140 2 (.slice FA n fc) n (flatC l)) (hl : l.length = n) (hB : B ≤ w.heap.size) (hn : n ≤ 1000) :
    IsC (w3.alloc (.cells #[.slice FA n fc, .slice (some ⟨w.heap.size, 0, none⟩) n n, .int .i64 0] 131)) B w3.heap.size FA fc l (some ⟨w.heap.size, 0, none⟩) n (List.replicate n 0) n 0 := by
  have hsz : w.heap.size + 1 ≤ w3.heap.size := by have := hb.size; simpa [World.drew] using this
  have hlt := fun a ha => (own_at hf a ha).2
  refine ⟨heap_alloc_new _ _, ?_, ?_, hl, by simp, by omega, ?_, ?_, ?_⟩
  · refine (World.ownsRow.alloc ?_ _)
    refine ⟨hf.1, ?_⟩
    rcases hf.2 with h | ⟨g, cap, cur, h1, h2, h3⟩
    · exact .inl h
    · exact .inr ⟨g, cap, cur, h1, by omega, h3⟩
  · have h := World.ownsRow_lit (base := B) (e := 40) (size := 1) w (madeCells #[.int .u32 0] n) n hB (by unfold maxLen; omega) (by rw [size_madeCells]; simp)
    rw [made_vs] at h
    have h2 : w3.ownsRow B 40 1 (.slice (some ⟨w.heap.size, 0, none⟩) n n) n (vs (List.replicate n 0)) := by
      refine ⟨h.1, ?_⟩
      rcases h.2 with ⟨h0, _⟩ | ⟨g, cap, cur, h1, h2, h3, h4⟩
      · injection h0 with h5; cases h5
      · refine .inr ⟨g, cap, cur, h1, h2, ?_, h4⟩
        injection h1 with h5
        have h6 := Option.some.inj h5
        injection h6 with h7
        subst h7
        exact (hb.block w.heap.size (by omega)).trans h3
    exact h2.alloc _
  · intro a ha; obtain rfl := Option.some.inj ha; dsimp only; omega
  · intro a ha; have := (hlt a ha).2; omega
  · intro a b ha hb'; obtain rfl := Option.some.inj hb'; have := (hlt a ha).1; dsimp only; omega
def NewPost (l : List C2) (n : Nat) (w : World) (e : Ending) (w' : World) : Prop :=
  ∃ (g : Nat) (FA : Option Addr) (fc : Nat) (A : Option Addr) (c : Nat), e = .returned (.pointer (some ⟨g, 0, none⟩)) ∧ IsC w' w.heap.size g FA fc l A c (l.map C2.v) n 0 ∧ Below w.heap.size w w'
set_option maxRecDepth 4000 in
set_option maxHeartbeats 3200000 in
theorem new_any (A : Option Addr) (cap : Nat) (l : List C2) (n : Nat) (w : World) (hx : CellsAt w A l) (hnil : A = none → cap = 0) (hlc : n ≤ cap) (hln : l.length = n) (hl : n ≤ 1000) :
    Calls Try.prog 75 #[.slice A n cap] w (NewPost l n w) := by
  obtain ⟨i0, hi, hz0, hz1, hz2⟩ := info_parts infoU
  have HC := Lib.hid (fun (W : World) (b : Below w.heap.size w W) => ccells_any A cap l W (hx.kept b) hnil (by omega) (by omega))
  rw [hln] at HC
  have hmk : ∀ W : World, (Instr.makeSlice 47 (.int .i64 (n : Int)) (.int .i64 (n : Int))).run Try.prog W = .ok (.slice (some ⟨W.heap.size, 0, none⟩) n n) (W.alloc (.cells (madeCells #[.int .u32 0] n) 40)) := fun W => by
    have hr := run_make (P := Try.prog) W 47 40 i0 (.int .u32 0) Try.underlying47 hi hz0 .i64 .i64 n n (by omega) (Int.le_refl _) (by rw [hz2]; omega) (by omega)
    rw [hz1] at hr
    simp only [Int.toNat_natCast, Nat.mul_one] at hr
    exact hr
  have HL : Hid (n ≤ 1000) := hl
  have HLN := Lib.hid hln
  clear hx hnil hlc hln hl
  go_enter Try.func75, Try.ntmps75
  go_wp2_with fail
  go_region_held3 (fun wx => True)
    (first | trivial | (go_keep; done))
    (first
      | (go_at_call 87; refine (HC.out _ (by first | exact below_drew (Below.refl _ _) | exact below_drew ((Below.refl _ _).alloc (Nat.le_refl _) _))).mono ?_; rintro e w3 ⟨V, rfl, ho, hb⟩; rw [HLN.out] at ho; obtain ⟨FA, fc, rfl⟩ := own_slice ho; have HO := Lib.hid ho; have HB := Lib.hid hb; clear ho hb))
  · have hb1 : Below w.heap.size w w3 := (below_drew (Below.refl _ _)).trans HB.out
    have hI := IsC.made (B := w.heap.size) HO.out HLN.out hb1.size HL.out
    have hb2 : Below w.heap.size w ((w3.alloc (.cells (madeCells #[.int .u32 0] n) 40)).alloc (.cells #[.slice FA n fc, .slice (some ⟨w3.heap.size, 0, none⟩) n n, .int .i64 0] 131)) := (hb1.alloc hb1.size _).alloc (by have := hb1.size; simp; omega) _
    obtain ⟨W, hW⟩ : ∃ W, (w3.alloc (.cells (madeCells #[.int .u32 0] n) 40)).alloc (.cells #[.slice FA n fc, .slice (some ⟨w3.heap.size, 0, none⟩) n n, .int .i64 0] 131) = W := ⟨_, rfl⟩
    rw [hW] at hI hb2
    rw [hW]
    have HI := Lib.hid hI
    have HB2 := Lib.hid hb2
    have HGE : Hid (w.heap.size ≤ w3.heap.size) := hb1.size
    clear hb1 hI hb2 hW
    go_wp2_with fail
    refine (cold_any _ _ HI.out HL.out).mono ?_
    rintro e w5 ⟨rfl, hc, ht⟩
    have HC5 := Lib.hid hc
    have HB5 := Lib.hid (Two.below HB2.out ht HB2.out.size (by have := HGE.out; omega) (fun a ha => by obtain rfl := Option.some.inj ha; exact HGE.out))
    clear hc ht
    go_wp2
    go_ret
    have hres := HC5.out
    rw [start_all l (List.replicate n 0) (by rw [HLN.out]; simp)] at hres
    exact ⟨_, _, _, _, _, rfl, hres, HB5.out⟩
  · have hb0 : Below w.heap.size w (w.alloc (.cells (madeCells #[.int .u32 0] n) 40)).drew := below_drew ((Below.refl _ _).alloc (Nat.le_refl _) _)
    have hsz : (w.alloc (.cells (madeCells #[.int .u32 0] n) 40)).drew.heap.size = w.heap.size + 1 := by show (w.alloc _).heap.size = _; simp
    have hbb := HB.out
    have hoo := HO.out
    rw [hsz] at hbb hoo
    have hI := IsC.made2 (B := w.heap.size) hbb hoo HLN.out (Nat.le_refl _) HL.out
    have hb1 : Below w.heap.size w w3 := hb0.trans (hbb.mono (by omega))
    have hb2 : Below w.heap.size w (w3.alloc (.cells #[.slice FA n fc, .slice (some ⟨w.heap.size, 0, none⟩) n n, .int .i64 0] 131)) := hb1.alloc hb1.size _
    obtain ⟨W, hW⟩ : ∃ W, (w3.alloc (.cells #[.slice FA n fc, .slice (some ⟨w.heap.size, 0, none⟩) n n, .int .i64 0] 131)) = W := ⟨_, rfl⟩
    rw [hW] at hI hb2
    rw [hW]
    have HI := Lib.hid hI
    have HB2 := Lib.hid hb2
    have HGE : Hid (w.heap.size ≤ w3.heap.size) := hb1.size
    clear hb1 hI hb2 hW hb0 hsz hbb hoo
    go_wp2_with fail
    refine (cold_any _ _ HI.out HL.out).mono ?_
    rintro e w5 ⟨rfl, hc, ht⟩
    have HC5 := Lib.hid hc
    have HB5 := Lib.hid (Two.below HB2.out ht HB2.out.size HGE.out (fun a ha => by obtain rfl := Option.some.inj ha; exact Nat.le_refl _))
    clear hc ht
    go_wp2
    go_ret
    have hres := HC5.out
    rw [start_all l (List.replicate n 0) (by rw [HLN.out]; simp)] at hres
    exact ⟨_, _, _, _, _, rfl, hres, HB5.out⟩
end Go.Proofs.Ytjdgpbjjhgfikaa.Cel
