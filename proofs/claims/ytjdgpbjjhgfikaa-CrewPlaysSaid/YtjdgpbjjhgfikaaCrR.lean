
/- Shots of a crew beside the document's crew (law 22's Unlike). Condition: at most a thousand partitions of a thousand cells each. -/

import Derived.Test.YtjdgpbjjhgfikaaCrP

import Derived.Test.YtjdgpbjjhgfikaaPtF

namespace Go.Proofs.Ytjdgpbjjhgfikaa.Crw

open Go.RowKit Go.PlainAid Go.Proofs.Ytjdgpbjjhgfikaa.Args Go.Proofs.Ytjdgpbjjhgfikaa.Cel Go.Proofs.Ytjdgpbjjhgfikaa.Pt Go.Proofs.Ytjdgpbjjhgfikaa.Mpv

set_option linter.unusedVariables false

set_option linter.unusedSimpArgs false

/-- The cells of a shot and of the document's partition, at one place of their rows. -/
def S15 (R g k : Nat) (s : PK) (m st ca : Int) (V : Option Addr) (vc : Nat) (r : RX) (w : World) : Prop :=
  (w.cell? ⟨R, k * 5, none⟩ = some (.int .i64 s.id) ∧ w.cell? ⟨R, k * 5 + 1, none⟩ = some (.int .i64 m) ∧ w.cell? ⟨R, k * 5 + 2, none⟩ = some (.int .i64 st) ∧ w.cell? ⟨R, k * 5 + 3, none⟩ = some (.int .i64 ca) ∧ w.cell? ⟨R, k * 5 + 4, none⟩ = some (.slice V s.n vc)) ∧
  w.cell? ⟨g, k * 10, none⟩ = some (.int .i64 r.s.id) ∧ w.cell? ⟨g, k * 10 + 1, none⟩ = some (.string r.s.nm) ∧ w.cell? ⟨g, k * 10 + 2, none⟩ = some (.bool r.s.may) ∧ w.cell? ⟨g, k * 10 + 3, none⟩ = some (.slice r.B r.s.n r.bc) ∧ w.cell? ⟨g, k * 10 + 4, none⟩ = some (.int .i64 r.m) ∧ w.cell? ⟨g, k * 10 + 5, none⟩ = some (.int .i64 r.st) ∧ w.cell? ⟨g, k * 10 + 6, none⟩ = some (.int .i64 r.ca) ∧ w.cell? ⟨g, k * 10 + 7, none⟩ = some (.slice r.B r.s.n r.bc) ∧ w.cell? ⟨g, k * 10 + 8, none⟩ = some (.slice r.N r.s.n r.nc) ∧ w.cell? ⟨g, k * 10 + 9, none⟩ = some (.int .i64 r.wr)
def UnRel (n : Nat) (w : World) (i : Value) (W : World) : Prop := ∃ k : Nat, k ≤ n ∧ i = .int .i64 (k : Int) ∧ Below w.heap.size w W
set_option maxRecDepth 8000 in
set_option maxHeartbeats 3200000 in
theorem unlike22_any {w : World} {B N R c : Nat} {V : Value} {L : List CP} {D : List (List Value)} {out : List RX} (hs : ShD w N L D) (hb : BR R 79 D w) (hl : D.length = L.length) (hr : RRow w B V out) (hq : out.map RX.q = L.map CP.q) (hL : L.length ≤ 1000) :
    Calls Try.prog 22 #[.slice (some ⟨R, 0, none⟩) L.length c, V] w fun e w' => e = .returned (.string ⟨#[]⟩) ∧ Below w.heap.size w w' := by
  obtain ⟨A, cO, rfl⟩ := own_slice hr.1
  have hol : out.length = L.length := by have := congrArg List.length hq; rw [List.length_map, List.length_map] at this; exact this
  have HOL := Lib.hid hol
  rw [hol]
  obtain ⟨n, hn⟩ : ∃ n, L.length = n := ⟨_, rfl⟩
  have HS := Lib.hid hs
  have HB := Lib.hid hb
  have HDL := Lib.hid hl
  have HR := Lib.hid hr
  have HQ := Lib.hid hq
  have HN := Lib.hid hn
  have HL : Hid (n ≤ 1000) := by show _ ≤ _; omega
  have t0 : ((n : Int) != (n : Int)) = false := by simp
  rw [hn]
  clear hs hb hl hr hq hL hol hn
  go_enter Try.func22, Try.ntmps22
  go_wp2_with fail
  go_loopw [13] (fun i W => UnRel n w i W) (fun i _ => n - (intOf i).toNat)
  case atStart => exact ⟨0, Nat.zero_le _, rfl, Below.refl _ _⟩
  case round =>
    rename World => W
    obtain ⟨k, hk, rfl, hbw⟩ := hrel
    have HBW := Lib.hid hbw
    clear hbw
    by_cases hlt : k < n
    · obtain ⟨p, hp⟩ : ∃ p, L[k]? = some p := ⟨_, List.getElem?_eq_getElem (by rw [HN.out]; exact hlt)⟩
      obtain ⟨r, hr⟩ : ∃ r, out[k]? = some r := ⟨_, List.getElem?_eq_getElem (by rw [HOL.out, HN.out]; exact hlt)⟩
      obtain ⟨b, hbk⟩ : ∃ b, D[k]? = some b := ⟨_, List.getElem?_eq_getElem (by rw [HDL.out, HN.out]; exact hlt)⟩
      have hrq : r.q = p.q := by
        have h1 : (out.map RX.q)[k]? = some r.q := by rw [List.getElem?_map, hr]; rfl
        rw [HQ.out, List.getElem?_map, hp] at h1
        exact (Option.some.inj h1).symm
      have q1 : p.s = r.s := (congrArg QS.s hrq).symm
      have q2 : p.m = r.m := (congrArg QS.m hrq).symm
      have q3 : p.st = r.st := (congrArg QS.st hrq).symm
      have q4 : p.ca = r.ca := (congrArg QS.ca hrq).symm
      have q5 : p.ns = r.ns := (congrArg QS.ns hrq).symm
      obtain ⟨p', V', vc, h1, h2, h3, -⟩ := (HS.out.keep HBW.out).2 k b hbk
      rw [hp] at h1
      obtain rfl := Option.some.inj h1
      have hrok := (HR.out.keep HBW.out).2 r (List.mem_of_getElem? hr)
      have HKS : Hid (∀ W', Below W.heap.size W W' → S15 R (match A with | some a => a.block | none => 0) k p.s p.m p.st p.ca V' vc r W') := fun W' bb => by
        have hbr := HB.out.keep (HBW.out.trans (bb.mono HBW.out.size))
        have hcl : ∀ j v, b[j]? = some v → W'.cell? ⟨R, k * 5 + j, none⟩ = some v := fun j v hj => hbr.cell 5 HS.out.1 hbk hj
        obtain ⟨gg, cc, hv, hc⟩ := (HR.out.keep (HBW.out.trans (bb.mono HBW.out.size))).cells hr
        injection hv with hv1 _ _
        subst hv1
        subst h2
        exact ⟨⟨hcl 0 _ rfl, hcl 1 _ rfl, hcl 2 _ rfl, hcl 3 _ rfl, hcl 4 _ rfl⟩, hc 0 (by omega), hc 1 (by omega), hc 2 (by omega), hc 3 (by omega), hc 4 (by omega), hc 5 (by omega), hc 6 (by omega), hc 7 (by omega), hc 8 (by omega), hc 9 (by omega)⟩
      obtain ⟨gg, cc, hv, -⟩ := (HR.out.keep HBW.out).cells hr
      injection hv with hv1 hv2 hv3
      subst hv1
      clear hv2 hv3
      dsimp only at HKS
      rw [q5] at h3
      have HUN := Lib.hid (unlike_no (s := r.s) (a := r.B) (cap := r.bc) (N := r.N) (V := V') (nc := r.nc) (vc := vc) (m := r.m) (st := r.st) (ca := r.ca) (ns := r.ns) (wr := r.wr) W.drew (h3.drewN 1) (hrok.1.drewN 1) hrok.2.1 hrok.2.2.2.2)
      rw [q1, q2, q3, q4] at HKS
      have HDW : Hid (Below W.heap.size W W.drew) := ⟨rfl, rfl, rfl, Nat.le_refl _, fun _ _ => rfl⟩
      have HK0 := Lib.hid (HKS.out _ HDW.out)
      unfold S15 at HK0 HKS
      obtain ⟨⟨f0, f1, f2, f3, f4⟩, g0, g1, g2, g3, g4, g5, g6, g7, g8, g9⟩ := HK0.out
      have HLT := Lib.hid hlt
      have hkb : (k : Int) < n := by omega
      have hki : (0 : Int) ≤ k := by omega
      have hk1 : IntKind.i64.wrap ((k : Int) + 1) = (k : Int) + 1 := IntWalk.i64_in _ (by have := HL.out; omega)
      clear hp hr hbk hrq q1 q2 q3 q4 q5 h2 h3 hrok hlt hk
      go_upto_region 6 with fail
      go_region_held3 (fun w => (w.cell? ⟨R, k * 5, none⟩ = some (.int .i64 r.s.id) ∧ w.cell? ⟨R, k * 5 + 1, none⟩ = some (.int .i64 r.m) ∧ w.cell? ⟨R, k * 5 + 2, none⟩ = some (.int .i64 r.st) ∧ w.cell? ⟨R, k * 5 + 3, none⟩ = some (.int .i64 r.ca) ∧ w.cell? ⟨R, k * 5 + 4, none⟩ = some (.slice V' r.s.n vc)) ∧ w.cell? ⟨gg, k * 10, none⟩ = some (.int .i64 r.s.id) ∧ w.cell? ⟨gg, k * 10 + 1, none⟩ = some (.string r.s.nm) ∧ w.cell? ⟨gg, k * 10 + 2, none⟩ = some (.bool r.s.may) ∧ w.cell? ⟨gg, k * 10 + 3, none⟩ = some (.slice r.B r.s.n r.bc) ∧ w.cell? ⟨gg, k * 10 + 4, none⟩ = some (.int .i64 r.m) ∧ w.cell? ⟨gg, k * 10 + 5, none⟩ = some (.int .i64 r.st) ∧ w.cell? ⟨gg, k * 10 + 6, none⟩ = some (.int .i64 r.ca) ∧ w.cell? ⟨gg, k * 10 + 7, none⟩ = some (.slice r.B r.s.n r.bc) ∧ w.cell? ⟨gg, k * 10 + 8, none⟩ = some (.slice r.N r.s.n r.nc) ∧ w.cell? ⟨gg, k * 10 + 9, none⟩ = some (.int .i64 r.wr))
        (first | exact HKP.out | exact HK0.out | (go_keep; done))
        (first
          | (go_at_call 46; refine HUN.out.mono ?_; rintro e W2 ⟨rfl, hb2⟩; have HB2 := Lib.hid (HDW.out.trans hb2); have HKP := Lib.hid (HKS.out W2 HB2.out); clear hb2))
      all_goals
        clear HKP HK0 HKS f0 f1 f2 f3 f4 g0 g1 g2 g3 g4 g5 g6 g7 g8 g9
        go_wp2
        go_roundw
        case rel => exact ⟨k + 1, HLT.out, by go_num, HBW.out.trans (HB2.out.mono HBW.out.size)⟩
        case measure => have := HLT.out; simp [intOf]; omega
    · obtain rfl : n = k := by omega
      clear hlt hk
      go_wp2
      go_ret
      exact ⟨rfl, HBW.out⟩
end Go.Proofs.Ytjdgpbjjhgfikaa.Crw
