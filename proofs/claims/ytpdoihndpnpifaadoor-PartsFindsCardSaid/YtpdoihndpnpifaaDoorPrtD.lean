
/- What is wrong first with partitions that are to be put, as the program tells it. Condition: the variables hold what the program lays there. What is wrong first with partitions that are to be put, as the document tells it. No condition. -/

import Derived.Test.YtpdoihndpnpifaaDoorPrtA

import Derived.Test.YtpdoihndpnpifaaDoorHdrC

import Derived.IntWalk

namespace Go.Proofs.YtpdoihndpnpifaaDoor.Prt

open Go.RowKit Go.PlainAid Go.Proofs.YtpdoihndpnpifaaDoor.Oct Go.Proofs.YtpdoihndpnpifaaDoor.Flt Go.Proofs.YtpdoihndpnpifaaDoor.Rdr Go.Proofs.YtpdoihndpnpifaaDoor.Nam

set_option linter.unusedVariables false

set_option linter.unusedSimpArgs false

/-- The first one of which f tells something: what, and its place. -/
def fb {α : Type} (f : List α → α → Nat) (pre : List α) : List α → Nat × Int
  | [] => (0, 0)
  | x :: l => if f pre x = 0 then fb f (pre ++ [x]) l else (f pre x, (pre.length : Int))
theorem fb_step {α : Type} (f : List α → α → Nat) (l : List α) (i : Nat) (x : α) (hx : l[i]? = some x) : fb f (l.take i) (l.drop i) = if f (l.take i) x = 0 then fb f (l.take (i + 1)) (l.drop (i + 1)) else (f (l.take i) x, (i : Int)) := by
  have hi : i < l.length := by
    rcases Nat.lt_or_ge i l.length with h | h
    · exact h
    · rw [List.getElem?_eq_none h] at hx; cases hx
  have hxe : l[i] = x := by rw [List.getElem?_eq_getElem hi] at hx; exact Option.some.inj hx
  have hd : l.drop i = x :: l.drop (i + 1) := by rw [List.drop_eq_getElem_cons hi, hxe]
  have ht : l.take (i + 1) = l.take i ++ [x] := by rw [List.take_succ_eq_append_getElem hi, hxe]
  rw [hd, fb, ht]
  have hl : (l.take i).length = i := by simp; omega
  rw [hl]
theorem fb_end {α : Type} (f : List α → α → Nat) (l : List α) : fb f (l.take l.length) (l.drop l.length) = (0, 0) := by simp [fb]
theorem take_snoc {α : Type} (l : List α) (i : Nat) (x : α) (hx : l[i]? = some x) : l.take (i + 1) = l.take i ++ [x] := by
  have hi : i < l.length := by
    rcases Nat.lt_or_ge i l.length with h | h
    · exact h
    · rw [List.getElem?_eq_none h] at hx; cases hx
  have hxe : l[i] = x := by rw [List.getElem?_eq_getElem hi] at hx; exact Option.some.inj hx
  rw [List.take_succ_eq_append_getElem hi, hxe]
def rg (x : PT) : Nat := rgtP ⟨x.id, x.nm, x.may, none, x.cs.length, 0⟩
def lastP (l : List PT) : Int := (l.getLast?.map PT.id).getD (-1)
theorem lastP_snoc (l : List PT) (x : PT) : lastP (l ++ [x]) = x.id := by simp [lastP]
def b1P (pre : List PT) (x : PT) : Nat := if rg x = 0 then (if x.id ≤ lastP pre then 9 else 0) else rg x
def badP (l : List PT) : Nat × Int := fb b1P [] l
theorem rg_le (x : PT) : rg x ≤ 18 := by unfold rg rgtP; repeat' split
                                         all_goals omega
def sec2 (k : Nat) : Int := if k = 0 then 0 else 2
/-- What the numbers and texts of a partition that came in are like. -/
def WideP (x : PT) : Prop := Hdr.I64 x.id ∧ x.nm.size ≤ maxLen
def WPost (q : Nat × Int) (w : World) (e : Ending) (w' : World) : Prop := ∃ x, e = .returned x ∧ Wrong w' x q.1 (sec2 q.1) q.2 ∧ Below w.heap.size w w'
def WRel (l : List PT) (w : World) (v i : Value) (wr : World) : Prop := ∃ k : Nat, k ≤ l.length ∧ i = .int .i64 k ∧ v = .int .i64 (lastP (l.take k)) ∧ badP l = fb b1P (l.take k) (l.drop k) ∧ Below w.heap.size w wr
set_option maxRecDepth 8000 in
set_option maxHeartbeats 3200000 in
theorem pwrong_any (A : Option Addr) (cap : Nat) (l : List PT) (w : World) (hn : Names w) (h1 : PartsAt w A l) (hw : ∀ x ∈ l, WideP x) (hl : l.length ≤ 1000) :
    Calls Tryd.prog 88 #[.slice A l.length cap] w (WPost (badP l) w) := by
  have HN := Lib.hid hn
  have H1 := Lib.hid h1
  have HW := Lib.hid hw
  obtain ⟨a, ha⟩ : ∃ a, l.length = a := ⟨_, rfl⟩
  have HA := Lib.hid ha
  rw [ha] at hl
  rw [ha]
  obtain ⟨q, hq⟩ : ∃ q, badP l = q := ⟨_, rfl⟩
  have HQ := Lib.hid hq
  rw [hq]
  clear hn h1 hw ha hq
  go_enter Tryd.func88, Tryd.ntmps88
  go_wp2
  go_loopw [3, 9] (fun v i wr => WRel l w v i wr) (fun _ i _ => a - (intOf i).toNat)
  case atStart => exact ⟨0, Nat.zero_le _, rfl, rfl, by simp [badP], Below.refl _ _⟩
  case round =>
    obtain ⟨k, hk, rfl, rfl, hb, hbel⟩ := hrel
    have HB := Lib.hid hb
    have HE := Lib.hid hbel
    have hka : k ≤ a := by rw [← HA.out]; exact hk
    clear hb hk hbel
    by_cases hlt : k < a
    · obtain ⟨x, hx⟩ : ∃ x, l[k]? = some x := ⟨_, List.getElem?_eq_getElem (by rw [HA.out]; exact hlt)⟩
      obtain ⟨ax, B, c, rfl, c1, c2, c3, c4, c5, _, c6, c7⟩ := (H1.out.kept HE.out) k x hx
      have hwx := HW.out x (List.mem_of_getElem? hx)
      have HR : Hid (∀ w, Calls Tryd.prog 14 #[.agg #[.int .i64 x.id, .string x.nm, .bool x.may, .slice B x.cs.length c]] w fun e w' => e = .returned (.int .i64 (rg x)) ∧ Below w.heap.size w w') := fun w => pright_any ⟨x.id, x.nm, x.may, B, x.cs.length, c⟩ hwx.1 hwx.2 w
      have HS := Lib.hid ((HB.out.symm.trans HQ.out).symm.trans (fb_step b1P l k x hx))
      have HT : Hid (lastP (l.take (k + 1)) = x.id) := by show _ = _; rw [take_snoc l k x hx, lastP_snoc]
      have HRL := Lib.hid (rg_le x)
      have HF1 : Hid (b1P (l.take k) x = if rg x = 0 then (if x.id ≤ lastP (l.take k) then 9 else 0) else rg x) := rfl
      obtain ⟨R, hR⟩ : ∃ R, rg x = R := ⟨_, rfl⟩
      obtain ⟨LA, hLA⟩ : ∃ LA, lastP (l.take k) = LA := ⟨_, rfl⟩
      rw [hR] at HR HRL HF1
      rw [hLA] at HF1
      rw [hLA]
      obtain ⟨id, nm, may, cs⟩ := x
      dsimp only at c1 c2 c3 c4 HR HF1 HT
      obtain ⟨L1, hL1⟩ : ∃ L1, cs.length = L1 := ⟨_, rfl⟩
      rw [hL1] at c4 HR
      have hki : (0 : Int) ≤ k := by omega
      have hkb : (k : Int) < a := by omega
      clear hx c5 c6 c7 hwx hL1 hR hLA
      have HBA : Hid (∀ o, Below w.heap.size w (wr.alloc o)) := fun o => HE.out.alloc HE.out.size o
      by_cases hr0 : R = 0
      · subst hr0
        by_cases hid : id ≤ LA
        · have t2 : decide (id ≤ LA) = true := decide_eq_true hid
          have HQ2 : Hid (q = (9, (k : Int))) := by
            show _ = _
            have h := HS.out
            rw [HF1.out, if_pos rfl, if_pos hid] at h
            exact h
          obtain rfl := HQ2.out
          clear hid HS HF1 HT HQ2 HQ
          go_wp2_with (first
            | (go_at_call 14; refine (HR.out _).mono ?_; rintro e w2 ⟨rfl, hb2⟩; have HB2 := Lib.hid ((HBA.out _).trans (hb2.mono (HBA.out _).size)); have hcid := (hb2.cell (p := ⟨wr.heap.size, 0, none⟩) (by simp)); simp at hcid; clear hb2)
            | (go_at_call 96; refine (new_yes 9 (by omega) (by omega) _ (HN.out.kept HB2.out)).mono ?_; rintro e w' ⟨rfl, rfl⟩)
            | (go_at_call 95; refine (at_any (k : Int) _ [] 9 _ rfl).mono ?_; rintro e w3 ⟨y, rfl, hy, hb3⟩; have HY := Lib.hid hy; have HB3 := Lib.hid (HB2.out.trans (hb3.mono HB2.out.size)); clear hy hb3)
            | (go_at_call 94; refine (in_any 2 _ _ 9 _ HY.out).mono ?_; rintro e w4 ⟨z, rfl, hz, hb4⟩; have HZ := Lib.hid hz; have HB4 := Lib.hid (HB3.out.trans (hb4.mono HB3.out.size)); clear hz hb4))
          go_ret
          exact ⟨z, rfl, .inr ⟨by omega, by omega, HZ.out⟩, HB4.out⟩
        · have t2 : decide (id ≤ LA) = false := decide_eq_false hid
          have HQ2 : Hid (q = fb b1P (l.take (k + 1)) (l.drop (k + 1))) := by
            show _ = _
            have h := HS.out
            rw [HF1.out, if_pos rfl, if_neg hid, if_pos rfl] at h
            exact h
          clear hid HS HF1
          go_wp2_with (go_at_call 14; refine (HR.out _).mono ?_; rintro e w2 ⟨rfl, hb2⟩; have HB2 := Lib.hid ((HBA.out _).trans (hb2.mono (HBA.out _).size)); have hcid := (hb2.cell (p := ⟨wr.heap.size, 0, none⟩) (by simp)); simp at hcid; clear hb2)
          go_roundw
          case rel => exact ⟨k + 1, by rw [HA.out]; omega, by go_num, by rw [HT.out], HQ.out.trans HQ2.out, HB2.out⟩
          case measure => simp [intOf]; omega
      · have t1 : ((R : Int) == 0) = false := by simp; omega
        have t2 : ((R : Int) != 0) = true := by simp; omega
        have HQ2 : Hid (q = (R, (k : Int))) := by
          show _ = _
          have h := HS.out
          rw [HF1.out, if_neg hr0, if_neg hr0] at h
          exact h
        obtain rfl := HQ2.out
        have HR1 : Hid (1 ≤ R ∧ R ≤ 18) := ⟨by omega, HRL.out⟩
        clear hr0 HS HF1 HT HQ2 HQ
        go_wp2_with (first
          | (go_at_call 14; refine (HR.out _).mono ?_; rintro e w2 ⟨rfl, hb2⟩; have HB2 := Lib.hid ((HBA.out _).trans (hb2.mono (HBA.out _).size)); have hcid := (hb2.cell (p := ⟨wr.heap.size, 0, none⟩) (by simp)); simp at hcid; clear hb2)
          | (go_at_call 96; refine (new_yes R HR1.out.1 HR1.out.2 _ (HN.out.kept HB2.out)).mono ?_; rintro e w' ⟨rfl, rfl⟩)
          | (go_at_call 95; refine (at_any (k : Int) _ [] R _ rfl).mono ?_; rintro e w3 ⟨y, rfl, hy, hb3⟩; have HY := Lib.hid hy; have HB3 := Lib.hid (HB2.out.trans (hb3.mono HB2.out.size)); clear hy hb3)
          | (go_at_call 94; refine (in_any 2 _ _ R _ HY.out).mono ?_; rintro e w4 ⟨z, rfl, hz, hb4⟩; have HZ := Lib.hid hz; have HB4 := Lib.hid (HB3.out.trans (hb4.mono HB3.out.size)); clear hz hb4))
        go_ret
        exact ⟨z, rfl, .inr ⟨HR1.out.1, HR1.out.2, by have h := HZ.out; have e : sec2 R = 2 := (by unfold sec2; rw [if_neg (by have := HR1.out.1; omega)]); rw [e]; exact h⟩, HB4.out⟩
    · obtain rfl : k = a := by omega
      have HQ2 : Hid (q = (0, 0)) := by
        show _ = _
        have h := HQ.out.symm.trans HB.out
        rw [← HA.out, fb_end] at h
        exact h
      obtain rfl := HQ2.out
      clear HQ2 HQ HB
      go_wp2
      go_ret
      exact ⟨.nilIface, rfl, .inl ⟨rfl, rfl, rfl, rfl⟩, HE.out⟩
end Go.Proofs.YtpdoihndpnpifaaDoor.Prt

namespace Go.Proofs.YtpdoihndpnpifaaDoor.Prt

open Go.RowKit Go.PlainAid Go.Proofs.YtpdoihndpnpifaaDoor.Oct Go.Proofs.YtpdoihndpnpifaaDoor.Flt Go.Proofs.YtpdoihndpnpifaaDoor.Rdr Go.Proofs.YtpdoihndpnpifaaDoor.Nam

open Go.Proofs.YtpdoihndpnpifaaDoor.Hdr (below_set2)

set_option linter.unusedVariables false

set_option linter.unusedSimpArgs false

def ERel (l : List PT) (w : World) (i : Value) (wr : World) : Prop :=
  ∃ k : Nat, k ≤ l.length ∧ i = .int .i64 k ∧ badP l = fb b1P (l.take k) (l.drop k) ∧ wr.heap[w.heap.size]? = some (.cells #[.int .i64 0, .int .i64 0, .int .i64 0] 49 (0, 0)) ∧ Below w.heap.size w wr
theorem below_drewN {B : Nat} {a w : World} (h : Below B a w) (n : Nat) : Below B a (w.drewN n) := ⟨h.os, h.tape, h.output, h.size, h.block⟩
theorem rg_id {x : PT} (h : rg x = 0) : 0 ≤ x.id := by
  unfold rg rgtP at h
  split at h
  · cases h
  · rename_i h1
    simp at h1
    omega
end Go.Proofs.YtpdoihndpnpifaaDoor.Prt
