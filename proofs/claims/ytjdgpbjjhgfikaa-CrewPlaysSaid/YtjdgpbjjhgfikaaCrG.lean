
/- A crew's shots. Condition: at most a thousand partitions of a thousand cells each. -/

import Derived.Test.YtjdgpbjjhgfikaaCrF

namespace Go.Proofs.Ytjdgpbjjhgfikaa.Crw

open Go.RowKit Go.PlainAid Go.Proofs.Ytjdgpbjjhgfikaa.Args Go.Proofs.Ytjdgpbjjhgfikaa.Cel Go.Proofs.Ytjdgpbjjhgfikaa.Pt Go.Proofs.Ytjdgpbjjhgfikaa.Mpv

set_option linter.unusedVariables false

set_option linter.unusedSimpArgs false

def shB (p : CP) (V : Option Addr) (vc : Nat) : List Value := [.int .i64 p.s.id, .int .i64 p.m, .int .i64 p.st, .int .i64 p.ca, .slice V p.s.n vc]
def zSh : List Value := [.int .i64 0, .int .i64 0, .int .i64 0, .int .i64 0, .slice none 0 0]
/-- The first k partitions' shots, their numbers from block N on. -/
def ShD (w : World) (N : Nat) (L : List CP) (D : List (List Value)) : Prop :=
  (∀ x ∈ D, x.length = 5) ∧ ∀ (i : Nat) (b : List Value), D[i]? = some b → ∃ p V vc, L[i]? = some p ∧ b = shB p V vc ∧ NumsAt w V p.ns ∧ ∀ y, V = some y → N ≤ y.block
theorem nums_block {w w' : World} {V : Option Addr} {l : List Nat} (h : NumsAt w V l) (hb : ∀ y, V = some y → w'.heap[y.block]? = w.heap[y.block]?) : NumsAt w' V l := by
  intro i v hi
  obtain ⟨y, e, hc⟩ := h i v hi
  have e2 : (y.add i).block = y.block := by cases i <;> simp [Addr.add]
  exact ⟨y, e, (cell_same (w := w) (w' := w') (a := y.add i) (by rw [e2]; exact hb y e)).trans hc⟩
theorem ShD.keep {w w' : World} {N : Nat} {L : List CP} {D : List (List Value)} (h : ShD w N L D) (b : Below w.heap.size w w') : ShD w' N L D :=
  ⟨h.1, fun i x hx => by obtain ⟨p, V, vc, h1, h2, h3, h4⟩ := h.2 i x hx; exact ⟨p, V, vc, h1, h2, h3.kept b, h4⟩⟩
theorem ShD.apart {w w' : World} {N lo hi : Nat} {L : List CP} {D : List (List Value)} (h : ShD w N L D) (r : Rng lo hi w w') (ho : hi ≤ N) : ShD w' N L D :=
  ⟨h.1, fun i x hx => by
    obtain ⟨p, V, vc, h1, h2, h3, h4⟩ := h.2 i x hx
    refine ⟨p, V, vc, h1, h2, ?_, h4⟩
    intro j v hj
    obtain ⟨y, e, hc⟩ := h3 j v hj
    have e2 : (y.add j).block = y.block := by cases j <;> simp [Addr.add]
    have hl : y.block < w.heap.size := by rw [← e2]; exact Go.block_lt_of_cell hc
    exact ⟨y, e, (cell_same (w := w) (w' := w') (a := y.add j) (by rw [e2]; exact r.block _ hl (.inr (by have := h4 y e; omega)))).trans hc⟩⟩
theorem ShD.pr {w w' : World} {N : Nat} {L M : List CP} {D : List (List Value)} (h : ShD w N L D) (r : PR M w w') (ho : ∀ p ∈ M, p.hi ≤ N) : ShD w' N L D :=
  ⟨h.1, fun i x hx => by
    obtain ⟨p, V, vc, h1, h2, h3, h4⟩ := h.2 i x hx
    refine ⟨p, V, vc, h1, h2, ?_, h4⟩
    intro j v hj
    obtain ⟨y, e, hc⟩ := h3 j v hj
    have e2 : (y.add j).block = y.block := by cases j <;> simp [Addr.add]
    exact ⟨y, e, r.cell hc (fun q hq => by rw [e2]; right; have := ho q hq; have := h4 y e; omega)⟩⟩
theorem infoShot : (Try.prog.info? 79).map (fun i => (i.zero, i.size, i.bytes)) = some (some (.agg #[.int .i64 0, .int .i64 0, .int .i64 0, .int .i64 0, .slice none 0 0]), 5, 56) := by kernel_rfl
def ShPost (L : List CP) (n : Nat) (w : World) (e : Ending) (w' : World) : Prop :=
  ∃ R D, e = .returned (.slice (some ⟨R, 0, none⟩) n n) ∧ w.heap.size ≤ R ∧ BR R 79 D w' ∧ D.length = n ∧ ShD w' w.heap.size L D ∧ Below w.heap.size w w'
def ShRel (L : List CP) (n R : Nat) (w : World) (i : Value) (W : World) : Prop :=
  ∃ (k : Nat) (D : List (List Value)), k ≤ n ∧ i = .int .i64 (k : Int) ∧ D.length = k ∧ BR R 79 (fillB D n zSh) W ∧ ShD W (R + 1) L D ∧ Below w.heap.size w W
section

variable {w : World} {B g mb : Nat} {V : Value} {L : List CP}
attribute [-go_sem] storeVar
set_option maxRecDepth 8000 in
set_option maxHeartbeats 3200000 in
theorem asked_shot (h : IsW w B g mb V L) (hL : L.length ≤ 1000) :
    Calls Try.prog 47 #[.pointer (some ⟨g, 0, none⟩), .func (.func 48) #[] #[]] w (ShPost L L.length w) := by
  obtain ⟨i0, hi0, hz0, hz1, hz2⟩ := info_parts infoShot
  obtain ⟨n, hn⟩ : ∃ n, L.length = n := ⟨_, rfl⟩
  obtain ⟨IDA, cv, rfl, hia⟩ := h.ids
  rw [hn] at h ⊢
  have HN := Lib.hid hn
  have HH := Lib.hid h
  have HNL : Hid (n ≤ 1000) := by show _ ≤ _; omega
  have c0 := h.c0
  have c1 := h.c1
  unfold ShPost
  clear h hL hia hn
  go_enter Try.func47, Try.ntmps47
  go_wp2_with (first | (at_make; refine wpList_make_blk _ rfl _ _ 73 rfl 79 i0 (.agg #[.int .i64 0, .int .i64 0, .int .i64 0, .int .i64 0, .slice none 0 0]) 5 Try.underlying73 hi0 hz0 hz1 (by decide) rfl _ _ _ _ n rfl rfl ?e1 ?e2 ?e3 ?e4 ?_) | fail)
  case e1 => rfl
  case e2 => rfl
  case e3 => have := HNL.out; rw [hz2]; omega
  case e4 => have := HNL.out; omega
  intro w1 hbr1 hb1
  have HS0 : Hid (ShRel L n w.heap.size w (.int .i64 0) w1) := by
    refine ⟨0, [], Nat.zero_le _, rfl, rfl, ?_, ⟨fun x hx => by simp at hx, fun i b hb => by simp at hb⟩, hb1⟩
    have h := hbr1.out
    simpa [fillB, zSh] using h
  have d1 := (HH.out.keep hb1).c1
  clear hbr1 hb1 c0 c1
  obtain ⟨G, hG⟩ : ∃ G, w.heap.size = G := ⟨_, rfl⟩
  have HGG := Lib.hid hG
  rw [hG] at HS0
  rw [hG]
  clear hG
  go_wp2_with fail
  go_loopw [19] (fun i W => ShRel L n G w i W) (fun i _ => n - (intOf i).toNat)
  case atStart => exact HS0.out
  case round =>
    rename World => W
    obtain ⟨k, D, hk, rfl, hDl, hbr, hsd, hb⟩ := hrel
    have HDL := Lib.hid hDl
    have HBR := Lib.hid hbr
    have HSD := Lib.hid hsd
    have HB := Lib.hid hb
    clear hDl hbr hsd hb HS0 d1
    by_cases hlt : k < n
    · obtain ⟨p, hp⟩ : ∃ p, L[k]? = some p := ⟨_, List.getElem?_eq_getElem (by rw [HN.out]; exact hlt)⟩
      have HP := Lib.hid hp
      have hiw := HH.out.keep HB.out
      have hlk := hiw.look hp
      obtain ⟨y, cv', hv, hid⟩ := hiw.id hp
      injection hv with hv1 hv2 hv3
      subst hv1
      have c0 := hiw.c0
      have hkb : (k : Int) < n := by omega
      have hki : (0 : Int) ≤ k := by omega
      have HK1 : Hid (IntKind.i64.wrap ((k : Int) + 1) = (k : Int) + 1) := IntWalk.i64_in _ (by have := HNL.out; omega)
      have hpt := hiw.pt p (List.mem_of_getElem? hp)
      have HSH := Lib.hid (shot_any hpt.1 hpt.2.2.2.2.2.2)
      have HLT := Lib.hid hlt
      have HGW := Lib.hid (lt_of_block HBR.out)
      clear hp hiw hv2 hv3 hpt hlt hk
      go_wp2_with fail
      refine HSH.out.mono ?_
      rintro e W2 ⟨V', vc, rfl, ho, hb2⟩
      have hnums := (own_nums ho (by have := ho.1; rw [Nat.mul_one] at this; unfold vs at this; rw [List.length_map] at this; exact this)).1
      have hvb : ∀ y, V' = some y → G + 1 ≤ y.block := fun y hy => by
        have h1 := own_at ho y hy
        have := HGW.out
        omega
      have hbr2 := HBR.out.keep hb2
      have hall : ∀ x ∈ fillB D n zSh, x.length = 5 := fill_all HSD.out.1 rfl
      have hst := hbr2.store (ty := 79) 5 hall #[.int .i64 p.s.id, .int .i64 p.m, .int .i64 p.st, .int .i64 p.ca, .slice V' p.s.n vc] rfl (by kernel_rfl) (by simp [Value.oneCell']) (i := k) (by rw [fill_len _ _ _ (by rw [HDL.out]; exact Nat.le_of_lt HLT.out)]; exact HLT.out)
      have he : (fillB D n zSh).set k [.int .i64 p.s.id, .int .i64 p.m, .int .i64 p.st, .int .i64 p.ca, .slice V' p.s.n vc] = fillB (D ++ [shB p V' vc]) n zSh := by
        have h1 := fill_set D n zSh (shB p V' vc) (by rw [HDL.out]; exact HLT.out)
        rw [HDL.out] at h1
        exact h1
      simp only [List.toList_toArray] at hst
      rw [he] at hst
      have hrs := rng_setRow W2 G (fillB (D ++ [shB p V' vc]) n zSh).flatten.toArray
      have hsd2 : ShD W2 (G + 1) L (D ++ [shB p V' vc]) := by
        refine ⟨fun x hx => ?_, fun i b hib => ?_⟩
        · rcases List.mem_append.1 hx with hx | hx
          · exact HSD.out.1 x hx
          · obtain rfl := List.mem_singleton.1 hx; rfl
        · rcases Nat.lt_or_ge i D.length with hi | hi
          · rw [List.getElem?_append_left hi] at hib
            exact (HSD.out.keep hb2).2 i b hib
          · rw [List.getElem?_append_right hi] at hib
            have hi0 : i - D.length = 0 := by
              rcases Nat.eq_zero_or_pos (i - D.length) with h0 | h0
              · exact h0
              · rw [List.getElem?_eq_none (by simp; omega)] at hib; cases hib
            rw [hi0] at hib
            obtain rfl : shB p V' vc = b := by simpa using hib
            exact ⟨p, V', vc, by rw [show i = k by have := HDL.out; omega]; exact HP.out, rfl, hnums, hvb⟩
      have HW3 : Hid (BR G 79 (fillB (D ++ [shB p V' vc]) n zSh) (W2.setRow G (fillB (D ++ [shB p V' vc]) n zSh).flatten.toArray) ∧ ShD (W2.setRow G (fillB (D ++ [shB p V' vc]) n zSh).flatten.toArray) (G + 1) L (D ++ [shB p V' vc]) ∧ Below w.heap.size w (W2.setRow G (fillB (D ++ [shB p V' vc]) n zSh).flatten.toArray)) :=
        ⟨hbr2.set _, hsd2.apart hrs (Nat.le_refl _), Rng.below (HB.out.trans (hb2.mono HB.out.size)) hrs (Nat.le_trans HB.out.size hb2.size) (Nat.le_of_eq HGG.out)⟩
      obtain ⟨W3, hW3⟩ : ∃ W', W2.setRow G (fillB (D ++ [shB p V' vc]) n zSh).flatten.toArray = W' := ⟨_, rfl⟩
      rw [hW3] at HW3 hst
      have hk1 := HK1.out
      clear ho hb2 hnums hvb hbr2 hall he hrs hsd2 hW3 hlk hid c0 HBR HSD HB HSH HGW
      go_wp2
      go_roundw
      case rel => exact ⟨k + 1, D ++ [shB p V' vc], HLT.out, by go_num, by rw [List.length_append, HDL.out]; rfl, HW3.out.1, HW3.out.2.1, HW3.out.2.2⟩
      case measure => have := HLT.out; simp [intOf]; omega
    · obtain rfl : k = n := by omega
      have hbr : BR G 79 D W := by
        have := HBR.out
        unfold fillB at this
        rw [HDL.out, Nat.sub_self, List.replicate_zero, List.append_nil] at this
        exact this
      have HBF := Lib.hid hbr
      have hsd : ShD W w.heap.size L D := ⟨HSD.out.1, fun i b hb => by obtain ⟨p, V, vc, h1, h2, h3, h4⟩ := HSD.out.2 i b hb; exact ⟨p, V, vc, h1, h2, h3, fun y hy => by have := h4 y hy; have := HGG.out; omega⟩⟩
      have HSF := Lib.hid hsd
      clear hbr hsd hlt hk
      go_wp2
      go_ret
      exact ⟨G, D, rfl, by rw [HGG.out]; exact Nat.le_refl _, HBF.out, HDL.out, HSF.out, HB.out⟩
set_option maxRecDepth 4000 in
theorem shots_any (h : IsW w B g mb V L) (hL : L.length ≤ 1000) :
    Calls Try.prog 23 #[.pointer (some ⟨g, 0, none⟩)] w (ShPost L L.length w) := by
  have HA := Lib.hid (asked_shot h hL)
  clear h hL
  go_enter Try.func23, Try.ntmps23
  go_wp2_with fail
  refine HA.out.mono ?_
  rintro e w2 ⟨R, D, rfl, h⟩
  have H := Lib.hid h
  clear h HA
  go_wp2
  go_ret
  exact ⟨R, D, rfl, H.out⟩
end

end Go.Proofs.Ytjdgpbjjhgfikaa.Crw
