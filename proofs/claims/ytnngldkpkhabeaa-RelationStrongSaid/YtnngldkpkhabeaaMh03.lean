/- How many pairs lead from an id to another one: the document's walks, the program's search in breadth. Condition: at most 20 pairs. How many pairs lead from an id to another one: the program's search in breadth (package relation's Steps). Condition: at most 20 pairs. Two rows of numbers side by side; rows of numbers that are one (SameInts). No condition but that there are at most a million. -/
import Derived.Test.YtnngldkpkhabeaaMh02
namespace Go.Proofs.Ytnngldkpkhabeaa.Rel

open Go.RowKit Go.PlainAid Go.Proofs.Ytnngldkpkhabeaa.Args Go.Proofs.Ytnngldkpkhabeaa.Win

open Go.Proofs.Ytnngldkpkhabeaa.Pai (P2 PairsAt Wide own_keepP own_some below_drewN Now Wlk Dist Min BF sub_len doc_dist box_kept boolsF bools_snoc row_just row_no_map just_of_grown map_off wlk_zero wlk_succ min_len)

open Go.Proofs.Ytnngldkpkhabeaa.Mpv (MapV map_made wpList_look wpList_upd)

set_option linter.unusedVariables false

set_option linter.unusedSimpArgs false

theorem now_len {L : List P2} {a : Int} {k : Nat} {R : List Int} (h : Now L a k R) : R.length ≤ L.length + 1 := by
  have := sub_len R (a :: L.map P2.t) h.nd fun v hv => by
    have hw := (h.row v).1 hv
    cases hw with
    | zero => simp
    | more _ h2 => exact List.mem_cons.2 (.inr (List.mem_map.2 ⟨_, h2, rfl⟩))
  simpa using this
def stV : Option Nat → Int
  | some k => (k : Int)
  | none => -1
def S1 (L : List P2) (n : Nat) (a b : Int) (w : World) (v i : Value) (W : World) : Prop := ∃ (k : Nat) (R : List Int), k ≤ n + 1 ∧ i = .int .i64 (k : Int) ∧ Now L a k R ∧ W.ownsRow w.heap.size 3 1 v R.length (R.map (Value.int .i64)) ∧ (∀ j, j < k → ¬ Wlk L j a b) ∧ Below w.heap.size w W
def S2 (L : List P2) (R : List Int) (W0 : World) (v i : Value) (W : World) : Prop := ∃ (j : Nat) (F : List Int), j ≤ L.length ∧ i = .int .i64 (j : Int) ∧ F.Nodup ∧ (∀ v, v ∈ F ↔ ∃ p ∈ L.take j, p.f ∈ R ∧ p.t = v) ∧ F.length ≤ j ∧ W.ownsRow W0.heap.size 3 1 v F.length (F.map (Value.int .i64)) ∧ Below W0.heap.size W0 W
set_option maxRecDepth 8000 in
set_option maxHeartbeats 6400000 in
theorem rsteps_any (A : Option Addr) (n cap : Nat) (L : List P2) (a b : Int) (w : World) (hx : PairsAt w A L) (hn : L.length = n) (hl : n ≤ 20) :
    Calls Try.prog 23 #[.slice A n cap, .int .i64 a, .int .i64 b] w fun e w' => ∃ o, Dist L a b o ∧ e = .returned (.int .i64 (stV o)) ∧ Below w.heap.size w w' := by
  obtain ⟨i0, hi, hz0, hz1, hz2⟩ := info_parts infoInt2
  have HX := Lib.hid hx
  have HN : Hid (L.length = n ∧ n ≤ 20) := ⟨hn, hl⟩
  have hba : Below w.heap.size w (w.alloc (.cells #[.int .i64 a] 3)) := (Below.refl _ _).alloc (Nat.le_refl _) _
  have HI0 : Hid (S1 L n a b w (.slice (some ⟨w.heap.size, 0, none⟩) 1 1) (.int .i64 0) (w.alloc (.cells #[.int .i64 a] 3))) := ⟨0, [a], Nat.zero_le _, rfl, Now.start L a, World.ownsRow_lit w #[.int .i64 a] 1 (Nat.le_refl _) (by decide) rfl, fun j hj => by omega, hba⟩
  clear hx hn hl hba
  go_enter Try.func23, Try.ntmps23
  go_wp2_with fail
  go_loopw [7, 8] (fun v i W => S1 L n a b w v i W) (fun _ i _ => (n + 2) - (intOf i).toNat)
  case atStart => exact HI0.out
  case round =>
    obtain ⟨W, hW⟩ : ∃ X, wr = X := ⟨_, rfl⟩
    rw [hW] at hrel
    rw [hW]
    clear hW wr HI0
    obtain ⟨k, R, hk, rfl, hnow, ho, hno, hb⟩ := hrel
    obtain ⟨AR, cR, rfl⟩ := Cel.own_slice ho
    have HNOW := Lib.hid hnow
    have HO := Lib.hid ho
    have HNO := Lib.hid hno
    have HB := Lib.hid hb
    have hrl := now_len hnow
    have hnn := HN.out
    have HRL : Hid (R.length ≤ 21) := by show _ ≤ _; omega
    clear hnow ho hno hb hrl
    by_cases hkn : k ≤ n
    · have t1 : decide ((k : Int) ≤ (n : Int)) = true := decide_eq_true (by omega)
      have t1n : decide (k ≤ n) = true := decide_eq_true hkn
      have HIN := Lib.hid (fun W' (b' : Below W.heap.size W W') v => in15_any W'.heap.size AR R.length cR R v W' (own_below (own_keepP HO.out b') rfl) (by have := HRL.out; omega))
      have hk1 : IntKind.i64.wrap ((k : Int) + 1) = (k : Int) + 1 := IntWalk.i64_in _ (by omega)
      have HKN : Hid (k ≤ n) := hkn
      obtain ⟨m, hm⟩ : ∃ m, R.length = m := ⟨_, rfl⟩
      have HM := Lib.hid hm
      rw [hm] at HIN
      rw [hm]
      have hin0 := HIN.out W (Below.refl _ _) b
      clear hm hkn hnn
      by_cases hbr : b ∈ R
      · have e : memB R b = true := decide_eq_true hbr
        rw [e] at hin0
        have HIN0 := Lib.hid hin0
        have HD : Hid (Dist L a b (some k)) := ⟨(HNOW.out.row b).1 hbr, HNO.out⟩
        clear hin0 e hbr
        go_wp2_with fail
        refine HIN0.out.mono ?_
        rintro e w2 ⟨rfl, rfl⟩
        go_wp2
        go_ret
        exact ⟨some k, HD.out, rfl, HB.out⟩
      · have e : memB R b = false := decide_eq_false hbr
        rw [e] at hin0
        have HIN0 := Lib.hid hin0
        have HNW : Hid (∀ j, j < k + 1 → ¬ Wlk L j a b) := fun j hj => by
          rcases Nat.lt_or_ge j k with h | h
          · exact HNO.out j h
          · obtain rfl : j = k := by omega
            exact fun hw => hbr ((HNOW.out.row b).2 hw)
        have hba : Below W.heap.size W (W.alloc (.cells #[] 3)) := (Below.refl _ _).alloc (Nat.le_refl _) _
        have HI2 : Hid (S2 L R W (.slice (some ⟨W.heap.size, 0, none⟩) 0 0) (.int .i64 0) (W.alloc (.cells #[] 3))) := ⟨0, [], Nat.zero_le _, rfl, List.nodup_nil, fun v => by simp, Nat.le_refl _, World.ownsRow_lit W #[] 0 (Nat.le_refl _) (Nat.zero_le _) rfl, hba⟩
        clear hin0 e hbr hba
        go_wp2_with fail
        refine HIN0.out.mono ?_
        rintro e w2 ⟨rfl, rfl⟩
        clear HIN0
        go_wp2_with fail
        go_loopw [9, 10] (fun v i W2 => S2 L R W v i W2) (fun _ i _ => n - (intOf i).toNat)
        case atStart => exact HI2.out
        case round =>
          obtain ⟨W2, hW2⟩ : ∃ X, wr = X := ⟨_, rfl⟩
          rw [hW2] at hrel
          rw [hW2]
          clear hW2 wr HI2
          obtain ⟨j, F, hj, rfl, hnd, hmem, hfl, ho2, hb2⟩ := hrel
          obtain ⟨AF, cF, rfl⟩ := Cel.own_slice ho2
          have HND := Lib.hid hnd
          have HMEM := Lib.hid hmem
          have HFL := Lib.hid hfl
          have HO2 := Lib.hid ho2
          have HB2 := Lib.hid hb2
          clear hnd hmem hfl ho2 hb2
          have hnn := HN.out
          by_cases hlt : j < n
          · obtain ⟨x, hx⟩ : ∃ x, L[j]? = some x := ⟨_, List.getElem?_eq_getElem (by omega)⟩
            obtain ⟨y, rfl, c0, c1⟩ := (HX.out.kept (HB.out.trans (HB2.out.mono HB.out.size))) j x hx
            have hts : L.take (j + 1) = L.take j ++ [x] := by rw [List.take_add_one, hx]; rfl
            have HTS := Lib.hid hts
            have hji : (0 : Int) ≤ j := by omega
            have hjb : (j : Int) < n := by omega
            have hj1 : IntKind.i64.wrap ((j : Int) + 1) = (j : Int) + 1 := IntWalk.i64_in _ (by omega)
            have HJ : Hid (j + 1 ≤ L.length ∧ j < n ∧ n ≤ 20) := ⟨by omega, hlt, hnn.2⟩
            have hin1 := HIN.out W2 HB2.out x.f
            have hin2 := in15_any W2.heap.size AF F.length cF F x.t W2 (own_below HO2.out rfl) (by have := HFL.out; omega)
            obtain ⟨mf, hmf⟩ : ∃ mf, F.length = mf := ⟨_, rfl⟩
            have HMF := Lib.hid hmf
            rw [hmf] at hin2 HO2
            rw [hmf]
            have HSKIP : Hid ((∀ v, v ∈ F ↔ ∃ p ∈ L.take (j + 1), p.f ∈ R ∧ p.t = v) → S2 L R W (.slice AF mf cF) (.int .i64 ((j : Int) + 1)) W2) := fun h => ⟨j + 1, F, HJ.out.1, by go_num, HND.out, h, by have := HFL.out; omega, by rw [HMF.out]; exact HO2.out, HB2.out⟩
            clear hx hts hnn hlt hmf hj
            by_cases hxr : x.f ∈ R
            · have e1 : memB R x.f = true := decide_eq_true hxr
              rw [e1] at hin1
              have HIN1 := Lib.hid hin1
              by_cases hxf : x.t ∈ F
              · have e2 : memB F x.t = true := decide_eq_true hxf
                rw [e2] at hin2
                have HIN2 := Lib.hid hin2
                have HNX := Lib.hid (HSKIP.out fun v => by
                  rw [HMEM.out v, HTS.out]
                  constructor
                  · rintro ⟨p, hp, h⟩; exact ⟨p, by simp [hp], h⟩
                  · rintro ⟨p, hp, h⟩
                    rcases List.mem_append.1 hp with hp | hp
                    · exact ⟨p, hp, h⟩
                    · obtain rfl := List.mem_singleton.1 hp
                      rw [← HMEM.out v, ← h.2]; exact hxf)
                clear hin1 hin2 e1 e2 hxr hxf
                go_wp2_with fail
                refine HIN1.out.mono ?_
                rintro e w5 ⟨rfl, rfl⟩
                go_wp2_with fail
                refine HIN2.out.mono ?_
                rintro e w6 ⟨rfl, rfl⟩
                go_wp2
                go_roundw
                case rel => exact HNX.out
                case measure => have := HJ.out; simp [intOf]; omega
              · have e2 : memB F x.t = false := decide_eq_false hxf
                rw [e2] at hin2
                have HIN2 := Lib.hid hin2
                have HF2 : Hid ((F ++ [x.t]).Nodup ∧ ∀ v, v ∈ F ++ [x.t] ↔ ∃ p ∈ L.take (j + 1), p.f ∈ R ∧ p.t = v) := by
                  refine ⟨?_, fun v => ?_⟩
                  · rw [List.nodup_append]
                    refine ⟨HND.out, by simp, fun q hq r hr e => ?_⟩
                    obtain rfl := List.mem_singleton.1 hr
                    exact hxf (e ▸ hq)
                  · rw [List.mem_append, HMEM.out v, HTS.out]
                    constructor
                    · rintro (⟨p, hp, h⟩ | h)
                      · exact ⟨p, by simp [hp], h⟩
                      · obtain rfl := List.mem_singleton.1 h
                        exact ⟨x, by simp, hxr, rfl⟩
                    · rintro ⟨p, hp, h⟩
                      rcases List.mem_append.1 hp with hp | hp
                      · exact .inl ⟨p, hp, h⟩
                      · obtain rfl := List.mem_singleton.1 hp
                        exact .inr (by simp [h.2])
                have hba : Below W2.heap.size W2 (W2.alloc (.cells #[.int .i64 x.t] 3)) := (Below.refl _ _).alloc (Nat.le_refl _) _
                have HOA := Lib.hid (own_keepP HO2.out hba)
                have HBA := Lib.hid (HB2.out.trans (hba.mono HB2.out.size))
                clear hin1 hin2 e1 e2 hxr hxf hba HSKIP
                go_wp2_with fail
                refine HIN1.out.mono ?_
                rintro e w5 ⟨rfl, rfl⟩
                go_wp2_with fail
                refine HIN2.out.mono ?_
                rintro e w6 ⟨rfl, rfl⟩
                go_wp2_with (at_builtin; refine wpList_append_own _ rfl _ _ 29 rfl W.heap.size 3 i0 (.int .i64 0) 1 8 Try.underlying29 hi hz0 hz1 hz2 rfl (by decide) _ _ _ rfl HOA.out ⟨W2.heap.size, 0, none⟩ 1 1 [.int .i64 x.t] rfl rfl (cell_one_new _ _ _) ?c2 ?c3 ?c4 ?c5 ?_)
                case c2 => intro u hu; simp at hu; subst hu; rfl
                case c3 => have := HFL.out; have := HMF.out; have := HJ.out; unfold maxLen; omega
                case c4 => have := HFL.out; have := HMF.out; have := HJ.out; omega
                case c5 => exact HBA.out.size
                intro v9 w9 ho9 hg9 _
                have HNX : Hid (S2 L R W v9 (.int .i64 ((j : Int) + 1)) w9) := ⟨j + 1, F ++ [x.t], HJ.out.1, by go_num, HF2.out.1, HF2.out.2, by rw [List.length_append]; have := HFL.out; simp; omega, by
                  rw [List.length_append, HMF.out]
                  simpa using ho9, HBA.out.grown hg9 HBA.out.size (fun j hj => (HOA.out.lt j hj).1)⟩
                clear ho9 hg9
                go_wp2
                go_roundw
                case rel => exact HNX.out
                case measure => have := HJ.out; simp [intOf]; omega
            · have e1 : memB R x.f = false := decide_eq_false hxr
              rw [e1] at hin1
              have HIN1 := Lib.hid hin1
              have HNX := Lib.hid (HSKIP.out fun v => by
                rw [HMEM.out v, HTS.out]
                constructor
                · rintro ⟨p, hp, h⟩; exact ⟨p, by simp [hp], h⟩
                · rintro ⟨p, hp, h⟩
                  rcases List.mem_append.1 hp with hp | hp
                  · exact ⟨p, hp, h⟩
                  · obtain rfl := List.mem_singleton.1 hp
                    exact absurd h.1 hxr)
              clear hin1 hin2 e1 hxr
              go_wp2_with fail
              refine HIN1.out.mono ?_
              rintro e w5 ⟨rfl, rfl⟩
              go_wp2
              go_roundw
              case rel => exact HNX.out
              case measure => have := HJ.out; simp [intOf]; omega
          · obtain rfl : j = n := by omega
            have htk : L.take j = L := List.take_of_length_le (by omega)
            have HNXT : Hid (Now L a (k + 1) F) := HNOW.out.next HND.out fun v => by
              rw [HMEM.out v, htk]
              constructor
              · rintro ⟨p, hp, h1, rfl⟩; exact ⟨p.f, h1, hp⟩
              · rintro ⟨u, hu, he⟩; exact ⟨_, he, hu, rfl⟩
            have HNX : Hid (S1 L j a b w (.slice AF F.length cF) (.int .i64 ((k : Int) + 1)) W2) := ⟨k + 1, F, by have := HKN.out; omega, by go_num, HNXT.out, Go.Proofs.Ytnngldkpkhabeaa.Act.row_base HO2.out HB.out.size, HNW.out, HB.out.trans (HB2.out.mono HB.out.size)⟩
            clear hnn htk
            go_wp2
            go_roundw
            case rel => exact HNX.out
            case measure => have := HKN.out; simp [intOf]; omega
    · obtain rfl : k = n + 1 := by omega
      have t1 : decide (((n + 1 : Nat) : Int) ≤ (n : Int)) = false := decide_eq_false (by omega)
      have t2 : decide ((n : Int) + 1 ≤ (n : Int)) = false := decide_eq_false (by omega)
      have t1n : decide (n + 1 ≤ n) = false := decide_eq_false (by omega)
      have HD : Hid (Dist L a b none) := doc_dist (N := n) (by omega) fun j hj => HNO.out j (by omega)
      clear hnn hkn
      go_wp2
      go_ret
      exact ⟨none, HD.out, rfl, HB.out⟩
end Go.Proofs.Ytnngldkpkhabeaa.Rel
namespace Go.Proofs.Ytnngldkpkhabeaa.Rel

open Go.RowKit Go.PlainAid Go.Proofs.Ytnngldkpkhabeaa.Args Go.Proofs.Ytnngldkpkhabeaa.Win

open Go.Proofs.Ytnngldkpkhabeaa.Pai (P2 PairsAt Wide own_keepP own_some Wlk Dist Min BF sub_len box_kept boolsF bools_snoc row_just row_no_map just_of_grown map_off min_len tgt mem_tgt)

open Go.Proofs.Ytnngldkpkhabeaa.Mpv (MapV map_made wpList_look wpList_upd)

set_option linter.unusedVariables false

set_option linter.unusedSimpArgs false

theorem wpList_ins {P : Program} (w : World) {ops : Array Oper} {rest : List Oper} {o : Oper} {a : Act} {Q : Exit → Act → World → Prop}
    (hg : o.guard = none) (m x v : Operand) (t : TypeId) (hop : o.op = Op.insert t m x v) (mv key val : Value) (hm : a.eval m = mv) (hx : a.eval x = key) (hv : a.eval v = val) (w' : World)
    (hrun : (Instr.mapUpdate t mv key val).run P w = .ok () w') (hK : wpList P ops Q rest (a.put o.dst undef) w') : wpList P ops Q (o :: rest) a w := by
  refine wpList_plain hg fun K' hK' => ?_
  unfold Oper.wp
  simp [execOp, hop, hm, hx, hv, hrun, Result.andThen]
  exact hK' _ _ hK
theorem bf_len {L : List P2} {a : Int} {k : Nat} {R M : List Int} (h : BF L a k R M) : R.length ≤ L.length + 1 := by
  have := sub_len R (a :: L.map P2.t) h.nd fun v hv => by
    have hw := ((h.row v).1 hv).1
    cases hw with
    | zero => simp
    | more _ h2 => exact List.mem_cons.2 (.inr (List.mem_map.2 ⟨_, h2, rfl⟩))
  simpa using this
def otV : Option Nat → Int
  | some k => (k : Int)
  | none => 0
/-- What was met, and a row of ids, behind the pairs' links. -/
structure PS (W1 : World) (bm : Nat) (M : List Int) (V : Value) (R : List Int) (W : World) : Prop where
  mp : ∃ c, c ≤ M.length ∧ MapV W bm c (boolsF M)
  row : W.ownsRow W1.heap.size 3 1 V R.length (R.map (Value.int .i64))
  bel : Below W1.heap.size W1 W
  bl : W1.heap.size ≤ bm
theorem PS.keep {W1 W W' : World} {bm : Nat} {M R : List Int} {V : Value} (f : PS W1 bm M V R W) (b : Below W.heap.size W W') : PS W1 bm M V R W' := by
  obtain ⟨c, hc, hm⟩ := f.mp
  exact ⟨⟨c, hc, hm.keep b⟩, own_keepP f.row b, f.bel.trans (b.mono f.bel.size), f.bl⟩
/-- With one more row, apart from the first. -/
structure PF (W1 : World) (bm : Nat) (M : List Int) (V : Value) (R : List Int) (VF : Value) (F : List Int) (W : World) : Prop where
  ps : PS W1 bm M V R W
  fr : W.ownsRow W1.heap.size 3 1 VF F.length (F.map (Value.int .i64))
  ap : ∀ j, V.ownBlock = some j → VF.ownBlock ≠ some j
theorem PF.keep {W1 W W' : World} {bm : Nat} {M R F : List Int} {V VF : Value} (f : PF W1 bm M V R VF F W) (b : Below W.heap.size W W') : PF W1 bm M V R VF F W' := ⟨f.ps.keep b, own_keepP f.fr b, f.ap⟩
theorem PF.put {W1 W W' : World} {bm : Nat} {M R F : List Int} {V VF : Value} {x : Int} (f : PF W1 bm M V R VF F W) (hg : W.grownBy W' (some bm)) (hs : ∃ c, c ≤ (M ++ [x]).length ∧ MapV W' bm c (boolsF (M ++ [x]))) : PF W1 bm (M ++ [x]) V R VF F W' := by
  obtain ⟨c, hc, hm⟩ := f.ps.mp
  have j := just_of_grown hg
  exact ⟨⟨hs, row_just f.ps.row j (row_no_map f.ps.row hm), f.ps.bel.grown hg f.ps.bel.size (fun k hk => by cases hk; exact f.ps.bl), f.ps.bl⟩, row_just f.fr j (row_no_map f.fr hm), f.ap⟩
theorem PF.more {W1 W W' : World} {bm : Nat} {M R F : List Int} {V VF VF' : Value} {x : Int} (f : PF W1 bm M V R VF F W) (hg : W.grownBy W' VF.ownBlock) (ho : W'.ownsRow W1.heap.size 3 1 VF' (F ++ [x]).length ((F ++ [x]).map (Value.int .i64))) (hat : VF'.ownBlock = VF.ownBlock ∨ VF'.ownBlock = some W.heap.size) : PF W1 bm M V R VF' (F ++ [x]) W' := by
  obtain ⟨c, hc, hm⟩ := f.ps.mp
  refine ⟨⟨⟨c, hc, map_off (w := W1) hm f.fr hg⟩, ?_, f.ps.bel.grown hg f.ps.bel.size (fun k hk => (f.fr.lt k hk).1), f.ps.bl⟩, ho, fun j hj => ?_⟩
  · cases hv : VF.ownBlock with
    | none =>
      rw [hv] at hg
      have j : Rdr.Just W.heap.size W W' := ⟨hg.os, hg.tape, hg.output, hg.size, fun k hk _ => hg.block k hk (by simp)⟩
      exact row_just f.ps.row j fun k hk => by have := (f.ps.row.lt k hk).2; omega
    | some k0 =>
      rw [hv] at hg
      exact row_just f.ps.row (just_of_grown hg) fun k hk e => f.ap k hk (by rw [hv, e])
  · rcases hat with h | h
    · rw [h]; exact f.ap j hj
    · rw [h]
      intro e
      have h1 := Option.some.inj e
      have h2 := (f.ps.row.lt j hj).2
      omega
def Q1 (L : List P2) (a b : Int) (W1 : World) (bm : Nat) (v i : Value) (W : World) : Prop := ∃ (k : Nat) (R M : List Int), k ≤ L.length + 1 ∧ i = .int .i64 (k : Int) ∧ BF L a k R M ∧ M.length ≤ 30 * (k + 1) ∧ (∀ j, j < k → ¬ Wlk L j a b) ∧ PS W1 bm M v R W
def Q2 (L : List P2) (R M : List Int) (VR : Value) (W1 : World) (bm : Nat) (v i : Value) (W : World) : Prop := ∃ (q : Nat) (F : List Int), q ≤ R.length ∧ i = .int .i64 (q : Int) ∧ F.Nodup ∧ (∀ v, v ∈ F ↔ v ∉ M ∧ ∃ u ∈ R.take q, (⟨u, v⟩ : P2) ∈ L) ∧ PF W1 bm (M ++ F) VR R v F W
def Q3 (L : List P2) (R M T : List Int) (q : Nat) (VR : Value) (W1 : World) (bm : Nat) (v i : Value) (W : World) : Prop := ∃ (j : Nat) (F : List Int), j ≤ T.length ∧ i = .int .i64 (j : Int) ∧ F.Nodup ∧ (∀ v, v ∈ F ↔ v ∉ M ∧ ((∃ u ∈ R.take q, (⟨u, v⟩ : P2) ∈ L) ∨ v ∈ T.take j)) ∧ PF W1 bm (M ++ F) VR R v F W
theorem new_len {L : List P2} {F : List Int} (h : F.Nodup) (hm : ∀ v ∈ F, ∃ u, (⟨u, v⟩ : P2) ∈ L) : F.length ≤ L.length := by
  have := sub_len F (L.map P2.t) h fun v hv => by
    obtain ⟨u, hu⟩ := hm v hv
    exact List.mem_map.2 ⟨_, hu, rfl⟩
  simpa using this
theorem tg_mem {L : List P2} {u v : Int} : v ∈ tg L u ↔ (⟨u, v⟩ : P2) ∈ L := mem_tgt
set_option maxRecDepth 8000 in
set_option maxHeartbeats 12800000 in
theorem psteps_any (A : Option Addr) (n cap : Nat) (L : List P2) (a b : Int) (w : World) (hx : PairsAt w A L) (hn : L.length = n) (hl : n ≤ 20) (hw : ∀ x ∈ L, Wide x) (ha : Mpv.I64 a) :
    Calls Try.prog 22 #[.slice A n cap, .int .i64 a, .int .i64 b] w fun e w' => ∃ o, Dist L a b o ∧ e = .returned (.tuple #[.int .i64 (otV o), .bool o.isSome]) ∧ Below w.heap.size w w' := by
  obtain ⟨i0, hi, hz0, hz1, hz2⟩ := info_parts infoInt2
  have hmm := @run_makeMap Try.prog
  have HLI := Lib.hid (links_any A cap n L w hx hw hn (by omega))
  have HN : Hid (L.length = n ∧ n ≤ 20) := ⟨hn, hl⟩
  have HWD : Hid (∀ u v : Int, (⟨u, v⟩ : P2) ∈ L → Mpv.I64 u ∧ Mpv.I64 v) := fun u v h => hw _ h
  have HA := Lib.hid ha
  have HZB : Hid (∀ w : World, (zeroValue 4).run Try.prog w = .ok (.bool false) w) := fun w => by go_simp
  clear hx hn hl hw ha
  go_enter Try.func22, Try.ntmps22
  go_wp2_with fail
  refine HLI.out.mono ?_
  rintro e w1 ⟨c0, F0, rfl, hlk⟩
  have HBW1 := Lib.hid hlk.below
  have HLK := Lib.hid hlk
  have hm0 : MapV (w1.alloc (.map #[] 0)) w1.heap.size 0 (boolsF []) := by
    have h := map_made w1
    have e : (fun _ : Int => (none : Option Value)) = boolsF [] := by funext v; simp [boolsF]
    rw [e] at h
    exact h
  obtain ⟨w2, hr2, hm2, hg2⟩ := hm0.put Try.underlying51 a HA.out (.bool true) (by omega)
  rw [bools_snoc] at hm2
  have hb1 : Below w1.heap.size w1 (w1.alloc (.map #[] 0)) := (Below.refl _ _).alloc (Nat.le_refl _) _
  have hb2 : Below w1.heap.size w1 w2 := hb1.grown hg2 hb1.size (fun k hk => by cases hk; exact Nat.le_refl _)
  have HR2 := Lib.hid hr2
  have hb3 : Below w2.heap.size w2 (w2.alloc (.cells #[.int .i64 a] 3)) := (Below.refl _ _).alloc (Nat.le_refl _) _
  have HPS0 : Hid (PS w1 w1.heap.size [a] (.slice (some ⟨w2.heap.size, 0, none⟩) 1 1) [a] (w2.alloc (.cells #[.int .i64 a] 3))) := ⟨⟨_, by simp [boolsF], hm2.keep hb3⟩, World.ownsRow_lit w2 #[.int .i64 a] 1 hb2.size (by decide) rfl, hb2.trans (hb3.mono hb2.size), Nat.le_refl _⟩
  have HI0 : Hid (Q1 L a b w1 w1.heap.size (.slice (some ⟨w2.heap.size, 0, none⟩) 1 1) (.int .i64 0) (w2.alloc (.cells #[.int .i64 a] 3))) := ⟨0, [a], [a], Nat.zero_le _, rfl, BF.start L a, by simp, fun j hj => by omega, HPS0.out⟩
  clear hlk hm0 hr2 hm2 hg2 hb1 hb2 hb3 HLI HPS0
  go_upto_region 3 with (first | ((with_reducible show wpList _ _ _ _ _ _); refine wpList_ins _ rfl _ _ _ 51 rfl _ _ _ rfl rfl rfl w2 HR2.out ?_))
  go_wp2_with fail
  go_loopw [10, 11] (fun v i W => Q1 L a b w1 w1.heap.size v i W) (fun _ i _ => (n + 2) - (intOf i).toNat)
  case atStart => exact HI0.out
  case round =>
    obtain ⟨W, hW⟩ : ∃ X, wr = X := ⟨_, rfl⟩
    rw [hW] at hrel
    rw [hW]
    clear hW wr HI0 HR2
    obtain ⟨k, R, M, hk, rfl, hbf, hml, hno, hps⟩ := hrel
    obtain ⟨AR, cR, rfl⟩ := Cel.own_slice hps.row
    have HBF := Lib.hid hbf
    have HNO := Lib.hid hno
    have HPS := Lib.hid hps
    have hrl := bf_len hbf
    have hnn := HN.out
    have HRL : Hid (R.length ≤ 21 ∧ M.length ≤ 30 * (k + 1) ∧ k ≤ 21) := ⟨by omega, hml, by omega⟩
    have HBWW : Hid (Below w.heap.size w W) := HBW1.out.trans (hps.bel.mono HBW1.out.size)
    have hk1 : IntKind.i64.wrap ((k : Int) + 1) = (k : Int) + 1 := IntWalk.i64_in _ (by omega)
    obtain ⟨m, hm⟩ : ∃ m, R.length = m := ⟨_, rfl⟩
    have HM := Lib.hid hm
    have HCO := Lib.hid (contains2_any w1.heap.size R.length (.slice AR R.length cR) R b W hps.row rfl (by omega))
    have HROW := Lib.hid hps.row
    rw [hm] at HCO
    rw [hm]
    have hKL : 0 < m → k ≤ L.length := fun h => by
      obtain ⟨v, hv⟩ := List.exists_mem_of_length_pos (show 0 < R.length by omega)
      exact min_len ((hbf.row v).1 hv)
    have HKL := Lib.hid hKL
    clear hbf hno hps hrl hml hm hk hKL
    by_cases hm0 : m = 0
    · subst hm0
      have hR0 : R = [] := List.eq_nil_of_length_eq_zero HM.out
      have HD : Hid (Dist L a b none) := by
        have h := HBF.out
        rw [hR0] at h
        exact h.never HNO.out
      clear hnn hR0
      go_wp2
      go_ret2
      exact ⟨none, HD.out, rfl, HBWW.out⟩
    · have t0 : decide ((0 : Int) < (m : Int)) = true := decide_eq_true (by omega)
      have t0n : decide (0 < m) = true := decide_eq_true (by omega)
      have HK1 : Hid (k + 1 ≤ L.length + 1) := by have := HKL.out (by omega); show _ ≤ _; omega
      have hco := HCO.out
      by_cases hbr : b ∈ R
      · have e : memB R b = true := decide_eq_true hbr
        rw [e] at hco
        have HCO1 := Lib.hid hco
        have HD : Hid (Dist L a b (some k)) := HBF.out.found hbr
        clear hco e hbr hnn hm0 HCO
        go_wp2_with fail
        refine HCO1.out.mono ?_
        rintro e w3 ⟨rfl, rfl⟩
        go_wp2
        go_ret2
        exact ⟨some k, HD.out, rfl, HBWW.out⟩
      · have e : memB R b = false := decide_eq_false hbr
        rw [e] at hco
        have HCO1 := Lib.hid hco
        have HNW : Hid (∀ j, j < k + 1 → ¬ Wlk L j a b) := fun j hj => by
          rcases Nat.lt_or_ge j k with h | h
          · exact HNO.out j h
          · obtain rfl : j = k := by omega
            exact fun hw => hbr ((HBF.out.row b).2 ⟨hw, HNO.out⟩)
        have HPF0 : Hid (PF w1 w1.heap.size (M ++ []) (.slice AR R.length cR) R (.slice none 0 0) [] W) := ⟨by rw [List.append_nil]; exact HPS.out, World.ownsRow_nil _ _ _ _, fun j _ h => by simp [Value.ownBlock] at h⟩
        have HI2 : Hid (Q2 L R M (.slice AR R.length cR) w1 w1.heap.size (.slice none 0 0) (.int .i64 0) W) := ⟨0, [], Nat.zero_le _, rfl, List.nodup_nil, fun v => by simp, HPF0.out⟩
        clear hco e hbr hnn hm0 HCO HPF0
        go_wp2_with fail
        refine HCO1.out.mono ?_
        rintro e w3 ⟨rfl, rfl⟩
        clear HCO1
        go_wp2_with fail
        go_loopw [12, 35] (fun v i W2 => Q2 L R M (.slice AR R.length cR) w1 w1.heap.size v i W2) (fun _ i _ => m - (intOf i).toNat)
        case atStart => exact HI2.out
        case round =>
          obtain ⟨W2, hW2⟩ : ∃ X, wr = X := ⟨_, rfl⟩
          rw [hW2] at hrel
          rw [hW2]
          clear hW2 wr HI2
          obtain ⟨q, F, hq, rfl, hnd, hmem, hpf⟩ := hrel
          have HND := Lib.hid hnd
          have HMEM := Lib.hid hmem
          have HPF := Lib.hid hpf
          clear hnd hmem hpf
          have hmm2 := HM.out
          by_cases hlt : q < m
          · obtain ⟨u, hu⟩ : ∃ u, R[q]? = some u := ⟨_, List.getElem?_eq_getElem (by omega)⟩
            have hrr := HPF.out.ps.row
            rw [HM.out] at hrr
            obtain ⟨gR, cR', e, _, _, _⟩ := own_some hrr (by omega)
            simp only [Value.slice.injEq] at e
            obtain ⟨rfl, _, rfl⟩ := e
            have r0 : W2.cell? ⟨gR, q, none⟩ = some (.int .i64 u) := (hrr.cellAt q (by omega)).trans (by simp [hu])
            have hru : R.take (q + 1) = R.take q ++ [u] := by rw [List.take_add_one, hu]; rfl
            have HRU := Lib.hid hru
            have huI : Mpv.I64 u := by
              have hw := ((HBF.out.row u).1 (List.mem_of_getElem? hu)).1
              cases hw with
              | zero => exact HA.out
              | more _ h2 => exact (HWD.out _ _ h2).2
            have hlkW := HLK.out.keep HPF.out.ps.bel
            obtain ⟨AT, nT, cT, hat, _, hnT⟩ := hlkW.at_ u
            have hlook := hlkW.mp.look Try.underlying49 (zero_ints W2) u huI
            rw [hat] at hlook
            have HLO := Lib.hid hlook
            have HTR : Hid (∀ W', Below w1.heap.size w1 W' → W'.ownsRow (w.heap.size + 1) 3 1 (.slice AT nT cT) nT ((tg L u).map (Value.int .i64))) := fun W' b' => by
              obtain ⟨A3, n3, c3, h3, h4, h5⟩ := (HLK.out.keep b').at_ u
              rw [hat] at h3
              simp only [Value.slice.injEq] at h3
              obtain ⟨rfl, rfl, rfl⟩ := h3
              exact h4
            have HTN := Lib.hid hnT
            have HTL : Hid (nT ≤ 20) := by have := tg_len L u; have := HN.out; show _ ≤ _; omega
            have hqi : (0 : Int) ≤ q := by omega
            have hqb : (q : Int) < m := by omega
            have hq1 : IntKind.i64.wrap ((q : Int) + 1) = (q : Int) + 1 := IntWalk.i64_in _ (by have := HRL.out; omega)
            have HQ : Hid (q + 1 ≤ R.length ∧ q < m) := ⟨by omega, hlt⟩
            have HI3 : Hid (∀ v, PF w1 w1.heap.size (M ++ F) (.slice (some ⟨gR, 0, none⟩) R.length cR) R v F W2 → Q3 L R M (tg L u) q (.slice (some ⟨gR, 0, none⟩) R.length cR) w1 w1.heap.size v (.int .i64 0) W2) := fun v h => ⟨0, F, Nat.zero_le _, rfl, HND.out, fun z => by rw [HMEM.out z]; simp, h⟩
            clear hu hrr hru huI hlkW hat hlook hnT hmm2 hlt hq
            go_wp2_with (first | (at_lookup; refine wpList_look _ rfl _ _ 49 false rfl _ _ _ rfl rfl HLO.out ?_) | fail)
            clear r0 HLO
            go_loopw [12, 43] (fun v i W3 => Q3 L R M (tg L u) q (.slice (some ⟨gR, 0, none⟩) R.length cR) w1 w1.heap.size v i W3) (fun _ i _ => nT - (intOf i).toNat)
            case atStart => exact HI3.out _ HPF.out
            case round =>
              obtain ⟨W3, hW3⟩ : ∃ X, wr = X := ⟨_, rfl⟩
              rw [hW3] at hrel
              rw [hW3]
              clear hW3 wr HI3 HPF HND HMEM
              obtain ⟨j, F, hj, rfl, hnd, hmem, hpf⟩ := hrel
              obtain ⟨AF, cF, rfl⟩ := Cel.own_slice hpf.fr
              have HND := Lib.hid hnd
              have HMEM := Lib.hid hmem
              have HPF := Lib.hid hpf
              have hfl : F.length ≤ L.length := new_len hnd fun v hv => by
                rcases ((hmem v).1 hv).2 with ⟨u', _, h⟩ | h
                · exact ⟨u', h⟩
                · exact ⟨u, tg_mem.1 (List.mem_of_mem_take h)⟩
              have HFL : Hid (F.length ≤ 20) := by have := HN.out; show _ ≤ _; omega
              clear hnd hmem hpf hfl
              have htn := HTN.out
              by_cases hlt : j < nT
              · obtain ⟨x, hx⟩ : ∃ x, (tg L u)[j]? = some x := ⟨_, List.getElem?_eq_getElem (by omega)⟩
                have htr := HTR.out W3 HPF.out.ps.bel
                obtain ⟨gT, cT', e, _, _, _⟩ := own_some htr (by omega)
                simp only [Value.slice.injEq] at e
                obtain ⟨rfl, _, rfl⟩ := e
                have r1 : W3.cell? ⟨gT, j, none⟩ = some (.int .i64 x) := (htr.cellAt j (by omega)).trans (by simp [hx])
                have htx : (tg L u).take (j + 1) = (tg L u).take j ++ [x] := by rw [List.take_add_one, hx]; rfl
                have HTX := Lib.hid htx
                have hxI := (HWD.out _ _ (tg_mem.1 (List.mem_of_getElem? hx))).2
                obtain ⟨c, hc, hmap⟩ := HPF.out.ps.mp
                have hlook := hmap.look Try.underlying51 (HZB.out _) x hxI
                have hji : (0 : Int) ≤ j := by omega
                have hjb : (j : Int) < nT := by omega
                have hj1 : IntKind.i64.wrap ((j : Int) + 1) = (j : Int) + 1 := IntWalk.i64_in _ (by have := HTL.out; omega)
                have HJ : Hid (j + 1 ≤ (tg L u).length ∧ j < nT) := ⟨by omega, hlt⟩
                obtain ⟨mf, hmf⟩ : ∃ mf, F.length = mf := ⟨_, rfl⟩
                have HMF := Lib.hid hmf
                rw [hmf]
                by_cases hin : x ∈ M ++ F
                · have hl2 : (boolsF (M ++ F) x).getD (.bool false) = .bool true := by unfold boolsF; rw [if_pos hin]; rfl
                  rw [hl2] at hlook
                  have HLO := Lib.hid hlook
                  have HNX : Hid (Q3 L R M (tg L u) q (.slice (some ⟨gR, 0, none⟩) R.length cR) w1 w1.heap.size (.slice AF mf cF) (.int .i64 ((j : Int) + 1)) W3) := ⟨j + 1, F, HJ.out.1, by go_num, HND.out, fun v => by
                    rw [HMEM.out v, HTX.out, List.mem_append]
                    constructor
                    · rintro ⟨h1, h2 | h2⟩
                      · exact ⟨h1, .inl h2⟩
                      · exact ⟨h1, .inr (.inl h2)⟩
                    · rintro ⟨h1, h2 | h2 | h2⟩
                      · exact ⟨h1, .inl h2⟩
                      · exact ⟨h1, .inr h2⟩
                      · obtain rfl := List.mem_singleton.1 h2
                        rcases List.mem_append.1 hin with h3 | h3
                        · exact absurd h3 h1
                        · exact (HMEM.out v).1 h3, by rw [← HMF.out]; exact HPF.out⟩
                  clear hx htr htx hxI hmap hlook hin hl2 hc htn hlt hmf hj
                  go_wp2_with (first | (at_lookup; refine wpList_look _ rfl _ _ 51 false rfl _ _ _ rfl rfl HLO.out ?_) | fail)
                  go_roundw
                  case rel => exact HNX.out
                  case measure => have := HJ.out; simp [intOf]; omega
                · have hl2 : (boolsF (M ++ F) x).getD (.bool false) = .bool false := by unfold boolsF; rw [if_neg hin]; rfl
                  rw [hl2] at hlook
                  have HLO := Lib.hid hlook
                  have hcb : c ≤ 1099511627776 := by
                    rw [List.length_append] at hc
                    have := HRL.out
                    have := HFL.out
                    omega
                  obtain ⟨w4, hr4, hm4, hg4⟩ := hmap.put Try.underlying51 x hxI (.bool true) hcb
                  rw [bools_snoc] at hm4
                  have hpf4 := HPF.out.put hg4 ⟨_, by
                    have e9 : (M ++ F ++ [x]).length = (M ++ F).length + 1 := by rw [List.length_append, List.length_singleton]
                    rw [e9]; split <;> omega, hm4⟩
                  have hpf5 := hpf4.keep ((Below.refl _ _).alloc (Nat.le_refl _) (.cells #[.int .i64 x] 3))
                  rw [hmf] at hpf5
                  have HR4 := Lib.hid hr4
                  have HPF5 := Lib.hid hpf5
                  have hfr := hpf5.fr
                  rw [hmf] at hfr
                  have HFR := Lib.hid hfr
                  have HF2 : Hid ((F ++ [x]).Nodup ∧ ∀ v, v ∈ F ++ [x] ↔ v ∉ M ∧ ((∃ u' ∈ R.take q, (⟨u', v⟩ : P2) ∈ L) ∨ v ∈ (tg L u).take (j + 1))) := by
                    have hxM : x ∉ M := fun h => hin (by simp [h])
                    have hxF : x ∉ F := fun h => hin (by simp [h])
                    refine ⟨?_, fun v => ?_⟩
                    · rw [List.nodup_append]
                      refine ⟨HND.out, by simp, fun p hp r hr e => ?_⟩
                      obtain rfl := List.mem_singleton.1 hr
                      exact hxF (e ▸ hp)
                    · rw [List.mem_append, HMEM.out v, HTX.out, List.mem_append]
                      constructor
                      · rintro (⟨h1, h2 | h2⟩ | h)
                        · exact ⟨h1, .inl h2⟩
                        · exact ⟨h1, .inr (.inl h2)⟩
                        · obtain rfl := List.mem_singleton.1 h
                          exact ⟨hxM, .inr (.inr (by simp))⟩
                      · rintro ⟨h1, h2 | h2 | h2⟩
                        · exact .inl ⟨h1, .inl h2⟩
                        · exact .inl ⟨h1, .inr h2⟩
                        · exact .inr h2
                  clear hx htr htx hxI hmap hlook hin hl2 hc htn hlt hmf hcb hr4 hm4 hg4 hpf4 hpf5 hfr hj
                  go_wp2_with (first
                    | (at_lookup; refine wpList_look _ rfl _ _ 51 false rfl _ _ _ rfl rfl HLO.out ?_)
                    | (at_mapUpdate; refine wpList_upd _ rfl _ _ _ 51 rfl _ _ _ rfl rfl rfl w4 HR4.out ?_)
                    | (at_builtin; refine wpList_append_own_at _ rfl _ _ 29 rfl w1.heap.size 3 i0 (.int .i64 0) 1 8 Try.underlying29 hi hz0 hz1 hz2 rfl (by decide) _ _ _ rfl HFR.out ⟨w4.heap.size, 0, none⟩ 1 1 [.int .i64 x] rfl rfl (cell_one_new _ _ _) ?c2 ?c3 ?c4 ?c5 ?_))
                  case c2 => intro z hz; simp at hz; subst hz; rfl
                  case c3 => have := HFL.out; have := HMF.out; unfold maxLen; omega
                  case c4 => have := HFL.out; have := HMF.out; omega
                  case c5 => have h := HPF5.out.ps.bel.size; first | exact h | (rw [World.size_alloc] at h; exact h)
                  intro v9 w9 ho9 hg9 _ hat9
                  have hpf9 := HPF5.out.more (x := x) (VF' := v9) hg9 (by rw [List.length_append, HMF.out]; simpa using ho9) (by rw [World.size_alloc]; exact hat9)
                  rw [List.append_assoc] at hpf9
                  have HNX : Hid (Q3 L R M (tg L u) q (.slice (some ⟨gR, 0, none⟩) R.length cR) w1 w1.heap.size v9 (.int .i64 ((j : Int) + 1)) w9) := ⟨j + 1, F ++ [x], HJ.out.1, by go_num, HF2.out.1, HF2.out.2, hpf9⟩
                  clear ho9 hg9 hat9 hpf9 r1
                  go_wp2
                  go_roundw
                  case rel => exact HNX.out
                  case measure => have := HJ.out; simp [intOf]; omega
              · obtain rfl : j = nT := by omega
                have htk : (tg L u).take j = tg L u := List.take_of_length_le (by omega)
                have HNX : Hid (Q2 L R M (.slice (some ⟨gR, 0, none⟩) R.length cR) w1 w1.heap.size (.slice AF F.length cF) (.int .i64 ((q : Int) + 1)) W3) := ⟨q + 1, F, HQ.out.1, by go_num, HND.out, fun v => by
                  rw [HMEM.out v, htk, HRU.out]
                  constructor
                  · rintro ⟨h1, ⟨u', h2, h3⟩ | h2⟩
                    · exact ⟨h1, u', by simp [h2], h3⟩
                    · exact ⟨h1, u, by simp, tg_mem.1 h2⟩
                  · rintro ⟨h1, u', h2, h3⟩
                    rcases List.mem_append.1 h2 with h2 | h2
                    · exact ⟨h1, .inl ⟨u', h2, h3⟩⟩
                    · obtain rfl := List.mem_singleton.1 h2
                      exact ⟨h1, .inr (tg_mem.2 h3)⟩, HPF.out⟩
                clear htk htn hj
                go_wp2
                go_roundw
                case rel => exact HNX.out
                case measure => have := HQ.out; simp [intOf]; omega
          · obtain rfl : q = m := by omega
            have htk : R.take q = R := List.take_of_length_le (by omega)
            have hbf2 : BF L a (k + 1) F (M ++ F) := HBF.out.next HND.out fun v => by rw [HMEM.out v, htk]
            have hfl : F.length ≤ L.length := new_len HND.out fun v hv => by
              obtain ⟨u', _, h⟩ := ((HMEM.out v).1 hv).2
              exact ⟨u', h⟩
            obtain ⟨AF, cF, hv12⟩ := Cel.own_slice HPF.out.fr
            have HNX : Hid (Q1 L a b w1 w1.heap.size u12 (.int .i64 ((k : Int) + 1)) W2) := ⟨k + 1, F, M ++ F, HK1.out, by go_num, hbf2, by rw [List.length_append]; have := HRL.out; have := HN.out; omega, HNW.out, ⟨HPF.out.ps.mp, HPF.out.fr, HPF.out.ps.bel, HPF.out.ps.bl⟩⟩
            clear htk hbf2 hfl hmm2 hq hv12
            go_wp2
            go_roundw
            case rel => exact HNX.out
            case measure => have := HK1.out; have := HN.out; simp [intOf]; omega
end Go.Proofs.Ytnngldkpkhabeaa.Rel
namespace Go.Proofs.Ytnngldkpkhabeaa.Rel

open Go.RowKit Go.PlainAid Go.Proofs.Ytnngldkpkhabeaa.Args Go.Proofs.Ytnngldkpkhabeaa.Win

open Go.Proofs.Ytnngldkpkhabeaa.Pai (own_keepP own_some below_drewN row_just just_of_grown)

set_option linter.unusedVariables false

set_option linter.unusedSimpArgs false

/-- Numbers of a call's own. -/
def OwnI (xs : List Int) (V : Value) (w : World) : Prop := ∃ B, w.ownsRow B 3 1 V xs.length (xs.map (Value.int .i64))
theorem OwnI.keep {xs : List Int} {V : Value} {w w' : World} (h : OwnI xs V w) (b : Below w.heap.size w w') : OwnI xs V w' := by
  obtain ⟨B, h⟩ := h
  exact ⟨B, own_keepP h b⟩
set_option maxRecDepth 8000 in
set_option maxHeartbeats 1600000 in
theorem sameI_yes (w : World) (V1 V2 : Value) (xs : List Int) (hl : xs.length ≤ 1000000) (h1 : OwnI xs V1 w) (h2 : OwnI xs V2 w) :
    Calls Try.prog 12 #[V1, V2] w fun e w' => e = .returned (.bool true) ∧ Below w.heap.size w w' := by
  obtain ⟨B1, h1⟩ := h1
  obtain ⟨B2, h2⟩ := h2
  obtain ⟨A1, c1, rfl⟩ := Cel.own_slice h1
  obtain ⟨A2, c2, rfl⟩ := Cel.own_slice h2
  have H1 := Lib.hid h1
  have H2 := Lib.hid h2
  obtain ⟨n, hn⟩ : ∃ n, xs.length = n := ⟨_, rfl⟩
  have HN := Lib.hid hn
  rw [hn] at hl H1 H2
  rw [hn]
  have tne : ((n : Int) != (n : Int)) = false := by simp
  clear h1 h2 hn
  go_enter Try.func12, Try.ntmps12
  go_wp2
  go_loopw [5] (fun i wr => ∃ k m : Nat, k ≤ n ∧ i = .int .i64 k ∧ wr = w.drewN m) (fun i _ => n - (intOf i).toNat)
  case atStart => exact ⟨0, 0, Nat.zero_le _, rfl, rfl⟩
  case round =>
    obtain ⟨k, mm, hk, rfl, hw⟩ := hrel
    have HW := Lib.hid hw
    by_cases hlt : k < n
    · obtain ⟨x, hx⟩ : ∃ x, xs[k]? = some x := ⟨_, List.getElem?_eq_getElem (by have := HN.out; omega)⟩
      obtain ⟨g1, d1, q1, _, _, _⟩ := own_some H1.out (by omega)
      obtain ⟨g2, d2, q2, _, _, _⟩ := own_some H2.out (by omega)
      simp only [Value.slice.injEq] at q1 q2
      obtain ⟨rfl, _, rfl⟩ := q1
      obtain ⟨rfl, _, rfl⟩ := q2
      have c1' : wr.cell? ⟨g1, k, none⟩ = some (.int .i64 x) := by rw [hw]; exact (H1.out.cellAt k (by omega)).trans (by simp [hx])
      have c2' : wr.cell? ⟨g2, k, none⟩ = some (.int .i64 x) := by rw [hw]; exact (H2.out.cellAt k (by omega)).trans (by simp [hx])
      have tx : (x != x) = false := by simp
      have hki : (0 : Int) ≤ k := by omega
      have hka : (k : Int) < n := by omega
      clear hw hx H1 H2
      go_wp2
      go_quiet (fail)
      go_wp2
      go_roundw
      case rel => exact ⟨k + 1, mm + nq, by omega, by go_num, by rw [HW.out, World.drewN_drewN]⟩
      case measure => simp [intOf]; omega
    · obtain rfl : k = n := by omega
      clear hw
      go_wp2
      go_ret
      exact ⟨rfl, by rw [HW.out]; exact below_drewN (Below.refl _ _) mm⟩
/-- Two rows of the call's own, apart. -/
structure TR (W0 : World) (V1 : Value) (S1 : List Int) (V2 : Value) (S2 : List Int) (W : World) : Prop where
  r1 : W.ownsRow W0.heap.size 3 1 V1 S1.length (S1.map (Value.int .i64))
  r2 : W.ownsRow W0.heap.size 3 1 V2 S2.length (S2.map (Value.int .i64))
  ap : ∀ j, V1.ownBlock = some j → V2.ownBlock ≠ some j
  bel : Below W0.heap.size W0 W
theorem TR.keep {W0 W W' : World} {V1 V2 : Value} {S1 S2 : List Int} (f : TR W0 V1 S1 V2 S2 W) (b : Below W.heap.size W W') : TR W0 V1 S1 V2 S2 W' := ⟨own_keepP f.r1 b, own_keepP f.r2 b, f.ap, f.bel.trans (b.mono f.bel.size)⟩
theorem TR.swap {W0 W : World} {V1 V2 : Value} {S1 S2 : List Int} (f : TR W0 V1 S1 V2 S2 W) : TR W0 V2 S2 V1 S1 W := ⟨f.r2, f.r1, fun j h k => f.ap j k h, f.bel⟩
theorem TR.more {W0 W W' : World} {V1 V1' V2 : Value} {S1 S2 : List Int} {x : Int} (f : TR W0 V1 S1 V2 S2 W) (hg : W.grownBy W' V1.ownBlock) (ho : W'.ownsRow W0.heap.size 3 1 V1' (S1.length + 1) (S1.map (Value.int .i64) ++ [.int .i64 x])) (hat : V1'.ownBlock = V1.ownBlock ∨ V1'.ownBlock = some W.heap.size) : TR W0 V1' (S1 ++ [x]) V2 S2 W' := by
  refine ⟨by simpa using ho, ?_, fun j hj => ?_, f.bel.grown hg f.bel.size (fun k hk => (f.r1.lt k hk).1)⟩
  · cases hv : V1.ownBlock with
    | none =>
      rw [hv] at hg
      have j : Rdr.Just W.heap.size W W' := ⟨hg.os, hg.tape, hg.output, hg.size, fun k hk _ => hg.block k hk (by simp)⟩
      exact row_just f.r2 j fun k hk => by have := (f.r2.lt k hk).2; omega
    | some k0 =>
      rw [hv] at hg
      exact row_just f.r2 (just_of_grown hg) fun k hk e => f.ap k0 hv (by rw [hk, e])
  · rcases hat with h | h
    · rw [h] at hj; exact f.ap j hj
    · rw [h] at hj
      intro e
      have h1 := Option.some.inj hj
      have h2 := (f.r2.lt j e).2
      omega
end Go.Proofs.Ytnngldkpkhabeaa.Rel
