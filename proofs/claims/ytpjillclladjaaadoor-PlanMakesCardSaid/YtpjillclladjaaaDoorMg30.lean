/- Plans: what plan.Make tells. Condition: at most 1,000 needs. -/
import Derived.Test.YtpjillclladjaaaDoorMg27
import Derived.Test.YtpjillclladjaaaDoorMg29
import Derived.Deep.WholeRow
namespace Go.Proofs.YtpjillclladjaaaDoor.Pln

open Go.RowKit Go.PlainAid Go.Proofs.YtpjillclladjaaaDoor.Oct Go.Proofs.YtpjillclladjaaaDoor.Flt Go.Proofs.YtpjillclladjaaaDoor.Rdr Go.Proofs.YtpjillclladjaaaDoor.Args Go.Proofs.YtpjillclladjaaaDoor.Nee Go.Proofs.YtpjillclladjaaaDoor.Win

open Go.Proofs.YtpjillclladjaaaDoor.Act (A3 ActsAt I64 Wide row_beside row_base)

set_option linter.unusedVariables false

set_option linter.unusedSimpArgs false

/-! ### Plain -/

def mkW (fr : Int) (l : List A3) : Nat × List (Bool × Int) :=
  if fr < 1 ∨ 4096 < fr then (18, []) else if ¬ (chkP fr (-1) 0 l).1 = 0 then ((chkP fr (-1) 0 l).1, [(false, (chkP fr (-1) 0 l).2)]) else if 0 ≤ flR l fr.toNat then (14, [(false, flR l fr.toNat)]) else (0, [])
theorem bad1P_ok {fr last : Int} {x : A3} (h : bad1P fr last x = 0) : last < x.s ∧ 0 ≤ x.s ∧ x.s ≤ 255 ∧ 1 ≤ x.p ∧ fr % x.p = 0 ∧ 0 ≤ x.a ∧ x.a ≤ x.p := by
  unfold bad1P at h
  by_cases c1 : x.s < 0 ∨ 255 < x.s
  · rw [if_pos c1] at h; omega
  · rw [if_neg c1] at h
    by_cases c2 : x.s ≤ last
    · rw [if_pos c2] at h; omega
    · rw [if_neg c2] at h
      by_cases c3 : x.p < 1 ∨ ¬ fr % x.p = 0
      · rw [if_pos c3] at h; omega
      · rw [if_neg c3] at h
        by_cases c4 : x.a < 0 ∨ x.p < x.a
        · rw [if_pos c4] at h; omega
        · refine ⟨by omega, by omega, by omega, by omega, ?_, by omega, by omega⟩
          by_cases c5 : fr % x.p = 0
          · exact c5
          · exact absurd (.inr c5) c3
theorem chkP_ok (fr : Int) : ∀ (l : List A3) (last : Int) (i : Nat), (chkP fr last i l).1 = 0 → l.Pairwise (fun a b => a.s < b.s) ∧ ∀ x ∈ l, last < x.s ∧ 0 ≤ x.s ∧ x.s ≤ 255 ∧ 1 ≤ x.p ∧ fr % x.p = 0 ∧ 0 ≤ x.a ∧ x.a ≤ x.p
  | [], _, _, _ => ⟨List.Pairwise.nil, fun x hx => by simp at hx⟩
  | x :: r, last, i, h => by
    unfold chkP at h
    by_cases c : bad1P fr last x = 0
    · rw [if_pos c] at h
      obtain ⟨h1, h2⟩ := chkP_ok fr r x.s (i + 1) h
      have h3 := bad1P_ok c
      refine ⟨List.pairwise_cons.2 ⟨fun y hy => (h2 y hy).1, h1⟩, fun y hy => ?_⟩
      rcases List.mem_cons.1 hy with rfl | hy
      · exact h3
      · have h4 := h2 y hy
        exact ⟨by omega, h4.2⟩
    · rw [if_neg c] at h
      exact absurd h c
theorem nd_get {l : List A3} {k : Nat} (h : k < l.length) : nd l k = l[k] := by
  unfold nd
  rw [List.getElem?_eq_getElem h]; rfl
theorem perOk_of {fr : Int} {l : List A3} (hf : 1 ≤ fr ∧ fr ≤ 4096) (h : (chkP fr (-1) 0 l).1 = 0) : PerOk l ∧ IdsOk l ∧ ∀ k, k < l.length → fr % (nd l k).p = 0 ∧ (nd l k).s ≤ 255 := by
  obtain ⟨h1, h2⟩ := chkP_ok fr l (-1) 0 h
  refine ⟨fun k hk => ?_, ⟨fun i j hij hj => ?_, fun k hk => (h2 _ (nd_mem hk)).2.1⟩, fun k hk => ⟨(h2 _ (nd_mem hk)).2.2.2.2.1, (h2 _ (nd_mem hk)).2.2.1⟩⟩
  · obtain ⟨_, _, _, h6, h7, h8, h9⟩ := h2 _ (nd_mem hk)
    refine ⟨h6, ?_, h8, h9⟩
    rcases Int.lt_or_le fr (nd l k).p with h10 | h10
    · rw [Int.emod_eq_of_lt (by omega) h10] at h7; omega
    · omega
  · rw [nd_get (show i < l.length by omega), nd_get hj]
    exact List.pairwise_iff_getElem.1 h1 i j (by omega) hj hij
theorem fl_stay (l : List A3) (t : Nat) (h : 0 ≤ flR l t) : ∀ m, flR l (t + m) = flR l t
  | 0 => rfl
  | m + 1 => by
    have ih := fl_stay l t h m
    rw [show t + (m + 1) = (t + m) + 1 by omega, flR, if_pos (by omega), ih]
theorem run_ok (l : List A3) (hp : PerOk l) (t : Nat) : ROk l (begR l t (runR l t).1) := fun k hk => (run_pos l hp.nd t k hk).2
/-! ### Rows that are filled -/

def zJ : List Value := [.int .i64 0, .int .i64 0, .int .i64 0, .int .i64 0]
def fillB (D : List (List Value)) (n : Nat) (z : List Value) : List (List Value) := D ++ List.replicate (n - D.length) z
theorem fill_set (D : List (List Value)) (n : Nat) (z b : List Value) (h : D.length < n) : (fillB D n z).set D.length b = fillB (D ++ [b]) n z := by
  unfold fillB
  have e : n - D.length = (n - (D.length + 1)) + 1 := by omega
  rw [List.length_append, List.length_singleton, e, List.replicate_succ, List.set_append_right _ _ (Nat.le_refl _), Nat.sub_self]
  simp
theorem fill_all {D : List (List Value)} {n c : Nat} {z : List Value} (h : ∀ x ∈ D, x.length = c) (hz : z.length = c) : ∀ x ∈ fillB D n z, x.length = c := by
  intro x hx
  rcases List.mem_append.1 hx with hx | hx
  · exact h x hx
  · rw [(List.mem_replicate.1 hx).2]; exact hz
theorem fill_len (D : List (List Value)) (n : Nat) (z : List Value) (h : D.length ≤ n) : (fillB D n z).length = n := by unfold fillB; rw [List.length_append, List.length_replicate]; omega
theorem jD_snoc (l : List A3) (r : Nat → Int) (k : Nat) : jD l r (k + 1) = jD l r k ++ [[.int .i64 (nd l k).s, .int .i64 (nd l k).p, .int .i64 (nd l k).a, .int .i64 (r k)]] := by
  unfold jD
  rw [List.range_succ, List.map_append]; rfl
theorem infoJob : (Tryd.prog.info? 66).map (fun i => (i.zero, i.size, i.bytes)) = some (some (.agg #[.int .i64 0, .int .i64 0, .int .i64 0, .int .i64 0]), 4, 32) := by kernel_rfl
theorem wrongA_if {w : World} {x : Value} {k : Nat} {a : Int} (h : WrongA w x k a) (hk : k ≠ 0) : ∃ u y, x = .iface u y := by
  rcases h with ⟨h, _⟩ | ⟨_, _, g, y, rfl, _⟩
  · exact absurd h hk
  · exact ⟨_, _, rfl⟩
def MkA (l : List A3) (n G : Nat) (w : World) (i : Value) (W : World) : Prop :=
  ∃ k : Nat, k ≤ n ∧ i = .int .i64 (k : Int) ∧ BR G 66 (fillB (jD l (fun _ => 0) k) n zJ) W ∧ Below w.heap.size w W
structure MkS (l : List A3) (n G k : Nat) (V : Value) (w W : World) : Prop where
  br : BR G 66 (jD l (runR l k).1 n) W
  own : W.ownsRow (G + 1) 3 1 V k ((runR l k).2.map (Value.int .i64))
  below : Below w.heap.size w W
  fl : flR l k = -1
def MkB (l : List A3) (n G fr : Nat) (w : World) (v i : Value) (W : World) : Prop :=
  ∃ k : Nat, k ≤ fr ∧ i = .int .i64 (k : Int) ∧ MkS l n G k v w W
theorem own_slice1 {w : World} {B n : Nat} {T : TypeId} {V : Value} {xs : List Value} (h : w.ownsRow B T 1 V n xs) : ∃ A c, V = .slice A n c ∧ ∀ y, A = some y → B ≤ y.block := by
  rcases h.2 with ⟨rfl, h0⟩ | ⟨g', c', cur, rfl, hb, _⟩
  · exact ⟨none, 0, by rw [h0], fun y e => by cases e⟩
  · exact ⟨_, _, rfl, fun y e => by cases e; exact hb⟩
theorem run_stN (W : World) (a b c : Int) : Sem.run Tryd.prog (storeVar 44 ⟨W.heap.size, 0, none⟩ (.agg #[.int .i64 a, .int .i64 b, .int .i64 c])) (W.alloc (.cells #[.int .i64 0, .int .i64 0, .int .i64 0] 44)) = .ok () (W.alloc (.cells #[.int .i64 a, .int .i64 b, .int .i64 c] 44)) :=
  run_storeVar_new W _ _ _ (by kernel_rfl) rfl (by simp [Value.oneCell'])
theorem run_stI (W : World) (a : Int) : Sem.run Tryd.prog (storeVar 3 ⟨W.heap.size, 0, none⟩ (.int .i64 a)) (W.alloc (.cells #[.int .i64 0] 3)) = .ok () (W.alloc (.cells #[.int .i64 a] 3)) := by go_simp
def MkPost (l : List A3) (q : Nat × List (Bool × Int)) (F : Nat) (w : World) (e : Ending) (w' : World) : Prop :=
  ∃ V x, e = .returned (.tuple #[V, x]) ∧ (¬ q.1 = 0 → V = .slice none 0 0 ∧ IsFault w' x q.2 (q.1 : Nat)) ∧ (q.1 = 0 → x = .nilIface ∧ ∃ A c, V = .slice A F c ∧ w'.ownsRow w.heap.size 3 1 (.slice A F c) F ((runR l F).2.map (Value.int .i64))) ∧ Below w.heap.size w w'
section
attribute [-go_sem] storeVar
set_option maxRecDepth 16000 in
set_option maxHeartbeats 12800000 in
theorem make_any (fr : Int) (P : Option Addr) (pc n : Nat) (l : List A3) (w : World) (hn : Names w) (h1 : ActsAt w P l) (hw : ∀ x ∈ l, Wide x) (hl : l.length = n) (hl2 : n ≤ 1000) :
    Calls Tryd.prog 8 #[.int .i64 fr, .slice P n pc] w (MkPost l (mkW fr l) fr.toNat w) := by
  obtain ⟨i0, hi0, hz0, hz1, hz2⟩ := info_parts infoJob
  obtain ⟨i1, hi1, hy0, hy1, hy2⟩ := info_parts infoInt
  have HNW := Lib.hid (fun W (b : Below w.heap.size w W) => hn.kept b)
  have HACT := Lib.hid (fun W (b : Below w.heap.size w W) => h1.kept b)
  have HL := Lib.hid hl
  have HL2 : Hid (n ≤ 1000) := hl2
  have HWR := Lib.hid (pwrong_any fr P pc n l w hn h1 hw hl hl2)
  obtain ⟨q, hq⟩ : ∃ q, mkW fr l = q := ⟨_, rfl⟩
  have HQ := Lib.hid hq
  obtain ⟨F, hF⟩ : ∃ F, fr.toNat = F := ⟨_, rfl⟩
  have HFF := Lib.hid hF
  rw [hq, hF]
  have HPB : Hid (∀ V x w', ¬ q.1 = 0 → V = .slice none 0 0 → IsFault w' x q.2 (q.1 : Nat) → Below w.heap.size w w' → MkPost l q F w (.returned (.tuple #[V, x])) w') := fun V x w' h1 h2 h3 h4 => ⟨V, x, rfl, fun _ => ⟨h2, h3⟩, fun h => absurd h h1, h4⟩
  have HPG : Hid (∀ A c w', q.1 = 0 → w'.ownsRow w.heap.size 3 1 (.slice A F c) F ((runR l F).2.map (Value.int .i64)) → Below w.heap.size w w' → MkPost l q F w (.returned (.tuple #[.slice A F c, .nilIface])) w') := fun A c w' h1 h2 h4 => ⟨_, _, rfl, fun h => absurd h1 h, fun _ => ⟨rfl, A, c, rfl, h2⟩, h4⟩
  show Calls _ _ _ _ (MkPost l q F w)
  clear hn h1 hw hl hl2 hq hF
  go_enter Tryd.func8, Tryd.ntmps8
  go_wp2_with fail
  refine HWR.out.mono ?_
  rintro e w1 ⟨x1, rfl, hx1, hx2, hb1⟩
  have HB1 := Lib.hid hb1
  have HX1 := Lib.hid hx1
  have HX2 := Lib.hid hx2
  clear hx1 hx2 hb1 HWR
  by_cases c0 : fr < 1 ∨ 4096 < fr
  · have hx := HX1.out c0
    have HE : Hid (q = (18, [])) := by show _ = _; rw [← HQ.out]; unfold mkW; rw [if_pos c0]
    obtain rfl : x1 = .iface 94 (.int .i64 18) := hx
    clear c0
    go_wp2
    go_ret2
    exact HPB.out _ _ _ (by rw [HE.out]; decide) rfl (by rw [HE.out]; rfl) HB1.out
  · have hx := HX2.out c0
    have HF : Hid (1 ≤ fr ∧ fr ≤ 4096) := ⟨by omega, by omega⟩
    rcases hx with ⟨k0, a0, rfl⟩ | ⟨k1, k2, hflt⟩
    · have HOKS := Lib.hid (perOk_of HF.out k0)
      have HQ3 : Hid (q = if 0 ≤ flR l F then (14, [(false, flR l F)]) else (0, [])) := by
        show _ = _
        rw [← HQ.out, ← HFF.out]
        unfold mkW
        rw [if_neg c0, if_neg (by rw [k0]; simp)]
      clear k0 a0 c0 HX1 HX2 HQ
      obtain rfl : fr = (F : Int) := by have := HFF.out; have := HF.out; omega
      clear HFF
      go_wp2_with (first | (at_make; refine wpList_make_blk _ rfl _ _ 64 rfl 66 i0 (.agg #[.int .i64 0, .int .i64 0, .int .i64 0, .int .i64 0]) 4 Tryd.underlying64 hi0 hz0 hz1 (by decide) rfl _ _ _ _ n rfl rfl ?e1 ?e2 ?e3 ?e4 ?_) | fail)
      case e1 => rfl
      case e2 => rfl
      case e3 => have := HL2.out; rw [hz2]; omega
      case e4 => have := HL2.out; omega
      intro w2 hbr2 hb2
      have HS0 : Hid (MkA l n w1.heap.size w (.int .i64 0) w2) := by
        refine ⟨0, Nat.zero_le _, rfl, ?_, HB1.out.trans (hb2.mono HB1.out.size)⟩
        have h := hbr2.out
        simpa [fillB, zJ, jD] using h
      obtain ⟨G, hG⟩ : ∃ G, w1.heap.size = G := ⟨_, rfl⟩
      have HGW : Hid (w.heap.size ≤ G) := by rw [← hG]; exact HB1.out.size
      rw [hG] at HS0
      rw [hG]
      clear hbr2 hb2 hG
      go_wp2_with fail
      go_loopw [25] (fun i W => MkA l n G w i W) (fun i _ => n - (intOf i).toNat)
      case atStart => exact HS0.out
      case round =>
        obtain ⟨W0, hW0⟩ : ∃ X, wr = X := ⟨_, rfl⟩
        rw [hW0] at hrel
        rw [hW0]
        clear hW0 wr HS0
        obtain ⟨k, hk, rfl, hbr, hb⟩ := hrel
        have HBR := Lib.hid hbr
        have HB := Lib.hid hb
        have hl2 := HL2.out
        clear hbr hb
        by_cases hlt : k < n
        · have hkl : k < l.length := by rw [HL.out]; exact hlt
          obtain ⟨ax, rfl, g0, g1, g2⟩ := HACT.out W0 HB.out k _ (nd_at hkl)
          have hsn := jD_snoc l (fun _ => 0) k
          obtain ⟨x, hx⟩ : ∃ x, nd l k = x := ⟨_, rfl⟩
          rw [hx] at g0 g1 g2 hsn
          obtain ⟨s, p, a⟩ := x
          dsimp only at g0 g1 g2 hsn
          have hb1 : Below W0.heap.size W0 (W0.alloc (.cells #[.int .i64 s, .int .i64 p, .int .i64 a] 44)) := (Below.refl _ _).alloc (Nat.le_refl _) _
          have hx1 := heap_alloc_new W0 (.cells #[.int .i64 s, .int .i64 p, .int .i64 a] 44)
          have hbr1 := HBR.out.keep hb1
          have hall : ∀ x ∈ fillB (jD l (fun _ => 0) k) n zJ, x.length = 4 := fill_all (jD_all _ _ _) rfl
          have hst := hbr1.store (ty := 66) 4 hall #[.int .i64 s, .int .i64 p, .int .i64 a, .int .i64 0] rfl (by kernel_rfl) (by simp [Value.oneCell']) (i := k) (by rw [fill_len _ _ _ (by rw [jD_len]; omega)]; exact hlt)
          have he := fill_set (jD l (fun _ => 0) k) n zJ [.int .i64 s, .int .i64 p, .int .i64 a, .int .i64 0] (by rw [jD_len]; exact hlt)
          rw [jD_len, ← hsn] at he
          simp only [List.toList_toArray] at hst
          rw [he] at hst
          have hjs := just_setRow (W0.alloc (.cells #[.int .i64 s, .int .i64 p, .int .i64 a] 44)) G (fillB (jD l (fun _ => 0) (k + 1)) n zJ).flatten.toArray
          have hbs := hbr1.set (fillB (jD l (fun _ => 0) (k + 1)) n zJ)
          have hrun := run_stN W0 s p a
          obtain ⟨W1, hW1⟩ : ∃ X, W0.alloc (.cells #[.int .i64 s, .int .i64 p, .int .i64 a] 44) = X := ⟨_, rfl⟩
          obtain ⟨Q, hQ⟩ : ∃ Q, W0.heap.size = Q := ⟨_, rfl⟩
          rw [hW1] at hrun hst hjs hbs hx1 hb1 hbr1
          rw [hQ] at hrun hx1
          obtain ⟨W2, hW2⟩ : ∃ X, W1.setRow G (fillB (jD l (fun _ => 0) (k + 1)) n zJ).flatten.toArray = X := ⟨_, rfl⟩
          rw [hW2] at hst hjs hbs
          have z0 : W1.cell? ⟨Q, 0, none⟩ = some (.int .i64 s) := by rw [cell_of_row _ _ _ _ _ _ hx1]; rfl
          have z1 : W1.cell? ⟨Q, 1, none⟩ = some (.int .i64 p) := by rw [cell_of_row _ _ _ _ _ _ hx1]; rfl
          have z2 : W1.cell? ⟨Q, 2, none⟩ = some (.int .i64 a) := by rw [cell_of_row _ _ _ _ _ _ hx1]; rfl
          have HBF : Hid (Below w.heap.size w W2) := (HB.out.trans (hb1.mono HB.out.size)).trans (hjs.below HGW.out (Nat.lt_of_lt_of_le hbr1.lt (Nat.le_refl _)))
          have HBRF := Lib.hid hbs
          have HQQ := Lib.hid hQ
          have HKN : Hid (k < n) := hlt
          have hki : (0 : Int) ≤ k := by omega
          have hkb : (k : Int) < n := by omega
          have hk1 : IntKind.i64.wrap ((k : Int) + 1) = (k : Int) + 1 := IntWalk.i64_in _ (by omega)
          clear hb1 hx1 hbr1 hall he hsn hjs hbs hW1 hW2 hx hk hkl
          go_wp2
          go_roundw
          case rel => exact ⟨k + 1, by have := HKN.out; omega, by go_num, HBRF.out, HBF.out⟩
          case measure => have := HKN.out; simp [intOf]; omega
        · obtain rfl : k = n := by omega
          have HJ0 : Hid (BR G 66 (jD l (runR l 0).1 k) W0) := by
            have h := HBR.out
            unfold fillB at h
            rw [jD_len, Nat.sub_self, List.replicate_zero, List.append_nil] at h
            exact h
          have HBG := Lib.hid HB.out
          have hGl := HJ0.out.lt
          clear HBR HB
          go_wp2_with ((with_reducible show wpList _ _ _ _ _ _); refine wpList_make_own _ rfl _ _ 24 rfl (G + 1) 3 i1 (.int .i64 0) 1 Tryd.underlying24 hi1 hy0 hy1 .i64 .i64 (F : Int) F rfl rfl rfl ?m1 ?m2 ?m3 ?_)
          case m1 => have := HF.out; rw [hy2]; omega
          case m2 => have := HF.out; unfold maxLen; omega
          case m3 => omega
          intro w3 ho3 hg3
          have hb3 : Below w.heap.size w w3 := HBG.out.grown hg3 HBG.out.size (fun q hq => by cases hq)
          have hbr3 : BR G 66 (jD l (runR l 0).1 k) w3 := (hg3.block _ hGl (fun e => by cases e)).trans HJ0.out
          have HS1 : Hid (MkB l k G F w (.slice (some ⟨W0.heap.size, 0, none⟩) 0 F) (.int .i64 0) w3) := ⟨0, Nat.zero_le _, rfl, hbr3, ho3, hb3, rfl⟩
          clear ho3 hg3 hb3 hbr3 HJ0 hGl HBG
          go_wp2_with fail
          go_loopw [10, 39] (fun v i W => MkB l k G F w v i W) (fun _ i _ => F - (intOf i).toNat)
          case atStart => exact HS1.out
          case round =>
            obtain ⟨W0, hW0⟩ : ∃ X, wr = X := ⟨_, rfl⟩
            rw [hW0] at hrel
            rw [hW0]
            clear hW0 wr HS1
            obtain ⟨j, hj, rfl, hms⟩ := hrel
            obtain ⟨VA, VC, hv, hvb⟩ := own_slice1 hms.own
            subst hv
            have HMS := Lib.hid hms
            have hff := HF.out
            clear hms hvb
            by_cases hjt : j < F
            · have hll : k ≤ 1000 := HL2.out
              have hb1 : Below W0.heap.size W0 (W0.alloc (.cells #[.int .i64 (j : Int)] 3)) := (Below.refl _ _).alloc (Nat.le_refl _) _
              have hx1 := heap_alloc_new W0 (.cells #[.int .i64 (j : Int)] 3)
              have hrun := run_stI W0 (j : Int)
              have hbr1 := HMS.out.br.keep hb1
              have ho1 := owns_kept HMS.out.own hb1
              have hbw1 := HMS.out.below.trans (hb1.mono HMS.out.below.size)
              have HLB : Hid (∀ q, (Value.slice VA j VC).ownBlock = some q → G + 1 ≤ q ∧ q < W0.heap.size) := fun q h => HMS.out.own.lt q h
              have hfl := HMS.out.fl
              have hfs : flR l (j + 1) = lateR l j := by rw [flR, hfl, if_neg (by omega)]
              obtain ⟨TB, hTB⟩ : ∃ Q, W0.heap.size = Q := ⟨_, rfl⟩
              obtain ⟨W1, hW1⟩ : ∃ X, W0.alloc (.cells #[.int .i64 (j : Int)] 3) = X := ⟨_, rfl⟩
              have hGT : G < TB := by rw [← hTB]; exact HMS.out.br.lt
              rw [hW1] at hrun hx1 hbr1 ho1 hbw1
              rw [hTB] at hrun hx1 HLB
              have HBE := Lib.hid (begin_any l (j : Int) (runR l j).1 G k k W1 hbr1 HL.out (by omega) HOKS.out.1 ⟨by omega, by omega⟩)
              have HX1 := Lib.hid hx1
              have HO1 := Lib.hid ho1
              have HBW1 := Lib.hid hbw1
              have HGT := Lib.hid hGT
              have HTB := Lib.hid hTB
              have HFS := Lib.hid hfs
              have z0 : W1.cell? ⟨TB, 0, none⟩ = some (.int .i64 (j : Int)) := by rw [cell_of_row _ _ _ _ _ _ hx1]; rfl
              have HJF : Hid (j < F ∧ F ≤ 4096) := ⟨hjt, by omega⟩
              have hji : (0 : Int) ≤ j := by omega
              have hjb : (j : Int) < F := by omega
              have hj1 : IntKind.i64.wrap ((j : Int) + 1) = (j : Int) + 1 := IntWalk.i64_in _ (by omega)
              clear hb1 hx1 hbr1 ho1 hbw1 hfl hfs hGT hW1 hjt hj
              go_wp2_with fail
              refine HBE.out.mono ?_
              rintro e W2 ⟨rfl, hbr2, hj2⟩
              have HX2 := Lib.hid ((hj2.block _ (lt_of_block HX1.out) (by have := HGT.out; omega)).trans HX1.out)
              have HO2 := Lib.hid (row_beside HO1.out hj2 (fun q h => by have := (HLB.out q h).1; omega))
              have hgl2 : G < W1.heap.size := Nat.lt_trans HGT.out (lt_of_block HX1.out)
              have HBW2 := Lib.hid (HBW1.out.trans (hj2.below HGW.out hgl2))
              have HGI := Lib.hid (give_any l (j : Int) (begR l (j : Int) (runR l j).1) G k k W2 hbr2 HL.out (by omega) HOKS.out.1 ⟨by omega, by omega⟩ (run_ok l HOKS.out.1 j))
              have z1 : W2.cell? ⟨TB, 0, none⟩ = some (.int .i64 (j : Int)) := by rw [cell_of_row _ _ _ _ _ _ HX2.out]; rfl
              clear hbr2 hj2 hgl2 z0 HBE HX1 HO1 HBW1 hrun
              go_wp2_with fail
              refine HGI.out.mono ?_
              rintro e W3 ⟨rfl, hbr3, hj3⟩
              have hbe : bstR l (j : Int) (begR l (j : Int) (runR l j).1) k = bestR l (j : Int) (runR l j).1 := by unfold bestR; rw [HL.out]
              rw [hbe] at hbr3
              rw [hbe]
              have hr1 : updR (begR l (j : Int) (runR l j).1) (bestR l (j : Int) (runR l j).1) = (runR l (j + 1)).1 := rfl
              have hr2 : (runR l (j + 1)).2 = (runR l j).2 ++ [idR l (bestR l (j : Int) (runR l j).1)] := rfl
              rw [hr1] at hbr3
              obtain ⟨di, hdi⟩ : ∃ d, idR l (bestR l (j : Int) (runR l j).1) = d := ⟨_, rfl⟩
              rw [hdi] at hr2
              rw [hdi]
              have hgl3 : G < W2.heap.size := Nat.lt_trans HGT.out (lt_of_block HX2.out)
              have hb4 : Below W3.heap.size W3 (W3.alloc (.cells #[.int .i64 di] 3)) := (Below.refl _ _).alloc (Nat.le_refl _) _
              have hx3 := (hj3.block _ (lt_of_block HX2.out) (by have := HGT.out; omega)).trans HX2.out
              have hbw3 := HBW2.out.trans (hj3.below HGW.out hgl3)
              have HX4 := Lib.hid ((hb4.block _ (lt_of_block hx3)).trans hx3)
              have HO4 := Lib.hid (owns_kept (row_beside HO2.out hj3 (fun q h => by have := (HLB.out q h).1; omega)) hb4)
              have HBR4 := Lib.hid (hbr3.keep hb4)
              have HBW4 := Lib.hid (hbw3.trans (hb4.mono hbw3.size))
              have HN4 := Lib.hid (heap_alloc_new W3 (.cells #[.int .i64 di] 3))
              have HR2 := Lib.hid hr2
              clear hbr3 hj3 hbe hr1 hr2 hdi hgl3 hb4 hx3 hbw3 z1 HGI HX2 HO2 HBW2
              go_wp2_with (at_builtin; refine wpList_append_own _ rfl _ _ 24 rfl (G + 1) 3 i1 (.int .i64 0) 1 8 Tryd.underlying24 hi1 hy0 hy1 hy2 rfl (by decide) _ j _ rfl HO4.out ⟨W3.heap.size, 0, none⟩ 1 1 [.int .i64 di] rfl rfl ?d1 ?d2 ?d3 ?d4 ?d5 ?_)
              case d1 =>
                intro i u hi
                have e : (Addr.mk W3.heap.size 0 none).add i = ⟨W3.heap.size, i, none⟩ := by cases i <;> simp [Addr.add]
                rw [e, cell_of_row _ _ _ _ _ _ HN4.out, ← hi]
                simp
              case d2 => intro u hu; simp at hu; rw [hu]; rfl
              case d3 => have := HJF.out; unfold maxLen; omega
              case d4 => have := HJF.out; omega
              case d5 => exact HBR4.out.lt
              intro v' W5 ho5 hg5 _
              obtain ⟨A5, c5, hv5, _⟩ := own_slice1 ho5
              subst hv5
              have HBR5 : Hid (BR G 66 (jD l (runR l (j + 1)).1 k) W5) := (hg5.block _ HBR4.out.lt (fun e => by have := (HLB.out G e.symm).1; omega)).trans HBR4.out
              have HX5 := Lib.hid ((hg5.block _ (lt_of_block HX4.out) (fun e => by have := (HLB.out TB e.symm).2; omega)).trans HX4.out)
              have HBW5 : Hid (Below w.heap.size w W5) := HBW4.out.grown hg5 HBW4.out.size (fun q hq => by have := (HLB.out q hq).1; have := HGW.out; omega)
              have HO5 : Hid (W5.ownsRow (G + 1) 3 1 (.slice A5 (j + 1) c5) (j + 1) ((runR l (j + 1)).2.map (Value.int .i64))) := by
                show World.ownsRow _ _ _ _ _ _ _
                rw [HR2.out, List.map_append]
                exact ho5
              have z5 : W5.cell? ⟨TB, 0, none⟩ = some (.int .i64 (j : Int)) := by rw [cell_of_row _ _ _ _ _ _ HX5.out]; rfl
              have hix := indexj_any l (j : Int) (runR l (j + 1)).1 G k k TB W5 HBR5.out HL.out (by omega) HOKS.out.1 ⟨by omega, by omega⟩ z5
              have hlt5 : ltR l (j : Int) (runR l (j + 1)).1 k = lateR l j := by unfold lateR; rw [HL.out]
              rw [hlt5] at hix
              have HIX := Lib.hid hix
              clear ho5 hg5 hix hlt5 HO4 HBR4 HX4 HBW4 HN4 HR2 z5
              go_wp2_with fail
              refine HIX.out.mono ?_
              rintro e W6 ⟨rfl, hb6⟩
              have HB6 := Lib.hid (HBW5.out.trans (hb6.mono HBW5.out.size))
              have HBR6 := Lib.hid (HBR5.out.keep hb6)
              have HO6 := Lib.hid (owns_kept HO5.out hb6)
              have HN6 := Lib.hid (HNW.out W6 HB6.out)
              obtain ⟨z, hz⟩ : ∃ z, lateR l j = z := ⟨_, rfl⟩
              have HZ : Hid (flR l (j + 1) = z) := by show _ = _; rw [HFS.out, hz]
              have HZR : Hid (z = -1 ∨ 0 ≤ z) := by
                show _ ∨ _
                rw [← hz]
                unfold lateR
                rcases lt_range l j (runR l (j + 1)).1 l.length with ⟨e, _⟩ | ⟨m, _, e, _⟩
                · exact .inl e
                · right; rw [e]; omega
              rw [hz]
              clear hb6 hz HIX HBR5 HO5 HX5
              by_cases hz0 : 0 ≤ z
              · have HE : Hid (q = (14, [(false, z)])) := by
                  show _ = _
                  have h := fl_stay l (j + 1) (by rw [HZ.out]; exact hz0) (F - (j + 1))
                  rw [show j + 1 + (F - (j + 1)) = F by have := HJF.out; omega, HZ.out] at h
                  rw [HQ3.out, h, if_pos hz0]
                go_wp2_with (first | (go_at_call 39; refine (new_yes 14 (by omega) (by omega) _ HN6.out).mono ?_; rintro e W8 ⟨rfl, rfl⟩) | (go_at_call 38; refine (at_any z _ [] 14 W6 rfl).mono ?_; rintro e W9 ⟨y9, rfl, hy9, hb9⟩; have HY9 := Lib.hid hy9; have HB9 := Lib.hid (HB6.out.trans (hb9.mono HB6.out.size)); clear hy9 hb9))
                go_ret2
                exact HPB.out _ _ _ (by rw [HE.out]; simp) rfl (by rw [HE.out]; exact HY9.out) HB9.out
              · have hzm : z = -1 := HZR.out.resolve_right hz0
                have HNX : Hid (MkS l k G (j + 1) (.slice A5 (j + 1) c5) w W6) := ⟨HBR6.out, HO6.out, HB6.out, HZ.out.trans hzm⟩
                clear hzm
                go_wp2
                go_roundw
                case rel => exact ⟨j + 1, by have := HJF.out; omega, by go_num, HNX.out⟩
                case measure => have := HJF.out; simp [intOf]; omega
            · obtain rfl : j = F := by omega
              have HE : Hid (q = (0, [])) := by show _ = _; rw [HQ3.out, HMS.out.fl, if_neg (by omega)]
              have HO := Lib.hid (row_base HMS.out.own (show w.heap.size ≤ G + 1 by have := HGW.out; omega))
              have HB := Lib.hid HMS.out.below
              clear HMS
              go_wp2
              go_ret2
              exact HPG.out _ _ _ (by rw [HE.out]) HO.out HB.out
    · obtain ⟨u, y, rfl⟩ : ∃ u y, x1 = .iface u y := wrongA_if (.inr ⟨k1, k2, hflt⟩) (by omega)
      have HE : Hid (q = ((chkP fr (-1) 0 l).1, [(false, (chkP fr (-1) 0 l).2)])) := by
        show _ = _
        rw [← HQ.out]
        unfold mkW
        rw [if_neg c0, if_pos (by omega)]
      have HFL := Lib.hid hflt
      have HK1 := Lib.hid k1
      clear hflt k1 k2 c0
      go_wp2
      go_ret2
      exact HPB.out _ _ _ (by rw [HE.out]; have := HK1.out; dsimp only; omega) rfl (by rw [HE.out]; exact HFL.out) HB1.out
end

end Go.Proofs.YtpjillclladjaaaDoor.Pln
