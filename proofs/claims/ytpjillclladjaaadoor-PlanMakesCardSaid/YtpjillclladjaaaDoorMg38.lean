/- Plans: a plan's schedule; how many ticks needs take (plan.Schedule, plan.Load). Condition: at most 20 needs; a frame of at most 120 ticks, or one beyond 4,096. -/
import Derived.Test.YtpjillclladjaaaDoorMg37
import Derived.Test.YtpjillclladjaaaDoorMg05
import Derived.BigQuiet
namespace Go.Proofs.YtpjillclladjaaaDoor.Pln

open Go.RowKit Go.PlainAid Go.Proofs.YtpjillclladjaaaDoor.Oct Go.Proofs.YtpjillclladjaaaDoor.Flt Go.Proofs.YtpjillclladjaaaDoor.Rdr Go.Proofs.YtpjillclladjaaaDoor.Args Go.Proofs.YtpjillclladjaaaDoor.Win Go.Proofs.YtpjillclladjaaaDoor.Nee

open Go.Proofs.YtpjillclladjaaaDoor.Act (A3 actL flatA flatA_get flatA_snoc ActsAt I64 Wide row_beside row_base)

set_option linter.unusedVariables false

set_option linter.unusedSimpArgs false

def SdPost (id : Int) (l : List A3) (q : Nat × List (Bool × Int)) (F n : Nat) (w : World) (e : Ending) (w' : World) : Prop :=
  ∃ a x, e = .returned (.tuple #[.agg a, x]) ∧ (¬ q.1 = 0 → a = #[.int .i64 0, .int .i64 0, .slice none 0 0, .slice none 0 0] ∧ IsFault w' x q.2 (q.1 : Nat)) ∧
    (q.1 = 0 → x = .nilIface ∧ ∃ A c B cb, a = #[.int .i64 id, .int .i64 (F : Int), .slice A (winsL (runR l F).2).length c, .slice B n cb] ∧ ActsAt w' A (winsL (runR l F).2) ∧ ActsAt w' B l) ∧ Below w.heap.size w w'
theorem own_acts3 {w : World} {B n : Nat} {T : TypeId} {V : Value} {l : List A3} (h : w.ownsRow B T 3 V n (flatA l)) (hn : l.length = n) : ∃ A c, V = .slice A n c ∧ ActsAt w A l ∧ ∀ y, A = some y → B ≤ y.block := by
  have hA : ∃ A c, V = .slice A n c ∧ (0 < n → ∃ G, A = some ⟨G, 0, none⟩) ∧ ∀ y, A = some y → B ≤ y.block := by
    rcases h.2 with ⟨rfl, h0⟩ | ⟨g, cap, cur, rfl, hbb, _⟩
    · exact ⟨none, 0, by rw [h0], fun h1 => by omega, fun y e => by cases e⟩
    · exact ⟨_, _, rfl, fun _ => ⟨g, rfl⟩, fun y e => by cases e; exact hbb⟩
  obtain ⟨A, c, rfl, hG, hB⟩ := hA
  refine ⟨A, c, rfl, fun i x hx => ?_, hB⟩
  have hi : i < l.length := (List.getElem?_eq_some_iff.1 hx).1
  obtain ⟨G, rfl⟩ := hG (by omega)
  have e : (Addr.mk G 0 none).add (i * 3) = ⟨G, i * 3, none⟩ := by
    rcases Nat.eq_zero_or_pos (i * 3) with h0 | h0
    · rw [h0]; simp [Addr.add]
    · simp [Addr.add]; omega
  refine ⟨_, rfl, ?_, ?_, ?_⟩
  · have := h.cellAt (i * 3 + 0) (by omega)
    rw [flatA_get l i x 0 hx (by omega)] at this
    rw [e]; exact this
  · have := h.cellAt (i * 3 + 1) (by omega)
    rw [flatA_get l i x 1 hx (by omega)] at this
    rw [e]; exact this
  · have := h.cellAt (i * 3 + 2) (by omega)
    rw [flatA_get l i x 2 hx (by omega)] at this
    rw [e]; exact this
set_option maxRecDepth 8000 in
set_option maxHeartbeats 6400000 in
theorem sched_any (id fr : Int) (P : Option Addr) (pc n : Nat) (l : List A3) (w : World) (hn : Names w) (h1 : ActsAt w P l) (hw : ∀ x ∈ l, Wide x) (hl : l.length = n) (hl2 : n ≤ 1000) (hnil : P = none → pc = 0) (hnc : n ≤ pc) (hf : fr ≤ 200 ∨ 4096 < fr) :
    Calls Tryd.prog 9 #[.int .i64 id, .int .i64 fr, .slice P n pc] w (SdPost id l (mkW fr l) fr.toNat n w) := by
  obtain ⟨q, hq⟩ : ∃ q, mkW fr l = q := ⟨_, rfl⟩
  obtain ⟨F, hF⟩ : ∃ F, fr.toNat = F := ⟨_, rfl⟩
  have HQ0 : Hid (q.1 = 0 → fr = (F : Int) ∧ F ≤ 200) := fun h => by
    rw [← hq] at h
    unfold mkW at h
    by_cases c : fr < 1 ∨ 4096 < fr
    · rw [if_pos c] at h; simp at h
    · exact ⟨by omega, by omega⟩
  have hb0 : Below w.heap.size w (w.alloc (.cells #[.int .i64 0, .int .i64 0, .slice none 0 0, .slice none 0 0] 31)) := (Below.refl _ _).alloc (Nat.le_refl _) _
  have hx0 := heap_alloc_new w (.cells #[.int .i64 0, .int .i64 0, .slice none 0 0, .slice none 0 0] 31)
  obtain ⟨W0, hW0⟩ : ∃ X, w.alloc (.cells #[.int .i64 0, .int .i64 0, .slice none 0 0, .slice none 0 0] 31) = X := ⟨_, rfl⟩
  rw [hW0] at hb0 hx0
  have HMK := Lib.hid (make_any fr P pc n l W0 (hn.kept hb0) (h1.kept hb0) hw hl hl2)
  rw [hq, hF] at HMK
  rw [hq, hF]
  have HB0 := Lib.hid hb0
  have HX0 := Lib.hid hx0
  have HACT := Lib.hid (fun W (b : Below w.heap.size w W) => h1.kept b)
  have HL := Lib.hid hl
  have HCL := Lib.hid (fun W (b : Below w.heap.size w W) => crowsN_any P pc l W (h1.kept b) hnil (by omega) (by omega))
  rw [hl] at HCL
  clear hn h1 hw hl hl2 hnil hnc hf hq hF hb0 hx0
  go_enter Tryd.func9, Tryd.ntmps9
  go_wp2_with fail
  try rw [hW0]
  refine HMK.out.mono ?_
  rintro e W1 ⟨V, x, rfl, hbad, hgood, hb1⟩
  have HBAD := Lib.hid hbad
  have HGOOD := Lib.hid hgood
  have HB1 := Lib.hid (HB0.out.trans (hb1.mono HB0.out.size))
  have HX1 := Lib.hid ((hb1.block _ (lt_of_block HX0.out)).trans HX0.out)
  clear hbad hgood hb1 HMK
  by_cases hq0 : q.1 = 0
  · obtain ⟨rfl, A, c, rfl, ho⟩ := HGOOD.out hq0
    obtain ⟨rfl, hF2⟩ := HQ0.out hq0
    have HF2 : Hid (F ≤ 200) := hF2
    have HW1 := Lib.hid (wins_any A c (runR l F).2 F W1 (wat_own ho (run_len _ _)) (run_len _ _) (by omega))
    have HQ9 : Hid (q.1 = 0) := hq0
    clear ho hF2 hq0 HBAD HGOOD HQ0
    obtain ⟨ws, hws⟩ : ∃ ws, winsL (runR l F).2 = ws := ⟨_, rfl⟩
    have HWS := Lib.hid hws
    have hwl : ws.length ≤ 200 := by
      have h := (wst_le (runR l F).2 (runR l F).2.length).2
      rw [run_len] at h
      have h2 := HF2.out
      rw [← hws]
      unfold winsL
      rw [run_len]; omega
    rw [hws] at HW1
    obtain ⟨nw, hnw⟩ : ∃ m, ws.length = m := ⟨_, rfl⟩
    rw [hnw] at HW1 hwl
    have HNW := Lib.hid hnw
    have t1 : decide ((256 : Int) < (nw : Int)) = false := decide_eq_false (by omega)
    have t2 : decide (256 < nw) = false := decide_eq_false (by omega)
    clear hws hwl hnw
    go_wp2_with fail
    refine HW1.out.mono ?_
    rintro e W2 ⟨A2, c2, rfl, ho2, hb2⟩
    have HB2 := Lib.hid (HB1.out.trans (hb2.mono HB1.out.size))
    have HX2 := Lib.hid ((hb2.block _ (lt_of_block HX1.out)).trans HX1.out)
    have HA2 : Hid (ActsAt W2 A2 ws ∧ ∀ y, A2 = some y → y.block ≠ w.heap.size) := by
      obtain ⟨A', c', e, h, hb⟩ := own_acts3 ho2 HNW.out
      simp only [Value.slice.injEq] at e
      obtain ⟨rfl, _, rfl⟩ := e
      refine ⟨h, fun y hy => ?_⟩
      have h1 := hb y hy
      have h2 := lt_of_block HX1.out
      omega
    have HC2 := Lib.hid (HCL.out W2 HB2.out)
    clear ho2 hb2 HW1 HX1
    go_wp2_with fail
    refine HC2.out.mono ?_
    rintro e W3 ⟨V3, rfl, ho3, hb3⟩
    rw [HL.out] at ho3
    obtain ⟨B3, c3, rfl, ha3, hbb3⟩ := own_acts3 ho3 HL.out
    have HN4 : Hid (∀ y, B3 = some y → y.block ≠ w.heap.size) := fun y hy => by
      have h1 := hbb3 y hy
      have h2 := lt_of_block HX2.out
      omega
    have HB3 := Lib.hid (HB2.out.trans (hb3.mono HB2.out.size))
    have HX3 := Lib.hid ((hb3.block _ (lt_of_block HX2.out)).trans HX2.out)
    have HA3 := Lib.hid (And.intro (HA2.out.1.kept hb3) HA2.out.2)
    have HN3 := Lib.hid ha3
    have HY : Hid ((W3.setRow w.heap.size #[.int .i64 id, .int .i64 (F : Int), .slice A2 nw c2, .slice B3 n c3]).heap[w.heap.size]? = some (.cells #[.int .i64 id, .int .i64 (F : Int), .slice A2 nw c2, .slice B3 n c3] 31 (0, 0))) := setRow_heap _ _ _ _ _ _ HX3.out
    have HBY : Hid (Below w.heap.size w (W3.setRow w.heap.size #[.int .i64 id, .int .i64 (F : Int), .slice A2 nw c2, .slice B3 n c3])) := Go.Proofs.YtpjillclladjaaaDoor.Rdr.below_setRow HB3.out (Nat.le_refl _)
    have HLT : Hid (∀ y l', ActsAt W3 y l' → (∀ b, y = some b → b.block ≠ w.heap.size) → ActsAt (W3.setRow w.heap.size #[.int .i64 id, .int .i64 (F : Int), .slice A2 nw c2, .slice B3 n c3]) y l') := fun y l' h hne i x hx => by
      obtain ⟨b, rfl, e1, e2, e3⟩ := h i x hx
      have hb : (b.add (i * 3)).block = b.block := by cases i <;> simp [Addr.add]
      have hk : ∀ a : Addr, a.block = b.block → (W3.setRow w.heap.size #[.int .i64 id, .int .i64 (F : Int), .slice A2 nw c2, .slice B3 n c3]).cell? a = W3.cell? a := fun a ha => World.cell?_of_block (setRow_other _ _ _ _ (by rw [ha]; exact hne b rfl))
      exact ⟨b, rfl, (hk _ hb).trans e1, (hk ⟨(b.add (i * 3)).block, (b.add (i * 3)).off + 1, none⟩ hb).trans e2, (hk ⟨(b.add (i * 3)).block, (b.add (i * 3)).off + 2, none⟩ hb).trans e3⟩
    clear ho3 hb3 ha3 hbb3 HC2 HX2 HA2
    go_wp2_with ((with_reducible show wpList _ _ _ _ _ _); refine wpList_store_row rfl 31 (.tmp 6) (.tmp 33) rfl w.heap.size #[.int .i64 id, .int .i64 (F : Int), .slice A2 nw c2, .slice B3 n c3] rfl rfl 31 #[.int .i64 0, .int .i64 0, .slice none 0 0, .slice none 0 0] HX3.out (by rw [size_sc9]; rfl) rfl (by simp [Value.oneCell']) ?_)
    refine bodyPost_ret (v := .tuple #[.agg #[.int .i64 id, .int .i64 (F : Int), .slice A2 nw c2, .slice B3 n c3], .nilIface]) (results_row_tmp Tryd.results9 _ _ w.heap.size 31 _ (0, 0) _ rfl HY.out Tryd.underlying31 rfl (by rw [size_sc9]; rfl)) rfl ?_
    refine ⟨_, _, rfl, fun h => absurd HQ9.out h, fun _ => ⟨rfl, A2, c2, B3, c3, by rw [HWS.out, HNW.out], ?_, ?_⟩, HBY.out⟩
    · rw [HWS.out]
      exact HLT.out _ _ HA3.out.1 HA3.out.2
    · exact HLT.out _ _ HN3.out HN4.out
  · obtain ⟨rfl, hflt⟩ := HBAD.out hq0
    have hif : ∃ u y, x = .iface u y := by
      cases h : q.2 with
      | nil => rw [h] at hflt; exact ⟨_, _, hflt⟩
      | cons a r => rw [h] at hflt; obtain ⟨g, y, e, _⟩ := hflt; exact ⟨_, _, e⟩
    obtain ⟨u, y, rfl⟩ := hif
    have HFL := Lib.hid hflt
    have HQ9 : Hid (¬ q.1 = 0) := hq0
    have HY : Hid ((W1.setRow w.heap.size #[.int .i64 0, .int .i64 0, .slice none 0 0, .slice none 0 0]).heap[w.heap.size]? = some (.cells #[.int .i64 0, .int .i64 0, .slice none 0 0, .slice none 0 0] 31 (0, 0))) := setRow_heap _ _ _ _ _ _ HX1.out
    have HBY : Hid (Below w.heap.size w (W1.setRow w.heap.size #[.int .i64 0, .int .i64 0, .slice none 0 0, .slice none 0 0])) := Go.Proofs.YtpjillclladjaaaDoor.Rdr.below_setRow HB1.out (Nat.le_refl _)
    clear hflt hq0 HBAD HGOOD HQ0
    go_wp2_with ((with_reducible show wpList _ _ _ _ _ _); refine wpList_store_row rfl 31 (.tmp 6) (.tmp 19) rfl w.heap.size #[.int .i64 0, .int .i64 0, .slice none 0 0, .slice none 0 0] rfl rfl 31 #[.int .i64 0, .int .i64 0, .slice none 0 0, .slice none 0 0] HX1.out (by rw [size_sc9]; rfl) rfl (by simp [Value.oneCell']) ?_)
    refine bodyPost_ret (v := .tuple #[.agg #[.int .i64 0, .int .i64 0, .slice none 0 0, .slice none 0 0], .iface u y]) (results_row_tmp Tryd.results9 _ _ w.heap.size 31 _ (0, 0) _ rfl HY.out Tryd.underlying31 rfl (by rw [size_sc9]; rfl)) rfl ?_
    refine ⟨_, _, rfl, fun _ => ⟨rfl, ?_⟩, fun h => absurd h HQ9.out, HBY.out⟩
    refine IsFault.only (fun k cs hk => setRow_other _ _ _ _ ?_) HFL.out
    rintro rfl
    rw [HX1.out] at hk
    simp at hk
end Go.Proofs.YtpjillclladjaaaDoor.Pln
