/- Windows: the cuts of a frame, rising. Condition: at most 1,000 windows of plain numbers, a frame of 0 to 1,048,576. -/
import Derived.Test.YtpjillclladjaaaDoorMg12
import Derived.Test.YtpjillclladjaaaDoorMg10
import Derived.Test.YtpjillclladjaaaDoorMg07
import Derived.OwnWalk
namespace Go.Proofs.YtpjillclladjaaaDoor.Win

open Go.RowKit Go.PlainAid Go.Proofs.YtpjillclladjaaaDoor.Oct Go.Proofs.YtpjillclladjaaaDoor.Flt Go.Proofs.YtpjillclladjaaaDoor.Rdr Go.Proofs.YtpjillclladjaaaDoor.Args

open Go.Proofs.YtpjillclladjaaaDoor.Act (A3 actL flatA ActsAt I64 Wide row_beside row_base)

set_option linter.unusedVariables false

set_option linter.unusedSimpArgs false

/-- All of the cuts, in the order of the windows. -/
def cutL (fr : Int) (l : List A3) : List Int := [0, fr] ++ l.flatMap fun x => [fW fr x, tW fr x]
theorem cutL_nil (fr : Int) : cutL fr [] = [0, fr] := rfl
theorem cutL_snoc (fr : Int) (l : List A3) (x : A3) : cutL fr (l ++ [x]) = cutL fr l ++ [fW fr x, tW fr x] := by simp [cutL]
theorem cutL_len (fr : Int) (l : List A3) : (cutL fr l).length = 2 + 2 * l.length := by
  induction l with
  | nil => rfl
  | cons x l ih => simp [cutL] at ih ⊢; omega
theorem cutL_mem (fr : Int) (l : List A3) (v : Int) : v ∈ cutL fr l ↔ v = 0 ∨ v = fr ∨ ∃ x ∈ l, v = fW fr x ∨ v = tW fr x := by simp [cutL]
def cutsOf (fr : Int) (l : List A3) : List Int := Lib.compact (sortZ (cutL fr l))
theorem cutsOf_mem (fr : Int) (l : List A3) (v : Int) : v ∈ cutsOf fr l ↔ v = 0 ∨ v = fr ∨ ∃ x ∈ l, v = fW fr x ∨ v = tW fr x := by
  unfold cutsOf
  rw [(compact_rises _ (sortZ_rises _)).2, sortZ_mem, cutL_mem]
theorem cutsOf_cuts (fr : Int) (l : List A3) (hf : 0 ≤ fr) (hn : ∀ x ∈ l, Num x) : Cuts (cutsOf fr l) fr := by
  refine ⟨(compact_rises _ (sortZ_rises _)).1, fun v hv => ?_, (cutsOf_mem _ _ _).2 (.inl rfl), (cutsOf_mem _ _ _).2 (.inr (.inl rfl))⟩
  rcases (cutsOf_mem _ _ _).1 hv with rfl | rfl | ⟨x, hx, rfl | rfl⟩
  · exact ⟨Int.le_refl _, hf⟩
  · exact ⟨hf, Int.le_refl _⟩
  · exact fW_in (hn x hx) hf
  · exact tW_in (hn x hx) hf
theorem compact_le (zs : List Int) : (Lib.compact zs).length ≤ zs.length := by
  unfold Lib.compact Lib.compactUpTo
  rw [List.length_map]
  exact Nat.le_trans (List.length_filter_le _ _) (by simp)
theorem cutsOf_le (fr : Int) (l : List A3) : (cutsOf fr l).length ≤ 2 + 2 * l.length := by
  have h := compact_le (sortZ (cutL fr l))
  rw [sortZ_len, cutL_len] at h
  exact h
theorem cutsOf_two (fr : Int) (l : List A3) (hf : 1 ≤ fr) (hn : ∀ x ∈ l, Num x) : 2 ≤ (cutsOf fr l).length := by
  have h := cutsOf_cuts fr l (by omega) hn
  have h0 := h.2.2.1
  have h1 := h.2.2.2
  rcases hc : cutsOf fr l with _ | ⟨a, _ | ⟨b, t⟩⟩
  · rw [hc] at h0; simp at h0
  · rw [hc] at h0 h1; simp at h0 h1; omega
  · simp
theorem owns_first {w : World} {B g n cap : Nat} {T : TypeId} {xs : List Value} (k : Nat) (hk : k ≤ n) (h : w.ownsRow B T 1 (.slice (some ⟨g, 0, none⟩) n cap) n xs) : w.ownsRow B T 1 (.slice (some ⟨g, 0, none⟩) k cap) k (xs.take k) := by
  obtain ⟨h1, h2⟩ := h
  refine ⟨by simp; omega, ?_⟩
  rcases h2 with ⟨e, _⟩ | ⟨g', cap', cur, e, hb, hg, r1, r2, r3, r4⟩
  · cases e
  · cases e
    refine .inr ⟨g, cap, cur, rfl, hb, hg, by omega, r2, r3, ?_⟩
    rw [← r4, List.take_take, Nat.mul_one, Nat.mul_one, Nat.min_eq_left hk]
/-- Numbers of the call's own, each once. -/
theorem compact_own (g cap B : Nat) (zs : List Int) (w : World) (h : w.ownsRow B 3 1 (.slice (some ⟨g, 0, none⟩) zs.length cap) zs.length (zs.map (Value.int .i64))) (hl : zs.length < 4611686018427387904) :
    Calls Tryd.prog 119 #[.slice (some ⟨g, 0, none⟩) zs.length cap] w fun e w' => e = .returned (.slice (some ⟨g, 0, none⟩) (Lib.compact zs).length cap) ∧ w'.ownsRow B 3 1 (.slice (some ⟨g, 0, none⟩) (Lib.compact zs).length cap) (Lib.compact zs).length ((Lib.compact zs).map (Value.int .i64)) ∧ w.grownBy w' (some g) := by
  rcases h.2 with ⟨h0, _⟩ | ⟨g', cap', cur, e, hb, hg, h1, h2, h3, h4⟩
  · cases h0
  · cases e
    refine (Tryd.slices_Compact_int g 0 cap zs w (Go.holds_of_blockI hg (by rw [← h4, Nat.mul_one])) (by omega) h1).mono ?_
    rintro e w' ⟨rfl, q, rfl⟩
    have hle := compact_le zs
    have hlen : (Lib.compact zs ++ List.replicate (zs.length - (Lib.compact zs).length) 0).length = zs.length := by simp; omega
    have h5 := Go.ownsRow_sortedI (n := q) (os := #[]) hlen hb hg h1 h2 h3
    have h6 := Go.grownBy_sortedI (w := w) (g := g) (n := q) (os := #[]) (Lib.compact zs ++ List.replicate (zs.length - (Lib.compact zs).length) 0).toArray
    have e0 : ∀ W : World, Go.Sort.grow W #[] = W := fun W => by unfold Go.Sort.grow; simp
    rw [e0] at h5 h6
    refine ⟨rfl, ?_, h6⟩
    have h7 := owns_first (Lib.compact zs).length hle h5
    rw [List.map_append, List.take_left' (by simp)] at h7
    exact h7
def CuRel (b B fr a : Nat) (xs : Array Value) (l : List A3) (w : World) (i v : Value) (wr : World) : Prop :=
  ∃ k : Nat, k ≤ a ∧ i = .int .i64 (k : Int) ∧ wr.heap[b]? = some (.cells xs 31 (0, 0)) ∧ (∃ g c, v = .slice (some ⟨g, 0, none⟩) (2 + 2 * k) c) ∧ wr.ownsRow B 3 1 v (2 + 2 * k) ((cutL fr (l.take k)).map (Value.int .i64)) ∧ Below w.heap.size w wr
set_option maxRecDepth 8000 in
set_option maxHeartbeats 6400000 in
theorem cuts_any (id : Int) (fr : Nat) (P : Option Addr) (pc : Nat) (l : List A3) (C : Option Addr) (nn cc : Nat) (w : World) (h1 : ActsAt w P l) (hnum : ∀ x ∈ l, Num x) (hf : fr ≤ 1048576) (hl : l.length ≤ 1000) :
    Calls Tryd.prog 101 #[.agg #[.int .i64 id, .int .i64 (fr : Int), .slice P l.length pc, .slice C nn cc]] w fun e w' => ∃ g c, e = .returned (.slice (some ⟨g, 0, none⟩) (cutsOf fr l).length c) ∧ w'.ownsRow w.heap.size 3 1 (.slice (some ⟨g, 0, none⟩) (cutsOf fr l).length c) (cutsOf fr l).length ((cutsOf fr l).map (Value.int .i64)) ∧ Below w.heap.size w w' := by
  obtain ⟨i0, hi, hz0, hz1, hz2⟩ := info_parts infoInt
  obtain ⟨cs, hcs⟩ : ∃ cs, cutsOf (fr : Int) l = cs := ⟨_, rfl⟩
  have HCS := Lib.hid hcs
  rw [hcs]
  obtain ⟨a, ha⟩ : ∃ a, l.length = a := ⟨_, rfl⟩
  have HA := Lib.hid ha
  rw [ha] at hl
  rw [ha]
  have H1 := Lib.hid h1
  have HNUM := Lib.hid hnum
  have HL : Hid (a ≤ 1000) := hl
  have HF : Hid (fr ≤ 1048576) := hf
  have hmx : max (fr : Int) 0 = fr := by omega
  have hb0 : Below w.heap.size w ((w.alloc (.cells #[.int .i64 id, .int .i64 (fr : Int), .slice P a pc, .slice C nn cc] 31)).alloc (.cells #[.int .i64 0, .int .i64 (fr : Int)] 3)) := two_below w _ _
  have hbx : ((w.alloc (.cells #[.int .i64 id, .int .i64 (fr : Int), .slice P a pc, .slice C nn cc] 31)).alloc (.cells #[.int .i64 0, .int .i64 (fr : Int)] 3)).heap[w.heap.size]? = some (.cells #[.int .i64 id, .int .i64 (fr : Int), .slice P a pc, .slice C nn cc] 31 (0, 0)) := (heap_alloc_old _ _ (by simp)).trans (heap_alloc_new _ _)
  have hrow : ((w.alloc (.cells #[.int .i64 id, .int .i64 (fr : Int), .slice P a pc, .slice C nn cc] 31)).alloc (.cells #[.int .i64 0, .int .i64 (fr : Int)] 3)).ownsRow (w.heap.size + 1) 3 1 (.slice (some ⟨w.heap.size + 1, 0, none⟩) 2 2) 2 ([0, (fr : Int)].map (Value.int .i64)) := by
    have h := heap_alloc_new (w.alloc (.cells #[.int .i64 id, .int .i64 (fr : Int), .slice P a pc, .slice C nn cc] 31)) (.cells #[.int .i64 0, .int .i64 (fr : Int)] 3)
    rw [World.size_alloc] at h
    exact ⟨rfl, .inr ⟨w.heap.size + 1, 2, _, rfl, Nat.le_refl _, h, Nat.le_refl _, by unfold maxLen; omega, rfl, rfl⟩⟩
  have HS0 : Hid (CuRel w.heap.size (w.heap.size + 1) fr a #[.int .i64 id, .int .i64 (fr : Int), .slice P a pc, .slice C nn cc] l w (.int .i64 0) (.slice (some ⟨w.heap.size + 1, 0, none⟩) 2 2) ((w.alloc (.cells #[.int .i64 id, .int .i64 (fr : Int), .slice P a pc, .slice C nn cc] 31)).alloc (.cells #[.int .i64 0, .int .i64 (fr : Int)] 3))) := ⟨0, Nat.zero_le _, rfl, hbx, ⟨_, _, rfl⟩, by rw [List.take_zero, cutL_nil]; exact hrow, hb0⟩
  clear hcs ha h1 hnum hl hf hb0 hrow
  go_enter Tryd.func101, Tryd.ntmps101
  go_wp2
  have b2 := cell_of_row _ _ 2 _ _ _ hbx
  simp only [List.getElem?_toArray, List.getElem?_cons_zero, List.getElem?_cons_succ] at b2
  go_wp2
  clear b2 hbx
  go_loopw [15, 3] (fun i v wr => CuRel w.heap.size (w.heap.size + 1) fr a #[.int .i64 id, .int .i64 (fr : Int), .slice P a pc, .slice C nn cc] l w i v wr) (fun i _ _ => a - (intOf i).toNat)
  case atStart => exact HS0.out
  case round =>
    obtain ⟨k, hk, rfl, hbx, ⟨g, c, rfl⟩, hrow, hb⟩ := hrel
    have HBX := Lib.hid hbx
    have HROW := Lib.hid hrow
    have HB := Lib.hid hb
    clear hbx hrow hb HS0
    by_cases hlt : k < a
    · obtain ⟨x, hx⟩ : ∃ x, l[k]? = some x := ⟨_, List.getElem?_eq_getElem (by rw [HA.out]; exact hlt)⟩
      obtain ⟨ax, rfl, c1, c2, c3⟩ := (H1.out.kept HB.out) k x hx
      have HNX := Lib.hid (HNUM.out x (List.mem_of_getElem? hx))
      have htk : l.take (k + 1) = l.take k ++ [x] := by rw [List.take_add_one, hx]; rfl
      have HTK := Lib.hid htk
      have hb5 : Below wr.heap.size wr (wr.alloc (.cells (winC x) 82)) := (Below.refl _ _).alloc (Nat.le_refl _) _
      have HB5 := Lib.hid (HB.out.trans (hb5.mono HB.out.size))
      have HBX5 := Lib.hid ((hb5.block _ (lt_of_block HBX.out)).trans HBX.out)
      have HROW5 := Lib.hid (owns_kept HROW.out hb5)
      have y1 := cell_of_row _ _ 1 _ _ _ HBX5.out
      simp only [List.getElem?_toArray, List.getElem?_cons_zero, List.getElem?_cons_succ] at y1
      have HPART := Lib.hid (fun w => part_any x (fr : Int) HNX.out ⟨by omega, by have := HF.out; omega⟩ w)
      obtain ⟨f1, hf1⟩ : ∃ v, fW (fr : Int) x = v := ⟨_, rfl⟩
      obtain ⟨t1, ht1⟩ : ∃ v, tW (fr : Int) x = v := ⟨_, rfl⟩
      have HFT := Lib.hid (And.intro hf1 ht1)
      rw [hf1, ht1] at HPART
      obtain ⟨s1, p1, a1⟩ := x
      unfold winC at y1 HB5 HBX5 HROW5 HPART
      dsimp only at c1 c2 c3 y1 HB5 HBX5 HROW5 HPART
      have hki : (0 : Int) ≤ k := by omega
      have hkb : (k : Int) < a := by omega
      clear hx htk hb5 hf1 ht1
      go_wp2_with fail
      refine (HPART.out _).mono ?_
      rintro e w6 ⟨rfl, hb6⟩
      have HB6 := Lib.hid (HB5.out.trans (hb6.mono HB5.out.size))
      have HBX6 := Lib.hid ((hb6.block _ (lt_of_block HBX5.out)).trans HBX5.out)
      have HROW6 := Lib.hid (owns_kept HROW5.out hb6)
      clear hb6 HBX5 HROW5 HB5 HPART y1 c1 c2 c3 HROW HBX HB
      have hb7 : Below w6.heap.size w6 (w6.alloc (.cells #[.int .i64 f1, .int .i64 t1] 3)) := (Below.refl _ _).alloc (Nat.le_refl _) _
      have HB7 := Lib.hid (HB6.out.trans (hb7.mono HB6.out.size))
      have HBX7 := Lib.hid ((hb7.block _ (lt_of_block HBX6.out)).trans HBX6.out)
      have HROW7 := Lib.hid (owns_kept HROW6.out hb7)
      have HN7 := Lib.hid (heap_alloc_new w6 (.cells #[.int .i64 f1, .int .i64 t1] 3))
      clear hb7
      go_wp2_with (at_builtin; refine wpList_append_own _ rfl _ _ 24 rfl (w.heap.size + 1) 3 i0 (.int .i64 0) 1 8 Tryd.underlying24 hi hz0 hz1 hz2 rfl (by decide) _ (2 + 2 * k) _ rfl HROW7.out ⟨w6.heap.size, 0, none⟩ 2 2 [.int .i64 f1, .int .i64 t1] rfl rfl ?c1 ?c2 ?c3 ?c4 ?c5 ?_)
      case c1 =>
        intro j u hj
        have e : (Addr.mk w6.heap.size 0 none).add j = ⟨w6.heap.size, j, none⟩ := by cases j <;> simp [Addr.add]
        rw [e, cell_of_row _ _ _ _ _ _ HN7.out, ← hj]
        simp
      case c2 => intro u hu; simp at hu; rcases hu with rfl | rfl <;> rfl
      case c3 => have := HL.out; unfold maxLen; omega
      case c4 => have := HL.out; omega
      case c5 => have := lt_of_block HBX7.out; omega
      intro v' w8 ho8 hg8 _
      obtain ⟨g', c', rfl⟩ := ownsRow_succ (k := 2 + 2 * k + 1) ho8
      have hgB := (HROW7.out.lt g rfl)
      have HB8 : Hid (Below w.heap.size w w8) := HB7.out.grown hg8 HB7.out.size (fun q hq => by cases hq; exact Nat.le_of_succ_le hgB.1)
      have HRN : Hid (w8.ownsRow (w.heap.size + 1) 3 1 (.slice (some ⟨g', 0, none⟩) (2 + 2 * (k + 1)) c') (2 + 2 * (k + 1)) ((cutL fr (l.take (k + 1))).map (Value.int .i64))) := by
        show World.ownsRow _ _ _ _ _ _ _
        rw [HTK.out, cutL_snoc, HFT.out.1, HFT.out.2, List.map_append]
        exact ho8
      have HBX8 : Hid (w8.heap[w.heap.size]? = some (.cells #[.int .i64 id, .int .i64 (fr : Int), .slice (some ax) a pc, .slice C nn cc] 31 (0, 0))) := (hg8.block _ (lt_of_block HBX7.out) (fun e => by have e1 : w.heap.size = g := Option.some.inj e; have h2 := hgB.1; omega)).trans HBX7.out
      clear ho8 hg8 HROW7 HBX7 HB7 HN7 HROW6 HBX6 HB6
      have hal := HL.out
      go_wp2
      go_roundw
      case rel => exact ⟨k + 1, by omega, by go_num, HBX8.out, ⟨_, _, rfl⟩, HRN.out, HB8.out⟩
      case measure => simp [intOf]; omega
    · obtain rfl : k = a := by omega
      rw [List.take_of_length_le (by rw [HA.out]; exact Nat.le_refl _)] at HROW
      obtain ⟨zs, hzs⟩ : ∃ z, cutL (fr : Int) l = z := ⟨_, rfl⟩
      have hzl : zs.length = 2 + 2 * k := by rw [← hzs, cutL_len, HA.out]
      have HO : Hid (cs = Lib.compact (sortZ zs)) := by show _ = _; rw [← HCS.out]; unfold cutsOf; rw [hzs]
      rw [hzs, ← hzl] at HROW
      have HZL := Lib.hid hzl
      obtain rfl := HO.out
      have HS := Lib.hid (sort_own g c w.heap.size zs wr (row_base HROW.out (by omega)) (by have := HL.out; omega))
      have hgB := (HROW.out.lt g rfl)
      rw [hzl] at HS HROW
      clear hzs hzl
      go_wp2_with fail
      refine HS.out.mono ?_
      rintro e w2 ⟨rfl, ho2, hg2⟩
      have hb2 : Below w.heap.size w w2 := HB.out.grown hg2 HB.out.size (fun q hq => by cases hq; exact Nat.le_of_succ_le hgB.1)
      have hsl := sortZ_len zs
      rw [HZL.out] at hsl
      rw [← hsl] at ho2
      have HC := Lib.hid (compact_own g c w.heap.size (sortZ zs) w2 ho2 (by have := HL.out; omega))
      rw [hsl] at HC
      have HB2 := Lib.hid hb2
      have HG := Lib.hid (Nat.le_of_succ_le hgB.1)
      clear ho2 hg2 hb2 hsl hgB HS
      go_wp2_with fail
      refine HC.out.mono ?_
      rintro e w3 ⟨rfl, ho3, hg3⟩
      have HO3 := Lib.hid ho3
      have HB3 : Hid (Below w.heap.size w w3) := HB2.out.grown hg3 HB2.out.size (fun q hq => by cases hq; exact HG.out)
      clear ho3 hg3 HC
      go_wp2
      go_ret
      exact ⟨g, c, rfl, HO3.out, HB3.out⟩
end Go.Proofs.YtpjillclladjaaaDoor.Win
