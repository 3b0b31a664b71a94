/- Windows: whose all ticks are (Word). Condition: at most 400 windows of plain numbers, a frame of 1 to 1,048,576. -/
import Derived.Test.YtpjillclladjaaaDoorMg16
import Derived.Maps.AppendAt
import Derived.OwnWalk
namespace Go.Proofs.YtpjillclladjaaaDoor.Win

open Go.RowKit Go.PlainAid Go.Proofs.YtpjillclladjaaaDoor.Oct Go.Proofs.YtpjillclladjaaaDoor.Flt Go.Proofs.YtpjillclladjaaaDoor.Rdr Go.Proofs.YtpjillclladjaaaDoor.Args

open Go.Proofs.YtpjillclladjaaaDoor.Act (A3 actL flatA flatA_snoc flatA_get flatA_len ActsAt I64 Wide row_beside row_base)

set_option linter.unusedVariables false

set_option linter.unusedSimpArgs false

/-- Rows, tick by tick. -/
def wordL (l : List A3) : List Int := l.flatMap fun x => List.replicate x.a.toNat x.s
theorem wordL_snoc (l : List A3) (x : A3) : wordL (l ++ [x]) = wordL l ++ List.replicate x.a.toNat x.s := by simp [wordL]
def ticksL (g : Int → Int) (a : Int) (n : Nat) : List Int := (List.range n).map fun j : Nat => g (a + (j : Int))
theorem ticks_len (g : Int → Int) (a : Int) (n : Nat) : (ticksL g a n).length = n := by simp [ticksL]
theorem ticks_succ (g : Int → Int) (a : Int) (n : Nat) : ticksL g a (n + 1) = ticksL g a n ++ [g (a + (n : Int))] := by
  unfold ticksL; rw [List.range_succ]; simp
theorem ticks_add (g : Int → Int) (a : Int) (n : Nat) : ∀ k, ticksL g a (n + k) = ticksL g a n ++ ticksL g (a + (n : Int)) k
  | 0 => by simp [ticksL]
  | k + 1 => by
    rw [← Nat.add_assoc, ticks_succ, ticks_add g a n k, ticks_succ, List.append_assoc]
    rw [show a + ((n + k : Nat) : Int) = a + (n : Int) + (k : Int) by omega]
theorem ticks_const (g : Int → Int) (a c : Int) : ∀ n : Nat, (∀ j : Nat, j < n → g (a + (j : Int)) = c) → ticksL g a n = List.replicate n c
  | 0, _ => by simp [ticksL]
  | n + 1, h => by
    rw [ticks_succ, ticks_const g a c n (fun j hj => h j (by omega)), h n (by omega), List.replicate_succ']
theorem word_ticks (fr : Int) (l : List A3) : ∀ (cs : List Int) (a : Int) (m : Nat), (a :: cs).length = m + 1 → (a :: cs).Pairwise (· < ·) → (∀ i u v, (a :: cs)[i]? = some u → (a :: cs)[i + 1]? = some v → ∀ t, u ≤ t → t < v → ownT fr l t = ownT fr l u) →
    wordL (rowsL fr l (a :: cs) m) = ticksL (ownT fr l) a ((a :: cs).getLast (by simp) - a).toNat
  | [], a, m, hm, _, _ => by
    obtain rfl : m = 0 := by simpa using hm.symm
    simp [rowsL, wordL, ticksL]
  | b :: cs, a, m, hm, h, hc => by
    obtain ⟨n, rfl⟩ : ∃ n, m = n + 1 := ⟨m - 1, by simp at hm; omega⟩
    have hab : a < b := by rw [List.pairwise_cons] at h; exact h.1 b (by simp)
    have ih := word_ticks fr l cs b n (by simpa using hm) (by rw [List.pairwise_cons] at h; exact h.2) (fun i u v hu hv => hc (i + 1) u v (by simpa using hu) (by simpa using hv))
    have hlast : b ≤ (b :: cs).getLast (by simp) := by
      rw [List.pairwise_cons] at h
      rcases cs with _ | ⟨c, cs⟩
      · simp
      · have := (List.pairwise_cons.1 h.2).1 ((b :: c :: cs).getLast (by simp)) (by
          rw [List.getLast_cons (by simp)]; exact List.getLast_mem _)
        omega
    have e1 : (a :: b :: cs).getLast (by simp) = (b :: cs).getLast (by simp) := List.getLast_cons (by simp)
    have e : rowsL fr l (a :: b :: cs) (n + 1) = ⟨ownT fr l a, a, b - a⟩ :: rowsL fr l (b :: cs) n := by
      unfold rowsL
      rw [List.range_succ_eq_map, List.map_cons, List.map_map]
      congr 1
    have ew : ∀ x L, wordL (x :: L) = List.replicate x.a.toNat x.s ++ wordL L := fun x L => by simp [wordL]
    rw [e, ew, ih, e1]
    have e2 : ((b :: cs).getLast (by simp) - a).toNat = (b - a).toNat + ((b :: cs).getLast (by simp) - b).toNat := by omega
    rw [e2, ticks_add]
    have e3 : a + ((b - a).toNat : Int) = b := by omega
    rw [e3, ticks_const (ownT fr l) a (ownT fr l a) (b - a).toNat (fun j hj => hc 0 a b rfl rfl (a + (j : Int)) (by omega) (by omega))]
/-- Within Word: the rows, the word, and where they lie. -/
structure WS (B rb m rc VB n c : Nat) (L : List A3) (xs : List Int) (w wr : World) : Prop where
  rows : wr.ownsRow B 82 3 (.slice (some ⟨rb, 0, none⟩) m rc) m (flatA L)
  own : wr.ownsRow B 3 1 (.slice (some ⟨VB, 0, none⟩) n c) n (xs.map (Value.int .i64))
  ne : VB ≠ rb
  base : w.heap.size ≤ B
  below : Below w.heap.size w wr
theorem WS.keep {B rb m rc VB n c : Nat} {L : List A3} {xs : List Int} {w wr w' : World} (f : WS B rb m rc VB n c L xs w wr) (k : Below wr.heap.size wr w') : WS B rb m rc VB n c L xs w w' :=
  ⟨owns_kept f.rows k, owns_kept f.own k, f.ne, f.base, f.below.trans (k.mono f.below.size)⟩
theorem WS.grown {B rb m rc VB VB' n n' c c' : Nat} {L : List A3} {xs xs' : List Int} {w wr w' : World} (f : WS B rb m rc VB n c L xs w wr) (hg : wr.grownBy w' (some VB)) (ho : w'.ownsRow B 3 1 (.slice (some ⟨VB', 0, none⟩) n' c') n' (xs'.map (Value.int .i64))) (hat : VB' = VB ∨ VB' = wr.heap.size) : WS B rb m rc VB' n' c' L xs' w w' := by
  have hr := (f.rows.lt rb rfl).2
  have hv := (f.own.lt VB rfl).1
  have hb := f.base
  refine ⟨row_beside f.rows (just_grownW hg) (fun k hk e => ?_), ho, ?_, f.base, f.below.grown hg f.below.size (fun q hq => by cases hq; omega)⟩
  · have := f.ne
    have e2 : rb = k := Option.some.inj hk
    omega
  · have := f.ne
    rcases hat with h | h <;> omega
def WdO (B rb m rc : Nat) (L : List A3) (w : World) (i v : Value) (wr : World) : Prop :=
  ∃ (k VB c : Nat), k ≤ m ∧ i = .int .i64 (k : Int) ∧ v = .slice (some ⟨VB, 0, none⟩) (wordL (L.take k)).length c ∧ WS B rb m rc VB (wordL (L.take k)).length c L (wordL (L.take k)) w wr
def WdI (B rb m rc X a : Nat) (L : List A3) (x : A3) (ys : List Int) (w : World) (i v : Value) (wr : World) : Prop :=
  ∃ (d VB c : Nat), d ≤ a ∧ i = .int .i64 (d : Int) ∧ v = .slice (some ⟨VB, 0, none⟩) (ys.length + d) c ∧ WS B rb m rc VB (ys.length + d) c L (ys ++ List.replicate d x.s) w wr ∧ wr.heap[X]? = some (.cells (winC x) 82 (0, 0)) ∧ VB ≠ X
set_option maxRecDepth 8000 in
set_option maxHeartbeats 6400000 in
theorem word_any (id : Int) (fr : Nat) (P : Option Addr) (pc : Nat) (l : List A3) (C : Option Addr) (nn cc : Nat) (w : World) (h1 : ActsAt w P l) (hnum : ∀ x ∈ l, Num x) (hf : 1 ≤ fr ∧ fr ≤ 1048576) (hl : l.length ≤ 400) (m : Nat) (hm : (cutsOf fr l).length = m + 1) (L : List A3) (hL : rowsL fr l (cutsOf fr l) m = L) (hLn : ∀ x ∈ L, 0 ≤ x.a ∧ x.a ≤ 1048576) (hLw : ∀ k, (wordL (L.take k)).length ≤ 1048576) (hm1 : 1 ≤ m) (hm2 : m ≤ 1000) :
    Calls Tryd.prog 72 #[.agg #[.int .i64 id, .int .i64 (fr : Int), .slice P l.length pc, .slice C nn cc]] w fun e w' => ∃ VB c, e = .returned (.slice (some ⟨VB, 0, none⟩) (wordL L).length c) ∧ w'.ownsRow w.heap.size 3 1 (.slice (some ⟨VB, 0, none⟩) (wordL L).length c) (wordL L).length ((wordL L).map (Value.int .i64)) ∧ Below w.heap.size w w' := by
  obtain ⟨i0, hi, hz0, hz1, hz2⟩ := info_parts infoInt
  have hb0 : Below w.heap.size w (w.alloc (.cells #[.int .i64 id, .int .i64 (fr : Int), .slice P l.length pc, .slice C nn cc] 31)) := (Below.refl _ _).alloc (Nat.le_refl _) _
  have HR := Lib.hid (fun W (b : Below w.heap.size w W) => rows_any id fr P pc l C nn cc W (h1.kept b) hnum hf hl m hm)
  have HLL : Hid (L.length = m) := by show _ = _; rw [← hL, rowsL_len]
  rw [hL] at HR
  obtain ⟨a, ha⟩ : ∃ a, l.length = a := ⟨_, rfl⟩
  rw [ha] at HR hb0
  rw [ha]
  have HB0 := Lib.hid hb0
  have HX0 := Lib.hid (heap_alloc_new w (.cells #[.int .i64 id, .int .i64 (fr : Int), .slice P a pc, .slice C nn cc] 31))
  have HF := Lib.hid hf
  have HLN := Lib.hid hLn
  have HLW := Lib.hid hLw
  have HM := Lib.hid (And.intro hm1 hm2)
  have c1 : ¬ (fr : Int) < 1 := by omega
  have c2 : ¬ (268435455 : Int) < (fr : Int) := by omega
  have y1 := cell_of_row _ _ 1 _ _ _ HX0.out
  simp only [List.getElem?_toArray, List.getElem?_cons_zero, List.getElem?_cons_succ] at y1
  clear h1 hnum hf hl hm hL ha hb0 hLn hLw hm1 hm2
  go_enter Tryd.func72, Tryd.ntmps72
  go_wp2_with ((with_reducible show wpList _ _ _ _ _ _); refine wpList_make_own _ rfl _ _ 24 rfl (w.heap.size + 1) 3 i0 (.int .i64 0) 1 Tryd.underlying24 hi hz0 hz1 .i64 .i64 (fr : Int) fr rfl rfl rfl ?m1 ?m2 ?m3 ?_)
  case m1 => have := HF.out; omega
  case m2 => have := HF.out; unfold maxLen; omega
  intro w1 ho1 hg1
  have hb1 : Below w.heap.size w w1 := HB0.out.grown hg1 HB0.out.size (fun q hq => by cases hq)
  have hx1 := (hg1.block _ (lt_of_block HX0.out) (fun e => by cases e)).trans HX0.out
  obtain ⟨VB, hVB⟩ : ∃ VB, (w.alloc (.cells #[.int .i64 id, .int .i64 (fr : Int), .slice P a pc, .slice C nn cc] 31)).heap.size = VB := ⟨_, rfl⟩
  simp only [World.size_alloc] at hVB
  subst hVB
  have HB1 := Lib.hid hb1
  have HO1 := Lib.hid ho1
  have HR1 := Lib.hid (HR.out w1 hb1)
  have z0 := cell_of_row _ _ 0 _ _ _ hx1
  have z1 := cell_of_row _ _ 1 _ _ _ hx1
  have z2 := cell_of_row _ _ 2 _ _ _ hx1
  have z3 := cell_of_row _ _ 3 _ _ _ hx1
  simp only [List.getElem?_toArray, List.getElem?_cons_zero, List.getElem?_cons_succ] at z0 z1 z2 z3
  clear ho1 hg1 hb1 hx1 y1 HR HB0 HX0
  go_wp2_with fail
  refine HR1.out.mono ?_
  rintro e w2 ⟨V, rfl, ho2, hb2⟩
  obtain ⟨VA, rc, hV⟩ := row_slice3 ho2
  subst hV
  have hrb : ∃ rb, VA = some ⟨rb, 0, none⟩ := by
    rcases ho2.2 with ⟨e, h0⟩ | ⟨g, c', cur, e, _⟩
    · have := HM.out; omega
    · cases e; exact ⟨g, rfl⟩
  obtain ⟨rb, rfl⟩ := hrb
  have hrl := (ho2.lt rb rfl).1
  have hVl := (HO1.out.lt (w.heap.size + 1) rfl).2
  have HS0 : Hid (WdO (w.heap.size + 1) rb m rc L w (.int .i64 0) (.slice (some ⟨w.heap.size + 1, 0, none⟩) 0 fr) w2) := by
    refine ⟨0, w.heap.size + 1, fr, Nat.zero_le _, rfl, by simp [wordL], ?_⟩
    have e0 : wordL (L.take 0) = [] := by simp [wordL]
    rw [e0]
    exact ⟨row_base ho2 (by omega), owns_kept HO1.out hb2, by omega, by omega, HB1.out.trans (hb2.mono HB1.out.size)⟩
  clear ho2 hb2 hrl hVl HR1 HO1 HB1 z0 z1 z2 z3
  go_wp2_with fail
  go_loopw [20, 3] (fun i v wr => WdO (w.heap.size + 1) rb m rc L w i v wr) (fun i _ _ => m - (intOf i).toNat)
  case atStart => exact HS0.out
  case round =>
    obtain ⟨k, VB, c, hk, rfl, rfl, hws⟩ := hrel
    have HWS := Lib.hid hws
    have hmm := HM.out
    clear hws HS0
    by_cases hlt : k < m
    · obtain ⟨x, hx⟩ : ∃ x, L[k]? = some x := ⟨_, List.getElem?_eq_getElem (by rw [HLL.out]; exact hlt)⟩
      have c1' := HWS.out.rows.cellAt (k * 3 + 0) (by omega)
      have c2' := HWS.out.rows.cellAt (k * 3 + 1) (by omega)
      have c3' := HWS.out.rows.cellAt (k * 3 + 2) (by omega)
      rw [flatA_get L k x 0 hx (by omega)] at c1'
      rw [flatA_get L k x 1 hx (by omega)] at c2'
      rw [flatA_get L k x 2 hx (by omega)] at c3'
      simp only [actL, Nat.add_zero, List.getElem?_cons_zero, List.getElem?_cons_succ] at c1' c2' c3'
      have htk : L.take (k + 1) = L.take k ++ [x] := by rw [List.take_add_one, hx]; rfl
      have hwk : wordL (L.take (k + 1)) = wordL (L.take k) ++ List.replicate x.a.toNat x.s := by rw [htk, wordL_snoc]
      have hln := HLN.out x (List.mem_of_getElem? hx)
      have hlw := HLW.out (k + 1)
      rw [hwk, List.length_append, List.length_replicate] at hlw
      have HWK := Lib.hid hwk
      obtain ⟨ys, hys⟩ : ∃ ys, wordL (L.take k) = ys := ⟨_, rfl⟩
      rw [hys] at HWS HWK hlw
      rw [hys]
      have hb5 : Below wr.heap.size wr (wr.alloc (.cells (winC x) 82)) := (Below.refl _ _).alloc (Nat.le_refl _) _
      have HW5 := Lib.hid (HWS.out.keep hb5)
      have hvx := (HWS.out.own.lt VB rfl).2
      have HX5 := Lib.hid (heap_alloc_new wr (.cells (winC x) 82))
      obtain ⟨n, hn⟩ : ∃ n : Nat, x.a = (n : Int) := ⟨x.a.toNat, by omega⟩
      have hnn : x.a.toNat = n := by omega
      rw [hnn] at HWK hlw
      have HNE : Hid (VB ≠ wr.heap.size) := by show _ ≠ _; omega
      have HLB : Hid (ys.length + n ≤ 1048576) := hlw
      have hki : (0 : Int) ≤ k := by omega
      have hkb : (k : Int) < m := by omega
      have x2 := cell_of_row _ _ 2 _ _ _ HX5.out
      obtain ⟨s1, p1, a1⟩ := x
      dsimp only at hn
      subst hn
      unfold winC at HX5 HW5 x2
      simp only [List.getElem?_toArray, List.getElem?_cons_zero, List.getElem?_cons_succ] at x2
      dsimp only at c1' c2' c3' HX5 HW5 HWK
      clear hx htk hwk hln hlw hys hb5 hvx hnn
      go_wp2_with fail
      obtain ⟨X, hX⟩ : ∃ X, wr.heap.size = X := ⟨_, rfl⟩
      obtain ⟨W0, hW0⟩ : ∃ W, wr.alloc (.cells #[.int .i64 s1, .int .i64 p1, .int .i64 (n : Int)] 82) = W := ⟨_, rfl⟩
      rw [hX, hW0] at HX5
      rw [hW0] at HW5
      rw [hX] at HNE
      rw [hX, hW0]
      have HS1 : Hid (WdI (w.heap.size + 1) rb m rc X n L ⟨s1, p1, n⟩ ys w (.int .i64 0) (.slice (some ⟨VB, 0, none⟩) ys.length c) W0) := ⟨0, VB, c, Nat.zero_le _, rfl, rfl, by simpa using HW5.out, HX5.out, HNE.out⟩
      clear hX hW0 c1' c2' c3' x2 HWS HW5 HX5 HNE
      go_loopw [26, 3] (fun i v wr => WdI (w.heap.size + 1) rb m rc X n L ⟨s1, p1, n⟩ ys w i v wr) (fun i _ _ => n - (intOf i).toNat)
      case atStart => exact HS1.out
      case round =>
        obtain ⟨d, VB, c, hd, rfl, rfl, hws, hxw, hne⟩ := hrel
        have HWS := Lib.hid hws
        have HXW := Lib.hid hxw
        have HNE := Lib.hid hne
        clear hws hxw hne HS1
        by_cases hdl : d < n
        · have hdi : (0 : Int) ≤ d := by omega
          have hdb : (d : Int) < n := by omega
          have hlb := HLB.out
          have x0 := cell_of_row _ _ 0 _ _ _ HXW.out
          unfold winC at x0 HXW
          simp only [List.getElem?_toArray, List.getElem?_cons_zero, List.getElem?_cons_succ] at x0
          have hb7 : Below wr.heap.size wr (wr.alloc (.cells #[.int .i64 s1] 3)) := (Below.refl _ _).alloc (Nat.le_refl _) _
          have HW7 := Lib.hid (HWS.out.keep hb7)
          have HX7 := Lib.hid ((hb7.block _ (lt_of_block HXW.out)).trans HXW.out)
          have HN7 := Lib.hid (heap_alloc_new wr (.cells #[.int .i64 s1] 3))
          clear hb7
          go_wp2_with (at_builtin; refine wpList_append_own_at _ rfl _ _ 24 rfl (w.heap.size + 1) 3 i0 (.int .i64 0) 1 8 Tryd.underlying24 hi hz0 hz1 hz2 rfl (by decide) _ (ys.length + d) _ rfl HW7.out.own ⟨wr.heap.size, 0, none⟩ 1 1 [.int .i64 s1] rfl rfl ?c1 ?c2 ?c3 ?c4 ?c5 ?_)
          case c2 => rfl
          case c3 => unfold maxLen; omega
          case c4 => omega
          case c5 =>
            have h2 := HW7.out.own.lt VB rfl
            simp only [World.size_alloc] at h2
            omega
          intro v' w8 ho8 hg8 _ hat
          obtain ⟨g', c', rfl⟩ := ownsRow_succ (k := ys.length + d) ho8
          have hat2 : g' = VB ∨ g' = (wr.alloc (.cells #[.int .i64 s1] 3)).heap.size := by
            rcases hat with h | h
            · exact .inl (Option.some.inj h)
            · exact .inr (by rw [World.size_alloc]; exact Option.some.inj h)
          have hw8 : WS (w.heap.size + 1) rb m rc g' (ys.length + (d + 1)) c' L (ys ++ List.replicate (d + 1) s1) w w8 := by
            refine HW7.out.grown hg8 ?_ hat2
            have e9 : (ys ++ List.replicate (d + 1) s1).map (Value.int .i64) = List.map (Value.int .i64) ys ++ (List.replicate d (Value.int .i64 s1) ++ [Value.int .i64 s1]) := by rw [List.replicate_succ']; simp
            rw [e9]
            exact ho8
          have hx8 := (hg8.block _ (lt_of_block HX7.out) (fun e => HNE.out (Option.some.inj e).symm)).trans HX7.out
          have HW8 := Lib.hid hw8
          have HX8 := Lib.hid hx8
          have HN8 : Hid (g' ≠ X) := by
            show _ ≠ _
            have := HNE.out
            have := lt_of_block HX7.out
            rcases hat2 with h | h <;> omega
          clear ho8 hg8 hat hat2 hw8 hx8 HW7 HX7 HN7 x0
          go_wp2
          go_roundw
          case rel => exact ⟨d + 1, g', c', by omega, by go_num, rfl, HW8.out, HX8.out, HN8.out⟩
          case measure => simp [intOf]; omega
        · obtain rfl : d = n := by omega
          have hlen : (wordL (L.take (k + 1))).length = ys.length + d := by rw [HWK.out]; simp
          have HWN : Hid (WS (w.heap.size + 1) rb m rc VB (wordL (L.take (k + 1))).length c L (wordL (L.take (k + 1))) w wr) := by
            show WS _ _ _ _ _ _ _ _ _ _ _
            rw [hlen, HWK.out]
            exact HWS.out
          have HLEN := Lib.hid hlen
          clear hlen HWS HXW HNE
          go_wp2
          go_roundw
          case rel => exact ⟨k + 1, VB, c, by omega, by go_num, by rw [HLEN.out], HWN.out⟩
          case measure => simp [intOf]; omega
    · obtain rfl : k = m := by omega
      rw [List.take_of_length_le (by rw [HLL.out]; exact Nat.le_refl _)] at HWS ⊢
      have HOF := Lib.hid (row_base HWS.out.own (show w.heap.size ≤ w.heap.size + 1 by omega))
      have HBF := Lib.hid HWS.out.below
      clear HWS
      go_wp2
      go_ret
      exact ⟨VB, c, rfl, HOF.out, HBF.out⟩
end Go.Proofs.YtpjillclladjaaaDoor.Win
