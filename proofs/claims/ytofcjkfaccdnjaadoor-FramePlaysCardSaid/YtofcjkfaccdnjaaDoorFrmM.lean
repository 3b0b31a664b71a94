
/- Frames: a table that isn't there; what a tick does, on both sides; an engine and the document's beside it. Condition: slices have at most the greatest length. -/

import Derived.Test.YtofcjkfaccdnjaaDoorFrmL

namespace Go.Proofs.YtofcjkfaccdnjaaDoor.Frm

open Go.RowKit Go.PlainAid Go.Proofs.YtofcjkfaccdnjaaDoor.Oct Go.Proofs.YtofcjkfaccdnjaaDoor.Flt Go.Proofs.YtofcjkfaccdnjaaDoor.Rdr Go.Proofs.YtofcjkfaccdnjaaDoor.Args Go.Proofs.YtofcjkfaccdnjaaDoor.Win Go.Proofs.YtofcjkfaccdnjaaDoor.Tab Go.Proofs.YtofcjkfaccdnjaaDoor.Clk

open Go.Proofs.YtofcjkfaccdnjaaDoor.Act (A3 actL flatA ActsAt I64 Wide list_of)

open Go.Proofs.YtofcjkfaccdnjaaDoor.Scd (SC scC rgS rgS_in rowB sright09_any ScdAt WideS scheds_of)

set_option linter.unusedVariables false

set_option linter.unusedSimpArgs false

set_option maxRecDepth 4000 in
theorem index_yes (b : Nat) (w : World) (h : w.cell? ⟨b, 0, none⟩ = some (.pointer none)) :
    Calls Tryd.prog 51 #[.slice (some ⟨b, 0, none⟩) 1 1, .pointer none] w fun e w' => e = .returned (.int .i64 0) ∧ Below w.heap.size w w' := by
  have H := Lib.hid h
  clear h
  go_enter Tryd.func51, Tryd.ntmps51
  go_wp2
  go_loopw [8] (fun i wr => i = .int .i64 0 ∧ ∃ m, wr = w.drewN m) (fun i _ => 0)
  case atStart => exact ⟨rfl, 0, rfl⟩
  case round =>
    obtain ⟨rfl, m, hwr⟩ := hrel
    have HBW : Hid (Below w.heap.size w wr) := by show Below _ _ _; rw [hwr]; exact ⟨rfl, rfl, rfl, Nat.le_refl _, fun _ _ => rfl⟩
    have hc : wr.cell? ⟨b, 0, none⟩ = some (.pointer none) := by rw [hwr]; exact H.out
    have heq : (binOp BinOp.eql 63 (.pointer none) (.pointer none)).run Tryd.prog wr = .ok (.bool true) wr := by rfl
    clear hwr
    go_wp2
    go_ret
    exact ⟨rfl, HBW.out⟩
theorem contains_yes (b : Nat) (w : World) (h : w.cell? ⟨b, 0, none⟩ = some (.pointer none)) :
    Calls Tryd.prog 28 #[.slice (some ⟨b, 0, none⟩) 1 1, .pointer none] w fun e w' => e = .returned (.bool true) ∧ Below w.heap.size w w' := by
  have HI := Lib.hid (index_yes b w h)
  clear h
  go_enter Tryd.func28, Tryd.ntmps28
  go_wp2_with fail
  refine HI.out.mono ?_
  rintro e w2 ⟨rfl, hb2⟩
  have HB := Lib.hid hb2
  clear hb2
  go_wp2
  go_ret
  exact ⟨rfl, HB.out⟩
theorem enew_nil (b : Nat) (first : Int) (epoch : Int) (w : World) (h : w.cell? ⟨b, 0, none⟩ = some (.pointer none)) :
    Calls Tryd.prog 9 #[.slice (some ⟨b, 0, none⟩) 1 1, .int .i64 first, .int .u64 epoch] w fun e w' => e = .returned (.tuple #[.pointer none, .int .i64 1]) ∧ Below w.heap.size w w' := by
  have HI := Lib.hid (contains_yes b w h)
  clear h
  go_enter Tryd.func9, Tryd.ntmps9
  go_wp2_with fail
  refine HI.out.mono ?_
  rintro e w2 ⟨rfl, hb2⟩
  have HB := Lib.hid hb2
  clear hb2
  go_wp2
  go_ret2
  exact ⟨rfl, HB.out⟩
theorem uniq_back {l : List SC} {Ts : List TR} (hn : Ts.length = l.length) (hl : ∀ (i : Nat) (x : SC) (X : TR), l[i]? = some x → Ts[i]? = some X → Like x X) (hu : Uniq Ts Ts.length) : UniqL l l.length := by
  intro i j x y h1 h2 hx hy
  have hj : j < Ts.length := by omega
  have hX : Ts[i]? = some (Ts[i]'(by omega)) := List.getElem?_eq_getElem (by omega)
  have hY : Ts[j]? = some (Ts[j]'hj) := List.getElem?_eq_getElem hj
  rw [← (hl i x _ hx hX).id, ← (hl j y _ hy hY).id]
  exact hu i j _ _ h1 hj hX hY
/-- What a tick does. -/
def TK (Ts : List TR) (T : TR) (t : Nat) (due : Int) (now frames : Nat) (T' : TR) (t' now' frames' : Nat) (o : Int) (b ok : Bool) : Prop :=
  (now = 18446744073709551615 ∧ T' = T ∧ t' = t ∧ now' = now ∧ frames' = frames ∧ o = -1 ∧ b = false ∧ ok = false) ∨
  (now < 18446744073709551615 ∧ t + 1 < T.fr ∧ T' = T ∧ t' = t + 1 ∧ now' = now + 1 ∧ frames' = frames ∧ o = T.f (t : Int) ∧ b = false ∧ ok = true) ∨
  (now < 18446744073709551615 ∧ t + 1 = T.fr ∧ pick Ts due = some T' ∧ t' = 0 ∧ now' = now + 1 ∧ frames' = frames + 1 ∧ o = T.f (t : Int) ∧ b = true ∧ ok = true)
section

variable {w : World} {B q mb ck cu : Nat} {Ts : List TR} {T : TR} {t : Nat} {due : Int} {now frames : Nat} {T' : TR} {t' now' frames' : Nat} {o : Int} {b ok : Bool}

theorem tk_some (h : IsE w B q mb ck cu Ts T t due now frames) : ∃ T' t' now' frames' o b ok, TK Ts T t due now frames T' t' now' frames' o b ok := by
  have htm := h.tm
  have htl := h.tick_lt
  obtain ⟨X, hX⟩ := h.dues
  by_cases h1 : now = 18446744073709551615
  · exact ⟨_, _, _, _, _, _, _, .inl ⟨h1, rfl, rfl, rfl, rfl, rfl, rfl, rfl⟩⟩
  · by_cases h2 : t + 1 < T.fr
    · exact ⟨_, _, _, _, _, _, _, .inr (.inl ⟨by omega, h2, rfl, rfl, rfl, rfl, rfl, rfl, rfl⟩)⟩
    · exact ⟨_, _, _, _, _, _, _, .inr (.inr ⟨by omega, by omega, hX, rfl, rfl, rfl, rfl, rfl, rfl⟩)⟩
theorem etick_det (h : IsE w B q mb ck cu Ts T t due now frames) (k : TK Ts T t due now frames T' t' now' frames' o b ok) :
    Calls Tryd.prog 14 #[.pointer (some ⟨q, 0, none⟩)] w fun e w' => e = .returned (.tuple #[.int .i64 o, .bool b, .bool ok]) ∧ ∃ cu', (cu' = cu ∨ w.heap.size ≤ cu') ∧ IsE w' B q mb ck cu' Ts T' t' due now' frames' ∧ Oth q ck cu w w' := by
  refine (etick_any h).mono ?_
  rintro e w' (⟨h1, rfl, h2, h3⟩ | ⟨h1, h2, rfl, h3, h4⟩ | ⟨h1, h2, X, cu', h3, rfl, h4, h5, h6⟩)
  · rcases k with ⟨_, rfl, rfl, rfl, rfl, rfl, rfl, rfl⟩ | ⟨h, _⟩ | ⟨h, _⟩
    · exact ⟨rfl, cu, .inl rfl, h2, h3⟩
    · omega
    · omega
  · rcases k with ⟨h, _⟩ | ⟨_, _, rfl, rfl, rfl, rfl, rfl, rfl, rfl⟩ | ⟨_, h, _⟩
    · omega
    · exact ⟨rfl, cu, .inl rfl, h3, h4⟩
    · omega
  · rcases k with ⟨h, _⟩ | ⟨_, h, _⟩ | ⟨_, _, hX, rfl, rfl, rfl, rfl, rfl, rfl⟩
    · omega
    · omega
    · rw [h3] at hX
      obtain rfl := Option.some.inj hX
      exact ⟨rfl, cu', .inr h4, h5, h6⟩
theorem rtick_det {A : Option Addr} {n cap : Nat} {l : List SC} {ids : List Int} (h : LK w A n l ids Ts) (hp : pick Ts T.id = some T) (ht : t < T.fr) (hx : T.fr ≤ 60) (hm : now ≤ 18446744073709551615) (hf : frames ≤ now) (k : TK Ts T t due now frames T' t' now' frames' o b ok) :
    Calls Tryd.prog 13 #[.agg #[.slice A n cap, .int .i64 T.id, .int .i64 due, .int .i64 (t : Int), .int .u64 (now : Int), .int .u64 (frames : Int)]] w fun e w' => e = .returned (.tuple #[.agg #[.slice A n cap, .int .i64 T'.id, .int .i64 due, .int .i64 (t' : Int), .int .u64 (now' : Int), .int .u64 (frames' : Int)], .int .i64 o, .bool b, .bool ok]) ∧ Below w.heap.size w w' := by
  refine (rtick18_any h cap T.id due t now frames T hp ht hx hm hf).mono ?_
  rintro e w' ⟨hb, ⟨h1, rfl⟩ | ⟨h1, h2, rfl⟩ | ⟨h1, h2, rfl⟩⟩
  · rcases k with ⟨_, rfl, rfl, rfl, rfl, rfl, rfl, rfl⟩ | ⟨h, _⟩ | ⟨h, _⟩
    · exact ⟨rfl, hb⟩
    · omega
    · omega
  · rcases k with ⟨h, _⟩ | ⟨_, _, rfl, rfl, rfl, rfl, rfl, rfl, rfl⟩ | ⟨_, h, _⟩
    · omega
    · exact ⟨rfl, hb⟩
    · omega
  · rcases k with ⟨h, _⟩ | ⟨_, h, _⟩ | ⟨_, _, hX, rfl, rfl, rfl, rfl, rfl, rfl⟩
    · omega
    · omega
    · rw [(pick_mem hX).2]
      exact ⟨rfl, hb⟩
theorem tk_pick (k : TK Ts T t due now frames T' t' now' frames' o b ok) (hp : pick Ts T.id = some T) : pick Ts T'.id = some T' := by
  rcases k with ⟨_, rfl, _⟩ | ⟨_, _, rfl, _⟩ | ⟨_, _, hX, _⟩
  · exact hp
  · exact hp
  · rw [(pick_mem hX).2]; exact hX
theorem rmake_det {A : Option Addr} {n cap : Nat} {l : List SC} {ids : List Int} (h : LK w A n l ids Ts) (cur due t now frames id : Int) :
    Calls Tryd.prog 11 #[.agg #[.slice A n cap, .int .i64 cur, .int .i64 due, .int .i64 t, .int .u64 now, .int .u64 frames], .int .i64 id] w fun e w' => e = .returned (.tuple #[.agg #[.slice A n cap, .int .i64 cur, .int .i64 (if (pick Ts id).isSome then id else due), .int .i64 t, .int .u64 now, .int .u64 frames], .bool (pick Ts id).isSome]) ∧ Below w.heap.size w w' := by
  cases hp : pick Ts id with
  | none => exact rmake18_no h cap cur due t now frames id hp
  | some X => exact rmake18_yes h cap cur due t now frames id (by rw [hp]; simp)
end

/-- An engine, and the document's in a box. -/
structure FP (w wr : World) (Bn q mb ck cu XB : Nat) (Ts : List TR) (T : TR) (t : Nat) (due : Int) (now frames : Nat) (cs : Array Value) : Prop where
  eng : IsE wr Bn q mb ck cu Ts T t due now frames
  pk : pick Ts T.id = some T
  box : wr.heap[XB]? = some (.cells cs 41 (0, 0))
  ne : XB ≠ q ∧ XB ≠ mb ∧ XB ≠ ck ∧ XB ≠ cu ∧ Bn ≤ XB
  hBn : w.heap.size ≤ Bn
  below : Below w.heap.size w wr
section

variable {w wr w' : World} {Bn q mb ck cu XB : Nat} {Ts : List TR} {T : TR} {t : Nat} {due : Int} {now frames : Nat} {cs : Array Value}

theorem FP.keep (f : FP w wr Bn q mb ck cu XB Ts T t due now frames cs) (b : Below wr.heap.size wr w') : FP w w' Bn q mb ck cu XB Ts T t due now frames cs :=
  ⟨f.eng.keep b, f.pk, (b.block _ (lt_of_block f.box)).trans f.box, f.ne, f.hBn, f.below.trans (b.mono f.below.size)⟩
theorem FP.step {cu' : Nat} {T' : TR} {t' : Nat} {due' : Int} {now' frames' : Nat} (f : FP w wr Bn q mb ck cu XB Ts T t due now frames cs) (hp : pick Ts T'.id = some T') (hE : IsE w' Bn q mb ck cu' Ts T' t' due' now' frames') (ho : Oth q ck cu wr w') (hc : cu' = cu ∨ wr.heap.size ≤ cu') : FP w w' Bn q mb ck cu' XB Ts T' t' due' now' frames' cs := by
  have hn := f.ne
  have hl := lt_of_block f.box
  exact ⟨hE, hp, (ho.block XB hl hn.1 hn.2.2.1 hn.2.2.2.1).trans f.box, ⟨hn.1, hn.2.1, hn.2.2.1, by omega, hn.2.2.2.2⟩, f.hBn, eb_step f.eng ho f.below f.hBn⟩
theorem FP.put (f : FP w wr Bn q mb ck cu XB Ts T t due now frames cs) (vs : Array Value) : FP w (wr.setRow XB vs) Bn q mb ck cu XB Ts T t due now frames vs := by
  have hn := f.ne
  have hBn := f.hBn
  have hg : wr.grownBy (wr.setRow XB vs) (some XB) := ⟨rfl, rfl, rfl, by simp, fun k _ hk => setRow_other wr XB k _ (fun e => hk (by simp [e]))⟩
  refine ⟨f.eng.grown hg fun j hj => ?_, f.pk, setRow_heap _ _ _ _ _ _ f.box, hn, hBn, Go.Proofs.YtofcjkfaccdnjaaDoor.Rdr.below_setRow f.below (by omega)⟩
  obtain rfl := Option.some.inj hj
  omega
end

end Go.Proofs.YtofcjkfaccdnjaaDoor.Frm
