
/- Frames: the document's schedule of an id. Condition: slices have at most the greatest length. Frames: an engine beside two rows of numbers, and the words that were emitted. No condition. -/

import Derived.Test.YtofcjkfaccdnjaaDoorFrmF

import Derived.Test.YtofcjkfaccdnjaaDoorWinY

namespace Go.Proofs.YtofcjkfaccdnjaaDoor.Frm

open Go.RowKit Go.PlainAid Go.Proofs.YtofcjkfaccdnjaaDoor.Oct Go.Proofs.YtofcjkfaccdnjaaDoor.Flt Go.Proofs.YtofcjkfaccdnjaaDoor.Rdr Go.Proofs.YtofcjkfaccdnjaaDoor.Args Go.Proofs.YtofcjkfaccdnjaaDoor.Win Go.Proofs.YtofcjkfaccdnjaaDoor.Tab Go.Proofs.YtofcjkfaccdnjaaDoor.Clk

open Go.Proofs.YtofcjkfaccdnjaaDoor.Act (A3 actL flatA ActsAt I64 Wide)

open Go.Proofs.YtofcjkfaccdnjaaDoor.Scd (SC scC rgS rgS_in rowB sright09_any ScdAt WideS scheds_of)

set_option linter.unusedVariables false

set_option linter.unusedSimpArgs false

/-- The first schedule of an id. -/
def pickL (l : List SC) (id : Int) : Option SC := l.find? fun x => x.id == id
theorem size_sc : (Tryd.prog.info? 37).map (·.size) = some 4 := by kernel_rfl
theorem one_sc (x : SC) (B : Option Addr) (cb : Nat) (C : Option Addr) (cc : Nat) : (scC x B cb C cc).all (·.oneCell') = true := by simp [scC, Value.oneCell']
theorem pickL_at {l : List SC} {id : Int} {k : Nat} {x : SC} (hx : l[k]? = some x) (he : x.id = id) (hn : ∀ (j : Nat) (z : SC), j < k → l[j]? = some z → z.id ≠ id) : pickL l id = some x := by
  unfold pickL
  induction l generalizing k with
  | nil => simp at hx
  | cons a r ih =>
    cases k with
    | zero =>
      obtain rfl : a = x := by simpa using hx
      simp [he]
    | succ k =>
      have h0 := hn 0 a (by omega) rfl
      rw [List.find?_cons]
      have : (a.id == id) = false := by simp [h0]
      rw [this]
      exact ih (k := k) (by simpa using hx) (fun j z hj hz => hn (j + 1) z (by omega) (by simpa using hz))
theorem pickL_none {l : List SC} {id : Int} (hn : ∀ (j : Nat) (z : SC), j < l.length → l[j]? = some z → z.id ≠ id) : pickL l id = none := by
  unfold pickL
  rw [List.find?_eq_none]
  intro x hx
  obtain ⟨i, hi, rfl⟩ := List.mem_iff_getElem.1 hx
  simpa using hn i _ hi (List.getElem?_eq_getElem hi)
theorem results_row_tmp {P : Program} {fn : Func} {p u : Tmp} {ty : TypeId} (h : fn.results = #[.cell p ty, .tmp u]) (tmps : Array Value) (w : World) (g : Nat) (t : TypeId) (cs : Array Value) (fr : Nat × Nat) (d : TypeDesc)
    (hp : tmps.getD p undef = .pointer (some ⟨g, 0, none⟩)) (hg : w.heap[g]? = some (.cells cs t fr))
    (hu : P.underlying ty = some d) (hd : (match d with | .struct _ | .array _ _ => true | _ => false) = true) (hi : (P.info? ty).map (·.size) = some cs.size) :
    (results fn tmps).run P w = .ok (.tuple #[.agg cs, tmps.getD u undef]) w := by
  have hp' : tmps[p]?.getD undef = .pointer (some ⟨g, 0, none⟩) := by simpa using hp
  simp [results, h, hp', asAddr, run_loadVar_row w g t ty cs fr d hg hu hd hi]
/-- What the document's schedule of an id is. -/
def GetPost (l : List SC) (id : Int) (w : World) (e : Ending) (w' : World) : Prop :=
  Below w.heap.size w w' ∧
  ((pickL l id = none ∧ e = .returned (.tuple #[.agg #[.int .i64 0, .int .i64 0, .slice none 0 0, .slice none 0 0], .bool false])) ∨
   (∃ x B cb C cc, pickL l id = some x ∧ e = .returned (.tuple #[.agg (scC x B cb C cc), .bool true]) ∧ ActsAt w' B x.ws ∧ ActsAt w' C x.ns))
set_option maxRecDepth 4000 in
set_option maxHeartbeats 1600000 in
theorem get18_any (A : Option Addr) (cap n : Nat) (l : List SC) (id : Int) (w : World) (h : ScdAt w A l) (hn : l.length = n) (hl : n ≤ maxLen) :
    Calls Tryd.prog 10 #[.slice A n cap, .int .i64 id] w (GetPost l id w) := by
  have H := Lib.hid h
  have HN := Lib.hid hn
  have hl2 : n ≤ 9223372036854775807 := hl
  have HSIZ := Lib.hid size_sc
  have hb0 : Below w.heap.size w (w.alloc (.cells #[.int .i64 0, .int .i64 0, .slice none 0 0, .slice none 0 0] 37)) := (Below.refl _ _).alloc (Nat.le_refl _) _
  have HS0 : Hid ((w.alloc (.cells #[.int .i64 0, .int .i64 0, .slice none 0 0, .slice none 0 0] 37)).heap[w.heap.size]? = some (.cells #[.int .i64 0, .int .i64 0, .slice none 0 0, .slice none 0 0] 37 (0, 0)) ∧ Below w.heap.size w (w.alloc (.cells #[.int .i64 0, .int .i64 0, .slice none 0 0, .slice none 0 0] 37))) := ⟨heap_alloc_new _ _, hb0⟩
  clear h hn hl hb0
  go_enter Tryd.func10, Tryd.ntmps10
  go_wp2
  go_loopw [6] (fun i wr => ∃ k : Nat, k ≤ n ∧ i = .int .i64 (k : Int) ∧ (∀ (j : Nat) (z : SC), j < k → l[j]? = some z → z.id ≠ id) ∧ wr.heap[w.heap.size]? = some (.cells #[.int .i64 0, .int .i64 0, .slice none 0 0, .slice none 0 0] 37 (0, 0)) ∧ Below w.heap.size w wr) (fun i _ => n - (intOf i).toNat)
  case atStart => exact ⟨0, Nat.zero_le _, rfl, fun j z hj => by omega, HS0.out⟩
  case round =>
    obtain ⟨k, hk, rfl, hne, hbox, hbel⟩ := hrel
    have HNE := Lib.hid hne
    have HX := Lib.hid hbox
    have HB := Lib.hid hbel
    have b0 := cell_of_row _ _ 0 _ _ _ hbox
    have b1 := cell_of_row _ _ 1 _ _ _ hbox
    have b2 := cell_of_row _ _ 2 _ _ _ hbox
    have b3 := cell_of_row _ _ 3 _ _ _ hbox
    simp only [List.getElem?_toArray, List.getElem?_cons_zero, List.getElem?_cons_succ] at b0 b1 b2 b3
    clear hne hbox hbel HS0
    by_cases hlt : k < n
    · obtain ⟨x, hx⟩ : ∃ x, l[k]? = some x := ⟨_, List.getElem?_eq_getElem (by rw [HN.out]; exact hlt)⟩
      have HXX := Lib.hid hx
      obtain ⟨y, B, cb, C, cc, rfl, e0, e1, e2, e3, hB, hC, _⟩ := H.out k x hx
      have c0 := (HB.out.cell (Go.block_lt_of_cell e0)).trans e0
      have c1 := (HB.out.cell (Go.block_lt_of_cell e1)).trans e1
      have c2 := (HB.out.cell (Go.block_lt_of_cell e2)).trans e2
      have c3 := (HB.out.cell (Go.block_lt_of_cell e3)).trans e3
      have HAB := Lib.hid (And.intro hB hC)
      have hki : (0 : Int) ≤ k := by omega
      have hkb : (k : Int) < n := by omega
      have hk1 : IntKind.i64.wrap ((k : Int) + 1) = (k : Int) + 1 := IntWalk.i64_in _ (by omega)
      have HONE := Lib.hid (one_sc x B cb C cc)
      clear hx hB hC e0 e1 e2 e3
      obtain ⟨id', fr, ws, ns⟩ := x
      unfold scC at HONE
      dsimp only at c0 c1 c2 c3 HAB HONE
      obtain ⟨nw, hnw⟩ : ∃ m, ws.length = m := ⟨_, rfl⟩
      obtain ⟨nn, hnn⟩ : ∃ m, ns.length = m := ⟨_, rfl⟩
      rw [hnw] at c2 HONE
      rw [hnn] at c3 HONE
      by_cases hq : id' = id
      · have te : (id' == id) = true := by simp [hq]
        have HPK := Lib.hid (pickL_at HXX.out hq HNE.out)
        clear hq
        have HY : Hid ((wr.setRow w.heap.size #[.int .i64 id', .int .i64 fr, .slice B nw cb, .slice C nn cc]).heap[w.heap.size]? = some (.cells #[.int .i64 id', .int .i64 fr, .slice B nw cb, .slice C nn cc] 37 (0, 0))) := setRow_heap _ _ _ _ _ _ HX.out
        have HBY : Hid (Below w.heap.size w (wr.setRow w.heap.size #[.int .i64 id', .int .i64 fr, .slice B nw cb, .slice C nn cc])) := Go.Proofs.YtofcjkfaccdnjaaDoor.Rdr.below_setRow HB.out (Nat.le_refl _)
        have HNW := Lib.hid hnw
        have HNN := Lib.hid hnn
        clear hnw hnn
        go_wp2_with ((with_reducible show wpList _ _ _ _ _ _); refine wpList_store_row rfl 37 (.tmp 4) (.tmp 23) rfl w.heap.size #[.int .i64 id', .int .i64 fr, .slice B nw cb, .slice C nn cc] rfl rfl 37 #[.int .i64 0, .int .i64 0, .slice none 0 0, .slice none 0 0] HX.out (by rw [HSIZ.out]; rfl) rfl HONE.out ?_)
        refine bodyPost_ret (v := .tuple #[.agg #[.int .i64 id', .int .i64 fr, .slice B nw cb, .slice C nn cc], .bool true]) (results_row_tmp Tryd.results10 _ _ w.heap.size 37 _ (0, 0) _ rfl HY.out Tryd.underlying37 rfl (by rw [size_sc]; rfl)) rfl ?_
        exact ⟨HBY.out, .inr ⟨_, B, cb, C, cc, HPK.out, by unfold scC; dsimp only; rw [HNW.out, HNN.out], HAB.out.1.kept HBY.out, HAB.out.2.kept HBY.out⟩⟩
      · have te : (id' == id) = false := by simp [hq]
        have HQ := Lib.hid hq
        clear hq
        go_wp2
        go_roundw
        case rel => exact ⟨k + 1, by omega, by go_num, fun j z hj hz => by
          by_cases hjk : j = k
          · subst hjk
            rw [HXX.out] at hz
            obtain rfl := Option.some.inj hz
            exact HQ.out
          · exact HNE.out j z (by omega) hz, HX.out, HB.out⟩
        case measure => simp [intOf]; omega
    · obtain rfl : k = n := by omega
      have HPK := Lib.hid (pickL_none (l := l) (id := id) (by rw [HN.out]; exact HNE.out))
      have HY : Hid ((wr.setRow w.heap.size #[.int .i64 0, .int .i64 0, .slice none 0 0, .slice none 0 0]).heap[w.heap.size]? = some (.cells #[.int .i64 0, .int .i64 0, .slice none 0 0, .slice none 0 0] 37 (0, 0))) := setRow_heap _ _ _ _ _ _ HX.out
      have HBY : Hid (Below w.heap.size w (wr.setRow w.heap.size #[.int .i64 0, .int .i64 0, .slice none 0 0, .slice none 0 0])) := Go.Proofs.YtofcjkfaccdnjaaDoor.Rdr.below_setRow HB.out (Nat.le_refl _)
      go_wp2_with ((with_reducible show wpList _ _ _ _ _ _); refine wpList_store_row rfl 37 (.tmp 4) (.tmp 24) rfl w.heap.size #[.int .i64 0, .int .i64 0, .slice none 0 0, .slice none 0 0] rfl rfl 37 #[.int .i64 0, .int .i64 0, .slice none 0 0, .slice none 0 0] HX.out (by rw [HSIZ.out]; rfl) rfl (one_sc ⟨0, 0, [], []⟩ none 0 none 0) ?_)
      refine bodyPost_ret (v := .tuple #[.agg #[.int .i64 0, .int .i64 0, .slice none 0 0, .slice none 0 0], .bool false]) (results_row_tmp Tryd.results10 _ _ w.heap.size 37 _ (0, 0) _ rfl HY.out Tryd.underlying37 rfl (by rw [size_sc]; rfl)) rfl ?_
      exact ⟨HBY.out, .inl ⟨HPK.out, rfl⟩⟩
end Go.Proofs.YtofcjkfaccdnjaaDoor.Frm

namespace Go.Proofs.YtofcjkfaccdnjaaDoor.Frm

open Go.RowKit Go.PlainAid Go.Proofs.YtofcjkfaccdnjaaDoor.Oct Go.Proofs.YtofcjkfaccdnjaaDoor.Flt Go.Proofs.YtofcjkfaccdnjaaDoor.Rdr Go.Proofs.YtofcjkfaccdnjaaDoor.Args Go.Proofs.YtofcjkfaccdnjaaDoor.Win Go.Proofs.YtofcjkfaccdnjaaDoor.Tab Go.Proofs.YtofcjkfaccdnjaaDoor.Clk

open Go.Proofs.YtofcjkfaccdnjaaDoor.Act (A3 actL flatA ActsAt I64 Wide list_of)

open Go.Proofs.YtofcjkfaccdnjaaDoor.Scd (SC scC rgS rgS_in rowB sright09_any ScdAt WideS scheds_of)

set_option linter.unusedVariables false

set_option linter.unusedSimpArgs false

theorem ints_in {w : World} {a : Option Addr} {len cap : Nat} {z : List Int} (h : IsRow .i64 w a len cap z) : (z.take len).length = len ∧ IntsBelow w.heap.size w (.slice a len cap) (z.take len) ∧ len ≤ maxLen := by
  rcases h with ⟨rfl, rfl, rfl, rfl⟩ | ⟨y, rfl, h1, h2, h3, h4, _⟩
  · exact ⟨rfl, .inl ⟨rfl, rfl⟩, Nat.zero_le _⟩
  · have hl : (z.take len).length = len := by rw [List.length_take]; omega
    refine ⟨hl, ?_, by omega⟩
    refine .inr ⟨y, cap, by rw [hl], fun h0 => ?_, fun j hj => ?_⟩
    · have := Go.block_lt_of_cell (h4 0 (by rw [hl] at h0; omega))
      rw [add_block] at this
      exact this
    · rw [hl] at hj
      rw [h4 j (by omega)]
      simp [List.getD, List.getElem?_take_of_lt hj]
theorem sc_id {w : World} {y : Addr} {l : List SC} (h : ScdAt w (some y) l) {i : Nat} {x : SC} (hx : l[i]? = some x) : w.cell? (y.add (i * 4)) = some (.int .i64 x.id) := by
  obtain ⟨y', _, _, _, _, e, c, _⟩ := h i x hx
  rw [Option.some.inj e]
  exact c
theorem sc_id0 {w : World} {y : Addr} {l : List SC} (h : ScdAt w (some y) l) {x : SC} (hx : l[0]? = some x) : w.cell? y = some (.int .i64 x.id) := by
  have := sc_id h hx
  rwa [show y.add (0 * 4) = y by simp [Addr.add]] at this
/-- No two of the first k schedules have one id. -/
def UniqL (l : List SC) (k : Nat) : Prop := ∀ (i j : Nat) (x y : SC), i < j → j < k → l[i]? = some x → l[j]? = some y → x.id ≠ y.id
theorem uniq_of {l : List SC} {Ts : List TR} (hn : Ts.length = l.length) (hl : ∀ (i : Nat) (x : SC) (X : TR), l[i]? = some x → Ts[i]? = some X → Like x X) (hu : UniqL l l.length) : Uniq Ts Ts.length := by
  intro i j X Y h1 h2 hX hY
  have hj : j < l.length := by omega
  have hx : l[i]? = some (l[i]'(by omega)) := List.getElem?_eq_getElem (by omega)
  have hy : l[j]? = some (l[j]'hj) := List.getElem?_eq_getElem hj
  rw [(hl i _ X hx hX).id, (hl j _ Y hy hY).id]
  exact hu i j _ _ h1 hj hx hy
theorem pick_like {l : List SC} {Ts : List TR} (id : Int) (hn : Ts.length = l.length) (hl : ∀ (i : Nat) (x : SC) (X : TR), l[i]? = some x → Ts[i]? = some X → Like x X) :
    (pickL l id = none ∧ pick Ts id = none) ∨ ∃ x X, pickL l id = some x ∧ pick Ts id = some X ∧ Like x X ∧ x ∈ l := by
  induction l generalizing Ts with
  | nil =>
    have : Ts = [] := List.eq_nil_of_length_eq_zero hn
    subst this
    exact .inl ⟨rfl, rfl⟩
  | cons a r ih =>
    cases Ts with
    | nil => simp at hn
    | cons b s =>
      have h0 := hl 0 a b rfl rfl
      have hr := ih (Ts := s) (by simpa using hn) (fun i x X hx hX => hl (i + 1) x X (by simpa using hx) (by simpa using hX))
      unfold pickL pick at hr ⊢
      rw [List.find?_cons, List.find?_cons, h0.id]
      by_cases he : a.id = id
      · simp only [he, beq_self_eq_true]
        exact .inr ⟨a, b, rfl, rfl, h0, by simp⟩
      · have : (a.id == id) = false := by simp [he]
        simp only [this]
        rcases hr with h | ⟨x, X, h1, h2, h3, h4⟩
        · exact .inl h
        · exact .inr ⟨x, X, h1, h2, h3, List.mem_cons_of_mem _ h4⟩
theorem pick_of {l : List SC} {Ts : List TR} {x : SC} (hn : Ts.length = l.length) (hl : ∀ (i : Nat) (x : SC) (X : TR), l[i]? = some x → Ts[i]? = some X → Like x X) {i : Nat} (hx : l[i]? = some x) : pick Ts x.id ≠ none := by
  intro h
  unfold pick at h
  rw [List.find?_eq_none] at h
  have hi : i < Ts.length := by have := (List.getElem?_eq_some_iff.1 hx).1; omega
  have hX : Ts[i]? = some Ts[i] := List.getElem?_eq_getElem hi
  have := h _ (List.getElem_mem hi)
  simp [(hl i x _ hx hX).id] at this
theorem new_ok {l : List SC} {Ts : List TR} {V : Value} {w0 w : World} {x : SC} (f : TRl l l.length Ts V w0 w) (hl : l.length ≤ 1099511627776) (epoch : Nat) (he : epoch ≤ 18446744073709551615) (hu : UniqL l l.length) {i : Nat} (hx : l[i]? = some x) (hw : I64 x.id) :
    Calls Tryd.prog 9 #[V, .int .i64 x.id, .int .u64 (epoch : Int)] w fun e w' => ∃ T q mb ck cu, pick Ts x.id = some T ∧ e = .returned (.tuple #[.pointer (some ⟨q, 0, none⟩), .int .i64 0]) ∧ IsE w' w.heap.size q mb ck cu Ts T 0 x.id epoch 0 ∧ Below w.heap.size w w' := by
  refine (new_of f hl x.id epoch hw he).mono ?_
  rintro e w' ⟨hb, ⟨h, _⟩ | ⟨_, h, _⟩ | ⟨_, T, q, mb, ck, cu, h1, h2, h3⟩⟩
  · exact absurd (uniq_of f.len f.like hu) h
  · exact absurd h (pick_of f.len f.like hx)
  · exact ⟨T, q, mb, ck, cu, h1, h2, h3, hb⟩
theorem eb_step {w wr w' : World} {B q mb ck cu : Nat} {Ts : List TR} {T : TR} {t : Nat} {due : Int} {now frames : Nat} (hE : IsE wr B q mb ck cu Ts T t due now frames) (ho : Oth q ck cu wr w') (hb : Below w.heap.size w wr) (hB : w.heap.size ≤ B) : Below w.heap.size w w' :=
  hb.trans (ho.below (by have := hE.hB; omega) (by have := hE.hB; omega) (by have := hE.hB; omega) hb.size)
/-- Calls that came in: whether a table is made due, and which. -/
def OpsAt (w : World) (A : Option Addr) (L : List (Bool × Int)) : Prop := ∀ i x, L[i]? = some x → ∃ y, A = some y ∧ w.cell? (y.add (i * 2)) = some (.bool x.1) ∧ w.cell? ⟨(y.add (i * 2)).block, (y.add (i * 2)).off + 1, none⟩ = some (.int .i64 x.2)
theorem OpsAt.kept {w w' : World} {A : Option Addr} {L : List (Bool × Int)} (h : OpsAt w A L) (b : Below w.heap.size w w') : OpsAt w' A L := by
  intro i x hx
  obtain ⟨y, e, c0, c1⟩ := h i x hx
  exact ⟨y, e, (b.cell (Go.block_lt_of_cell c0)).trans c0, (b.cell (Go.block_lt_of_cell c1)).trans c1⟩
theorem ops_of {w : World} {a : Option Addr} {len cap : Nat} (h : IsRecs w a len cap [.bool, .int .i64]) : ∃ L, L.length = len ∧ OpsAt w a L ∧ (∀ x ∈ L, I64 x.2) ∧ len ≤ maxLen := by
  rcases h with ⟨rfl, rfl, rfl⟩ | ⟨y, rfl, hlc, hcm, hcell⟩
  · exact ⟨[], rfl, fun i x hx => by simp at hx, by simp, Nat.zero_le _⟩
  · obtain ⟨l, hl, hp⟩ := list_of (fun i (x : Bool × Int) => (w.cell? (y.add (i * 2)) = some (.bool x.1) ∧ w.cell? ⟨(y.add (i * 2)).block, (y.add (i * 2)).off + 1, none⟩ = some (.int .i64 x.2)) ∧ I64 x.2) len (by
      intro i hi
      obtain ⟨_, c0, b, rfl⟩ := hcell i hi 0 _ rfl
      obtain ⟨_, c1, p, rfl, hp⟩ := hcell i hi 1 _ rfl
      exact ⟨⟨b, p⟩, ⟨c0, c1⟩, bounds_i64 hp⟩)
    refine ⟨l, hl, fun i x hx => ⟨y, rfl, (hp i x hx).1⟩, fun x hx => ?_, by omega⟩
    obtain ⟨i, hi, rfl⟩ := List.mem_iff_getElem.1 hx
    exact (hp i _ (List.getElem?_eq_getElem hi)).2
theorem owns_blk {w w' : World} {B e size n : Nat} {v : Value} {xs : List Value} (h : w.ownsRow B e size v n xs) (hk : ∀ j, v.ownBlock = some j → w'.heap[j]? = w.heap[j]?) : w'.ownsRow B e size v n xs := by
  refine ⟨h.1, ?_⟩
  rcases h.2 with h | ⟨g, cap, cur, rfl, h1, h2, h3⟩
  · exact .inl h
  · exact .inr ⟨g, cap, cur, rfl, h1, (hk g rfl).trans h2, h3⟩
theorem IsE.grown {w w' : World} {row : Option Nat} {B q mb ck cu : Nat} {Ts : List TR} {T : TR} {t : Nat} {due : Int} {now frames : Nat} (h : IsE w B q mb ck cu Ts T t due now frames) (hg : w.grownBy w' row) (hr : ∀ j, row = some j → B ≤ j ∧ j ≠ q ∧ j ≠ mb ∧ j ≠ ck ∧ j ≠ cu) : IsE w' B q mb ck cu Ts T t due now frames := by
  obtain ⟨r, x, h1, h2⟩ := h.cur
  obtain ⟨n, h3⟩ := h.map
  have hB := h.hB
  obtain ⟨l1, l2, l3, l4⟩ := h.lt
  have hb : ∀ k, k < w.heap.size → (k = q ∨ k = mb ∨ k = ck ∨ k = cu) → w'.heap[k]? = w.heap[k]? := fun k hk h => hg.block k hk fun e => by have := hr k e.symm; omega
  refine ⟨(hb _ l1 (by omega)).trans h.box, (hb _ l3 (by omega)).trans h.clk, ⟨r, x, ⟨(hb _ l4 (by omega)).trans h1.box⟩, h2⟩, ⟨n, h3.kept (hb _ l2 (by omega))⟩, fun X hX => ?_, h.mem, h.dues, h.wd, h.hB, h.ne, h.tm⟩
  have hT := h.tabs X hX
  exact hT.grown hg (by omega) fun j hj => ⟨by have := hT.lg; have := hr j hj; omega, fun a ha => by have := hT.lA a ha; have := hr j hj; omega⟩
/-- An engine, and beside it two rows of numbers. -/
structure FW (w wr : World) (Bn q mb ck cu : Nat) (Ts : List TR) (T : TR) (t : Nat) (due : Int) (now frames : Nat) (V1 V2 : Value) (E O : List Int) : Prop where
  eng : IsE wr Bn q mb ck cu Ts T t due now frames
  own1 : wr.ownsRow Bn 3 1 V1 E.length (E.map (Value.int .i64))
  own2 : wr.ownsRow Bn 3 1 V2 O.length (O.map (Value.int .i64))
  ap1 : ∀ j, V1.ownBlock = some j → j ≠ q ∧ j ≠ mb ∧ j ≠ ck ∧ j ≠ cu
  ap2 : ∀ j, V2.ownBlock = some j → j ≠ q ∧ j ≠ mb ∧ j ≠ ck ∧ j ≠ cu
  ap : ∀ j, V1.ownBlock = some j → V2.ownBlock ≠ some j
  below : Below w.heap.size w wr
  hBn : w.heap.size ≤ Bn
section

variable {w wr w' : World} {Bn q mb ck cu : Nat} {Ts : List TR} {T : TR} {t : Nat} {due : Int} {now frames : Nat} {V1 V2 : Value} {E O : List Int}

theorem FW.keep (f : FW w wr Bn q mb ck cu Ts T t due now frames V1 V2 E O) (b : Below wr.heap.size wr w') : FW w w' Bn q mb ck cu Ts T t due now frames V1 V2 E O :=
  ⟨f.eng.keep b, owns_kept f.own1 b, owns_kept f.own2 b, f.ap1, f.ap2, f.ap, f.below.trans (b.mono f.below.size), f.hBn⟩
theorem FW.step {cu' : Nat} {T' : TR} {t' : Nat} {due' : Int} {now' frames' : Nat} (f : FW w wr Bn q mb ck cu Ts T t due now frames V1 V2 E O) (hE : IsE w' Bn q mb ck cu' Ts T' t' due' now' frames') (ho : Oth q ck cu wr w') (hc : cu' = cu ∨ wr.heap.size ≤ cu') :
    FW w w' Bn q mb ck cu' Ts T' t' due' now' frames' V1 V2 E O := by
  refine ⟨hE, owns_blk f.own1 fun j hj => ?_, owns_blk f.own2 fun j hj => ?_, fun j hj => ?_, fun j hj => ?_, f.ap, eb_step f.eng ho f.below f.hBn, f.hBn⟩
  · have h1 := f.ap1 j hj
    exact ho.block j (f.own1.lt j hj).2 h1.1 h1.2.2.1 h1.2.2.2
  · have h1 := f.ap2 j hj
    exact ho.block j (f.own2.lt j hj).2 h1.1 h1.2.2.1 h1.2.2.2
  · have h1 := f.ap1 j hj
    have h2 := (f.own1.lt j hj).2
    exact ⟨h1.1, h1.2.1, h1.2.2.1, by omega⟩
  · have h1 := f.ap2 j hj
    have h2 := (f.own2.lt j hj).2
    exact ⟨h1.1, h1.2.1, h1.2.2.1, by omega⟩
theorem FW.app1 {V : Value} {v : Int} (f : FW w wr Bn q mb ck cu Ts T t due now frames V1 V2 E O) (ho : w'.ownsRow Bn 3 1 V (E.length + 1) (E.map (Value.int .i64) ++ [.int .i64 v])) (hg : wr.grownBy w' V1.ownBlock) (hat : V.ownBlock = V1.ownBlock ∨ V.ownBlock = some wr.heap.size) :
    FW w w' Bn q mb ck cu Ts T t due now frames V V2 (E ++ [v]) O := by
  have hlt := f.eng.lt
  refine ⟨f.eng.grown hg fun j hj => ?_, ?_, f.own2.kept hg ?_, fun j hj => ?_, f.ap2, fun j hj => ?_, f.below.grown hg f.below.size fun j hj => ?_, f.hBn⟩
  · have h1 := f.ap1 j hj
    exact ⟨(f.own1.lt j hj).1, h1.1, h1.2.1, h1.2.2.1, h1.2.2.2⟩
  · simpa using ho
  · cases hv : V2.ownBlock with
    | none => exact .inl rfl
    | some k =>
      right
      intro e
      exact f.ap k e.symm hv
  · rcases hat with h | h
    · exact f.ap1 j (h ▸ hj)
    · rw [h] at hj
      obtain rfl := Option.some.inj hj
      omega
  · rcases hat with h | h
    · exact f.ap j (h ▸ hj)
    · rw [h] at hj
      obtain rfl := Option.some.inj hj
      intro e
      have := (f.own2.lt _ e).2
      omega
  · have := (f.own1.lt j hj).1
    have := f.hBn
    omega
theorem FW.app2 {V : Value} {v : Int} (f : FW w wr Bn q mb ck cu Ts T t due now frames V1 V2 E O) (ho : w'.ownsRow Bn 3 1 V (O.length + 1) (O.map (Value.int .i64) ++ [.int .i64 v])) (hg : wr.grownBy w' V2.ownBlock) (hat : V.ownBlock = V2.ownBlock ∨ V.ownBlock = some wr.heap.size) :
    FW w w' Bn q mb ck cu Ts T t due now frames V1 V E (O ++ [v]) := by
  have hlt := f.eng.lt
  refine ⟨f.eng.grown hg fun j hj => ?_, f.own1.kept hg ?_, ?_, f.ap1, fun j hj => ?_, fun j hj e => ?_, f.below.grown hg f.below.size fun j hj => ?_, f.hBn⟩
  · have h1 := f.ap2 j hj
    exact ⟨(f.own2.lt j hj).1, h1.1, h1.2.1, h1.2.2.1, h1.2.2.2⟩
  · cases hv : V1.ownBlock with
    | none => exact .inl rfl
    | some k =>
      right
      intro e
      exact f.ap k hv e.symm
  · simpa using ho
  · rcases hat with h | h
    · exact f.ap2 j (h ▸ hj)
    · rw [h] at hj
      obtain rfl := Option.some.inj hj
      omega
  · rcases hat with h | h
    · exact f.ap j hj (h ▸ e)
    · rw [h] at e
      obtain rfl := Option.some.inj e
      have := (f.own1.lt _ hj).2
      omega
  · have := (f.own2.lt j hj).1
    have := f.hBn
    omega
end

/-- The word of an id. -/
def wdT (Ts : List TR) (id : Int) : List Int := match pick Ts id with | some X => ticksL X.f 0 X.fr | none => []
/-- What was emitted is words, and a beginning of the last one. -/
structure WI (Ts : List TR) (E O : List Int) (T : TR) (t : Nat) : Prop where
  wo : ∃ P, O = P ++ [T.id] ∧ E = P.flatMap (wdT Ts) ++ ticksL T.f 0 t
  pk : pick Ts T.id = some T
  all : ∀ o ∈ O, pick Ts o ≠ none
theorem WI.start {Ts : List TR} {T : TR} {id : Int} (h : pick Ts id = some T) : WI Ts [] [id] T 0 := by
  have hid := (pick_mem h).2
  subst hid
  exact ⟨⟨[], rfl, rfl⟩, h, fun o ho => by rw [List.mem_singleton.1 ho, h]; simp⟩
theorem WI.on {Ts : List TR} {E O : List Int} {T : TR} {t : Nat} (h : WI Ts E O T t) : WI Ts (E ++ [T.f (t : Int)]) O T (t + 1) := by
  obtain ⟨P, h1, h2⟩ := h.wo
  refine ⟨⟨P, h1, ?_⟩, h.pk, h.all⟩
  rw [ticks_succ, h2, List.append_assoc, Int.zero_add]
theorem WI.next {Ts : List TR} {E O : List Int} {T X : TR} {t : Nat} {due : Int} (h : WI Ts E O T t) (ht : t + 1 = T.fr) (hX : pick Ts due = some X) : WI Ts (E ++ [T.f (t : Int)]) (O ++ [due]) X 0 := by
  obtain ⟨P, h1, h2⟩ := h.on.wo
  have hid := (pick_mem hX).2
  subst hid
  refine ⟨⟨P ++ [T.id], by rw [h1], ?_⟩, hX, fun o ho => ?_⟩
  · rw [h2, List.flatMap_append, ht]
    have e : wdT Ts T.id = ticksL T.f 0 T.fr := by unfold wdT; rw [h.pk]
    simp [e, ticksL]
  · rcases List.mem_append.1 ho with h' | h'
    · exact h.all o h'
    · rw [List.mem_singleton.1 h', hX]; simp
theorem WI.words {Ts : List TR} {E O : List Int} {T : TR} {t : Nat} (h : WI Ts E O T t) (ht : t < T.fr) : ∃ R, O.flatMap (wdT Ts) = E ++ R ∧ R.length = T.fr - t := by
  obtain ⟨P, h1, h2⟩ := h.wo
  have e : wdT Ts T.id = ticksL T.f 0 T.fr := by unfold wdT; rw [h.pk]
  refine ⟨(ticksL T.f 0 T.fr).drop t, ?_, by rw [List.length_drop, ticks_len]⟩
  have e2 : ticksL T.f 0 t = (ticksL T.f 0 T.fr).take t := by
    unfold ticksL
    rw [← List.map_take, List.take_range, Nat.min_eq_left (Nat.le_of_lt ht)]
  rw [h1, h2, List.flatMap_append, List.append_assoc, e2, List.take_append_drop]
  simp [e]
end Go.Proofs.YtofcjkfaccdnjaaDoor.Frm
