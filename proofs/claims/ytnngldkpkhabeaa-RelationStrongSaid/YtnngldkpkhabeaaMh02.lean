/- Ids that can't be reached, ids from which nothing leads, pairs that lead back (package relation's Stranded, Final, Both). Condition: at most 20 pairs and 20 ids. Pairs that lead back, too (package relation's Both); the document's rising ids (countwheelref15's Rising). Condition: at most 20 pairs and 20 ids. Ids as the document lets them rise, and its walks of so many pairs (countwheelref15's Rising, Steps). Condition: at most 20 pairs and 20 ids. -/
import Derived.Test.YtnngldkpkhabeaaMh01
import Derived.DeepKeys5
namespace Go.Proofs.Ytnngldkpkhabeaa.Rel

open Go.RowKit Go.PlainAid Go.Proofs.Ytnngldkpkhabeaa.Args Go.Proofs.Ytnngldkpkhabeaa.Mpv Go.Proofs.Ytnngldkpkhabeaa.Win

open Go.Proofs.Ytnngldkpkhabeaa.Pai (P2 PairsAt pairC Wide Conn Rch tgt preach_any RePost OwnP psort_any own_keepP RowP SoPost Ord delete_S delete_F delete_B box_kept own_at PuPost Prs eqB2)

set_option linter.unusedVariables false

set_option linter.unusedSimpArgs false

theorem row_pair : (24 : TypeId) < Try.prog.types.size := of_decide_eq_true (by kernel_rfl)
theorem cells_pair : Try.prog.cellsOf 24 = 2 := by kernel_rfl
theorem cells_int : Try.prog.cellsOf 3 = 1 := by kernel_rfl
set_option maxRecDepth 8000 in
theorem pair_keyed : Maps.Keyed Try.prog 24 :=
  Maps.Keyed.of_law (deep_law_laid (P := Try.prog) (by kernel_rfl) (m := 3) (by omega) row_pair (by kernel_rfl) (by kernel_rfl))
set_option maxRecDepth 8000 in
theorem lits_int {d : Nat} {n : Int} (h : I64 n) : Try.prog.keyLits (d + 1) 3 [.int .i64 n] = some [.int .i64 n] := by
  simp [Program.keyLits, Try.underlying3, wf_i64 h]
set_option maxRecDepth 8000 in
theorem pair_key {a b : Int} (ha : I64 a) (hb : I64 b) : ∃ l, keyOf Try.prog 24 (.agg #[.int .i64 a, .int .i64 b]) = some l := by
  have hkt : Try.prog.keyType 24 = true := by kernel_rfl
  obtain ⟨m, hm⟩ : ∃ m, Try.prog.types.size = m + 1 := ⟨_, (Nat.succ_pred_eq_of_pos (Nat.lt_of_le_of_lt (Nat.zero_le _) row_pair)).symm⟩
  have hf : (Value.agg #[.int .i64 a, .int .i64 b]).formed Try.prog 24 = true := by
    simp [Value.formed, Try.underlying24, cells_pair]
  have hl : ∃ ls, Try.prog.keyLits (Try.prog.types.size + 1) 24 [.int .i64 a, .int .i64 b] = some ls := by
    rw [hm]
    simp [Program.keyLits, Try.underlying24, Try.underlying3, cells_pair, cells_int, wf_i64 ha, wf_i64 hb]
  obtain ⟨ls, hls⟩ := hl
  refine ⟨.string (keyBytes ls), ?_⟩
  have hc : (Value.agg #[.int .i64 a, .int .i64 b]).cells.toList = [.int .i64 a, .int .i64 b] := rfl
  unfold keyOf
  rw [hc, hls, hkt, hf]
  simp [Try.underlying24]
/-- What a pair reads as. -/
noncomputable def pkL (p : P2) : Lit := (keyOf Try.prog 24 (.agg #[.int .i64 p.f, .int .i64 p.t])).getD (.bool false)
def I2 (p : P2) : Prop := I64 p.f ∧ I64 p.t
set_option maxRecDepth 8000 in
theorem pk_key {p : P2} (h : I2 p) : keyOf Try.prog 24 (.agg #[.int .i64 p.f, .int .i64 p.t]) = some (pkL p) := by
  obtain ⟨l, hl⟩ := pair_key h.1 h.2
  unfold pkL
  rw [hl]; rfl
set_option maxRecDepth 8000 in
theorem pk_lit {p : P2} (h : I2 p) : WideAt.IsKeyLit (pkL p) := pair_keyed.key (pk_key h)
set_option maxRecDepth 8000 in
theorem pk_inj {p q : P2} (h : I2 p) (h2 : I2 q) (e : pkL p = pkL q) : p = q := by
  have h3 := pair_keyed.inj (pk_key h) ((pk_key h2).trans (by rw [e]))
  obtain ⟨a, b⟩ := p
  obtain ⟨c, d⟩ := q
  injection h3 with h4
  have h5 := congrArg Array.toList h4
  simp at h5
  rw [h5.1, h5.2]
/-- A map of c pairs in block b. -/
def MapP (w : World) (b c : Nat) (F : P2 → Option Value) : Prop :=
  ∃ D : DataW Value, w.ownsMap Try.prog 24 rdV b c D ∧ Maps.Tidy D ∧ Maps.size D = c ∧ ∀ v, I2 v → Maps.has D (pkL v) = (F v).isSome ∧ ∀ z, D.atKey (pkL v) (.held z) = .held ((F v).getD z)
theorem MapP.blk {w : World} {b c : Nat} {F : P2 → Option Value} (h : MapP w b c F) : b < w.heap.size := by
  obtain ⟨D, h, _⟩ := h
  exact h.lt
theorem MapP.kept {w w' : World} {b c : Nat} {F : P2 → Option Value} (h : MapP w b c F) (e : w'.heap[b]? = w.heap[b]?) : MapP w' b c F := by
  obtain ⟨D, ⟨es, clock, h1, h2⟩, h3⟩ := h
  exact ⟨D, ⟨es, clock, e.trans h1, h2⟩, h3⟩
theorem MapP.keep {w w' : World} {b c : Nat} {F : P2 → Option Value} (h : MapP w b c F) (e : Below w.heap.size w w') : MapP w' b c F := h.kept (e.block _ h.blk)
theorem mapp_made (w : World) : MapP (w.alloc (.map #[] 0)) w.heap.size 0 (fun _ => none) :=
  ⟨.map [], World.ownsMap_made _ _ _ _, Maps.tidy_empty, rfl, fun _ _ => ⟨rfl, fun _ => rfl⟩⟩
section

variable {w : World} {b c : Nat} {F : P2 → Option Value} {t e : TypeId} {z : Value}

set_option maxRecDepth 4000 in
theorem MapP.look (h : MapP w b c F) (ht : Try.prog.underlying t = some (.map 24 e)) (hz : (zeroValue e).run Try.prog w = .ok z w) (v : P2) (hv : I2 v) :
    (Instr.lookup t (.map (some b)) (.agg #[.int .i64 v.f, .int .i64 v.t]) false).run Try.prog w = .ok ((F v).getD z) w := by
  obtain ⟨D, h1, _, _, h3⟩ := h
  obtain ⟨x, ps, hrun, hx⟩ := h1.lookup (z := z) pair_keyed ht hz (zd := .held z) (zp := []) rfl (kl := pkL v) (pk_key hv)
  rw [(h3 v hv).2 z] at hx
  have hx2 : (DataW.held x : DataW Value) = .held ((F v).getD z) := by
    have := Option.some.inj hx
    simp only [Prod.mk.injEq] at this
    exact this.1
  injection hx2 with hx3
  rw [hrun, hx3]
set_option maxRecDepth 8000 in
theorem MapP.put (h : MapP w b c F) (ht : Try.prog.underlying t = some (.map 24 e)) (v : P2) (hv : I2 v) (x : Value) (hc : c ≤ 1099511627776) :
    ∃ w', (Instr.mapUpdate t (.map (some b)) (.agg #[.int .i64 v.f, .int .i64 v.t]) x).run Try.prog w = .ok () w' ∧ MapP w' b (if (F v).isSome then c else c + 1) (fun i => open Classical in if i = v then some x else F i) ∧ w.grownBy w' (some b) := by
  obtain ⟨D, h1, h2, h4, h3⟩ := h
  obtain ⟨w', hrun, ho, hg⟩ := h1.update pair_keyed ht (by unfold maxLen; omega) (kl := pkL v) (pk_key hv) (val := x) (d := .held x) (ps := []) rfl
  have hsz : Maps.size (D.put (pkL v) (.held x)) = if (F v).isSome then c else c + 1 := by rw [Maps.size_put h2, (h3 v hv).1, h4]
  refine ⟨w', hrun, ⟨_, own_size ho hsz, h2.put (pk_lit hv) _, hsz, fun i hi => ?_⟩, hg⟩
  by_cases hiv : i = v
  · subst hiv
    refine ⟨?_, fun y => ?_⟩
    · rw [Maps.has_put_same h2.isMap (pk_lit hv)]; simp
    · rw [Maps.atKey_put_same h2.isMap (pk_lit hv)]; simp
  · have hne : pkL i ≠ pkL v := fun e => hiv (pk_inj hi hv e)
    refine ⟨?_, fun y => ?_⟩
    · rw [Maps.has_put_other hne]; simp [hiv, (h3 i hi).1]
    · rw [Maps.atKey_put_other hne]; simp [hiv, (h3 i hi).2 y]
end

theorem search2_any (B : Nat) (V : Value) (zs : List Int) (v : Int) (W : World) (h : W.ownsRow B 3 1 V zs.length (zs.map (Value.int .i64))) (hr : zs.Pairwise (· ≤ ·)) (hl : zs.length ≤ 1099511627776) :
    Calls Try.prog 63 #[V, .int .i64 v] W fun e w' => ∃ i : Int, e = .returned (.tuple #[.int .i64 i, .bool (memB zs v)]) ∧ ∃ n, w' = W.drewN n := by
  have hm : zs.contains v = memB zs v := by
    unfold memB
    rw [List.contains_eq_mem]
  rcases h.2 with ⟨rfl, hz⟩ | ⟨g, cap, cur, rfl, hb, hg, r1, r2, r3, r4⟩
  · refine (Try.slices_BinarySearch_int_empty none 0 v W).mono ?_
    rintro e w' ⟨rfl, rfl⟩
    have : zs = [] := List.eq_nil_of_length_eq_zero hz
    rw [this] at hm ⊢
    refine ⟨0, ?_, 0, rfl⟩
    rw [← hm]; rfl
  · have hc : ∀ j, j < zs.length → W.cell? ⟨g, 0 + j, none⟩ = some (.int .i64 (zs.getD j 0)) := fun j hj => by
      rw [Nat.zero_add, h.cellAt j (by omega)]
      simp [List.getD, List.getElem?_eq_getElem hj]
    refine (Try.slices_BinarySearch_int g 0 zs.length cap zs v W (Nat.le_refl _) (by omega) hc (by rw [List.take_length]; exact hr)).mono ?_
    rintro e w' ⟨rfl, q, rfl⟩
    rw [List.take_length, hm]
    exact ⟨_, rfl, q, rfl⟩
theorem rin2_any (B : Nat) (V : Value) (zs : List Int) (v : Int) (w : World) (h : w.ownsRow B 3 1 V zs.length (zs.map (Value.int .i64))) (hr : zs.Pairwise (· ≤ ·)) (hl : zs.length ≤ 1099511627776) :
    Calls Try.prog 43 #[V, .int .i64 v] w fun e w' => e = .returned (.bool (memB zs v)) ∧ ∃ n, w' = w.drewN n := by
  have HS := Lib.hid (search2_any B V zs v w h hr hl)
  obtain ⟨VA, VC, hV⟩ := Cel.own_slice h
  subst hV
  obtain ⟨b, hb⟩ : ∃ b, memB zs v = b := ⟨_, rfl⟩
  rw [hb] at HS ⊢
  obtain ⟨n, hn⟩ : ∃ n, zs.length = n := ⟨_, rfl⟩
  rw [hn] at HS ⊢
  clear h hr hl hb hn
  go_enter Try.func43, Try.ntmps43
  go_wp2_with fail
  refine HS.out.mono ?_
  rintro e w2 ⟨i, rfl, n, rfl⟩
  go_wp2
  go_ret
  exact ⟨rfl, n, rfl⟩
/-- An id that stays stranded. -/
def strQ (first : Int) (R : List Int) (x : Int) : Bool := !((x == first) || memB R x)
theorem str1_any (x first : Int) (b1 b2 B : Nat) (V : Value) (R : List Int) (W : World) (c1 : W.cell? ⟨b1, 0, none⟩ = some (.int .i64 first)) (c2 : W.cell? ⟨b2, 0, none⟩ = some V) (h : W.ownsRow B 3 1 V R.length (R.map (Value.int .i64))) (hr : R.Pairwise (· ≤ ·)) (hl : R.length ≤ 1099511627776) :
    Calls Try.prog 42 #[.int .i64 x, .pointer (some ⟨b1, 0, none⟩), .pointer (some ⟨b2, 0, none⟩)] W fun e w' => e = .returned (.bool (!strQ first R x)) ∧ Below W.heap.size W w' := by
  have HI := Lib.hid (rin2_any B V R x W h hr hl)
  obtain ⟨VA, VC, hV⟩ := Cel.own_slice h
  subst hV
  unfold strQ
  rw [Bool.not_not]
  obtain ⟨b, hb⟩ : ∃ b, memB R x = b := ⟨_, rfl⟩
  rw [hb] at HI ⊢
  obtain ⟨n, hn⟩ : ∃ n, R.length = n := ⟨_, rfl⟩
  rw [hn] at HI c2
  clear h hr hl hb hn
  cases hx : (x == first) with
  | true =>
    go_enter Try.func42, Try.ntmps42
    go_wp2
    go_ret
    exact ⟨rfl, Below.refl _ _⟩
  | false =>
    go_enter Try.func42, Try.ntmps42
    go_wp2_with fail
    refine HI.out.mono ?_
    rintro e w2 ⟨rfl, m, rfl⟩
    go_wp2
    go_ret
    exact ⟨rfl, ⟨rfl, rfl, rfl, Nat.le_refl _, fun _ _ => rfl⟩⟩
def IPost (F : List Int) (w : World) (e : Ending) (w' : World) : Prop := ∃ V, e = .returned V ∧ w'.ownsRow w.heap.size 3 1 V F.length (F.map (Value.int .i64)) ∧ Below w.heap.size w w'
set_option maxRecDepth 4000 in
set_option maxHeartbeats 1600000 in
theorem stranded_any (A : Option Addr) (n cap : Nat) (L : List P2) (I : Option Addr) (li ci : Nat) (ids : List Int) (v0 : Int) (w : World) (hx : PairsAt w A L) (hnil : A = none → cap = 0) (hlc : n ≤ cap) (hn : L.length = n) (hl : n ≤ 20) (hw : ∀ x ∈ L, Wide x) (hI : IntsBelow w.heap.size w (.slice I li ci) ids) (hids : ids.length ≤ 20) :
    Calls Try.prog 24 #[.slice A n cap, .slice I li ci, .int .i64 v0] w fun e w' => ∃ R, Rch L v0 R ∧ IPost ((risZ ids).filter (strQ v0 R)) w e w' := by
  have hmf : ∀ (fn : Fn) (first cap : Array Value) (w : World), (Instr.makeFunc fn first cap).run Try.prog w = .ok (.func fn first cap) w := fun _ _ _ _ => rfl
  have hb0 : Below w.heap.size w (w.alloc (.cells #[.int .i64 v0] 3)) := (Below.refl _ _).alloc (Nat.le_refl _) _
  have HX0 := Lib.hid (heap_alloc_new w (.cells #[.int .i64 v0] 3))
  have HRE := Lib.hid (preach_any A n cap L v0 (w.alloc (.cells #[.int .i64 v0] 3)) (hx.kept hb0) hnil hlc hn (by omega) hw)
  have HB0 := Lib.hid hb0
  have HI := Lib.hid hI
  have HIL : Hid (ids.length ≤ 20) := hids
  have HLL : Hid (L.length ≤ 20) := by show _ ≤ _; omega
  unfold IPost
  clear hx hnil hlc hn hl hw hI hids hb0
  go_enter Try.func24, Try.ntmps24
  go_wp2_with fail
  refine HRE.out.mono ?_
  rintro e w1 ⟨V, R, rfl, hrc, ho, hb1⟩
  obtain ⟨VA, VC, rfl⟩ := Cel.own_slice ho
  have HRC := Lib.hid hrc
  have HB1 := Lib.hid (HB0.out.trans (hb1.mono HB0.out.size))
  have HX1 := Lib.hid (box_kept HX0.out hb1)
  have HO1 := Lib.hid ho
  have HRL : Hid (R.length ≤ 20) := Nat.le_trans hrc.len HLL.out
  obtain ⟨nr, hnr⟩ : ∃ nr, R.length = nr := ⟨_, rfl⟩
  have HNR := Lib.hid hnr
  rw [hnr]
  have hba : Below w1.heap.size w1 (w1.alloc (.cells #[.slice VA nr VC] 29)) := (Below.refl _ _).alloc (Nat.le_refl _) _
  have hx2 := heap_alloc_new w1 (.cells #[.slice VA nr VC] 29)
  obtain ⟨W2, hW2⟩ : ∃ W2, w1.alloc (.cells #[.slice VA nr VC] 29) = W2 := ⟨_, rfl⟩
  obtain ⟨b2, hb2⟩ : ∃ b2, w1.heap.size = b2 := ⟨_, rfl⟩
  have HB2L : Hid (b2 < W2.heap.size) := by show _ < _; rw [← hW2, ← hb2]; simp
  rw [hW2] at hba hx2
  rw [hb2] at hx2
  have HW2 := Lib.hid hW2
  have HBB2 := Lib.hid hb2
  have HX2 := Lib.hid hx2
  have HX12 := Lib.hid (box_kept HX1.out hba)
  have HO2 := Lib.hid (own_keepP HO1.out hba)
  have HB2 := Lib.hid (HB1.out.trans (hba.mono HB1.out.size))
  have HRI := Lib.hid (rising_any I li ci ids W2 ((HI.out.below HB2.out).mono HB2.out.size) (by have := HIL.out; omega))
  clear hrc ho hb1 hba hW2 hb2 hx2 hnr HRE HX0 HX1 HO1
  go_upto_region 2 with fail
  rw [HW2.out, HBB2.out]
  go_wp2_with fail
  refine HRI.out.mono ?_
  rintro e w3 ⟨V3, rfl, ho3, hb3⟩
  obtain ⟨A3, C3, rfl⟩ := Cel.own_slice ho3.1
  have HO3 := Lib.hid ho3.1
  have HB3 := Lib.hid (HB2.out.trans (hb3.mono HB2.out.size))
  have HCL : Hid (∀ (x : Int) (W : World), x ∈ risZ ids → Below W2.heap.size w3 W → Calls Try.prog 42 #[.int .i64 x, .pointer (some ⟨w.heap.size, 0, none⟩), .pointer (some ⟨b2, 0, none⟩)] W fun e w' => e = .returned (.bool (!strQ v0 R x)) ∧ Below W.heap.size W w') := fun x W _ b => by
    have hbw : Below W2.heap.size W2 W := ⟨b.os.trans hb3.os, b.tape.trans hb3.tape, b.output.trans hb3.output, Nat.le_trans hb3.size b.size, fun k hk => (b.block k hk).trans (hb3.block k hk)⟩
    have e1 := box_kept HX12.out hbw
    have e2 := box_kept HX2.out hbw
    have ho := own_keepP HO2.out hbw
    have hV : Value.slice VA nr VC = .slice VA R.length VC := by rw [HNR.out]
    exact str1_any x v0 _ b2 _ (.slice VA R.length VC) R W ((cell_of_row _ _ _ _ _ _ e1).trans rfl) (by rw [← hV]; exact (cell_of_row _ _ _ _ _ _ e2).trans rfl) ho (HRC.out.rise.imp fun h => Int.le_of_lt h) (by have := HRL.out; omega)
  have HDE := Lib.hid (delete_S (strQ v0 R) w.heap.size b2 W2.heap.size A3 C3 (risZ ids) w3 ho3.1 hb3.size (by have := risZ_len ids; have := HIL.out; omega) HCL.out)
  obtain ⟨m3, hm3⟩ : ∃ m3, (risZ ids).length = m3 := ⟨_, rfl⟩
  rw [hm3] at HDE
  rw [hm3]
  have HBS := Lib.hid hb3.size
  have HB2S := Lib.hid HB2.out.size
  clear ho3 hb3 hm3 HRI HCL
  go_wp2_with fail
  refine HDE.out.mono ?_
  rintro e w4 ⟨V4, rfl, ho4, hb4⟩
  have HO4 := Lib.hid (Go.Proofs.Ytnngldkpkhabeaa.Act.row_base ho4 HB2S.out)
  have HB4 : Hid (Below w.heap.size w w4) := HB3.out.trans (hb4.mono HB2S.out)
  clear ho4 hb4 HDE
  go_wp2
  go_ret
  exact ⟨R, HRC.out, _, rfl, HO4.out, HB4.out⟩
/-- An id from which nothing leads. -/
def finQ (L : List P2) (x : Int) : Bool := decide ((tg L x).length = 0)
theorem fin1_any (x : Int) (b1 : Nat) (w0 : World) (L : List P2) (c : Nat) (F : Int → Option Value) (W : World) (hI : Mpv.I64 x) (c1 : W.cell? ⟨b1, 0, none⟩ = some (.map (some w0.heap.size))) (h : LK w0 L c F W) :
    Calls Try.prog 44 #[.int .i64 x, .pointer (some ⟨b1, 0, none⟩)] W fun e w' => e = .returned (.bool (!finQ L x)) ∧ Below W.heap.size W w' := by
  obtain ⟨A, n, cp, hv, _, hn⟩ := h.at_ x
  have hlook := h.mp.look Try.underlying49 (zero_ints W) x hI
  rw [hv] at hlook
  have HLK := Lib.hid hlook
  have e : (!finQ L x) = decide ((0 : Int) < (n : Int)) := by
    unfold finQ
    rw [← hn]
    cases n with
    | zero => rfl
    | succ n => simp
  rw [e]
  clear h hv hn hlook e
  go_enter Try.func44, Try.ntmps44
  go_wp2_with (first | (at_lookup; refine wpList_look _ rfl _ _ 49 false rfl _ _ _ rfl rfl HLK.out ?_) | fail)
  go_ret
  exact ⟨by first | rfl | simp, Below.refl _ _⟩
set_option maxRecDepth 4000 in
set_option maxHeartbeats 1600000 in
theorem final_any (A : Option Addr) (n cap : Nat) (L : List P2) (I : Option Addr) (li ci : Nat) (ids : List Int) (w : World) (hx : PairsAt w A L) (hn : L.length = n) (hl : n ≤ 20) (hw : ∀ x ∈ L, Wide x) (hI : IntsBelow w.heap.size w (.slice I li ci) ids) (hids : ids.length ≤ 20) (hi6 : ∀ x ∈ ids, Mpv.I64 x) :
    Calls Try.prog 25 #[.slice A n cap, .slice I li ci] w (IPost ((risZ ids).filter (finQ L)) w) := by
  have hmf : ∀ (fn : Fn) (first cap : Array Value) (w : World), (Instr.makeFunc fn first cap).run Try.prog w = .ok (.func fn first cap) w := fun _ _ _ _ => rfl
  have HLI := Lib.hid (links_any A cap n L w hx hw hn (by omega))
  have HI := Lib.hid hI
  have HIL : Hid (ids.length ≤ 20) := hids
  have HI6 : Hid (∀ x ∈ risZ ids, Mpv.I64 x) := fun x hx => hi6 x ((risZ_mem ids x).1 hx)
  unfold IPost
  clear hx hn hl hw hI hids hi6
  go_enter Try.func25, Try.ntmps25
  go_wp2_with fail
  refine HLI.out.mono ?_
  rintro e w1 ⟨c, F, rfl, hlk⟩
  have HB1 := Lib.hid hlk.below
  have hba : Below w1.heap.size w1 (w1.alloc (.cells #[.map (some w.heap.size)] 49)) := (Below.refl _ _).alloc (Nat.le_refl _) _
  have hx2 := heap_alloc_new w1 (.cells #[.map (some w.heap.size)] 49)
  obtain ⟨W2, hW2⟩ : ∃ W2, w1.alloc (.cells #[.map (some w.heap.size)] 49) = W2 := ⟨_, rfl⟩
  obtain ⟨b2, hb2⟩ : ∃ b2, w1.heap.size = b2 := ⟨_, rfl⟩
  rw [hW2] at hba hx2
  rw [hb2] at hx2
  have HW2 := Lib.hid hW2
  have HBB2 := Lib.hid hb2
  have HX2 := Lib.hid hx2
  have HLK2 := Lib.hid (hlk.keep hba)
  have HB2 := Lib.hid (HB1.out.trans (hba.mono HB1.out.size))
  have HRI := Lib.hid (rising_any I li ci ids W2 ((HI.out.below HB2.out).mono HB2.out.size) (by have := HIL.out; omega))
  clear hlk hba hW2 hb2 hx2 HLI
  go_upto_region 2 with fail
  rw [HW2.out, HBB2.out]
  go_wp2_with fail
  refine HRI.out.mono ?_
  rintro e w3 ⟨V3, rfl, ho3, hb3⟩
  obtain ⟨A3, C3, rfl⟩ := Cel.own_slice ho3.1
  have HB3 := Lib.hid (HB2.out.trans (hb3.mono HB2.out.size))
  have HCL : Hid (∀ (x : Int) (W : World), x ∈ risZ ids → Below W2.heap.size w3 W → Calls Try.prog 44 #[.int .i64 x, .pointer (some ⟨b2, 0, none⟩)] W fun e w' => e = .returned (.bool (!finQ L x)) ∧ Below W.heap.size W w') := fun x W hxm b => by
    have hbw : Below W2.heap.size W2 W := ⟨b.os.trans hb3.os, b.tape.trans hb3.tape, b.output.trans hb3.output, Nat.le_trans hb3.size b.size, fun k hk => (b.block k hk).trans (hb3.block k hk)⟩
    have e2 := box_kept HX2.out hbw
    exact fin1_any x b2 w L c F W (HI6.out x hxm) ((cell_of_row _ _ _ _ _ _ e2).trans rfl) (HLK2.out.keep hbw)
  have HDE := Lib.hid (delete_F (finQ L) b2 W2.heap.size A3 C3 (risZ ids) w3 ho3.1 hb3.size (by have := risZ_len ids; have := HIL.out; omega) HCL.out)
  obtain ⟨m3, hm3⟩ : ∃ m3, (risZ ids).length = m3 := ⟨_, rfl⟩
  rw [hm3] at HDE
  rw [hm3]
  have HB2S := Lib.hid HB2.out.size
  clear ho3 hb3 hm3 HRI HCL
  go_wp2_with fail
  refine HDE.out.mono ?_
  rintro e w4 ⟨V4, rfl, ho4, hb4⟩
  have HO4 := Lib.hid (Go.Proofs.Ytnngldkpkhabeaa.Act.row_base ho4 HB2S.out)
  have HB4 : Hid (Below w.heap.size w w4) := HB3.out.trans (hb4.mono HB2S.out)
  clear ho4 hb4 HDE
  go_wp2
  go_ret
  exact ⟨_, rfl, HO4.out, HB4.out⟩
/-- What stands at a pair. -/
noncomputable def boolsP (l : List P2) : P2 → Option Value := fun v => open Classical in if v ∈ l then some (.bool true) else none
theorem boolsP_snoc (l : List P2) (x : P2) : (fun i => open Classical in if i = x then some (Value.bool true) else boolsP l i) = boolsP (l ++ [x]) := by
  funext i
  unfold boolsP
  by_cases h : i = x
  · subst h
    rw [if_pos rfl, if_pos (by simp)]
  · rw [if_neg h]
    by_cases h2 : i ∈ l
    · rw [if_pos h2, if_pos (by simp [h2])]
    · rw [if_neg h2, if_neg (by simp [h, h2])]
/-- A pair that leads back, too. -/
def bothQ (L : List P2) (x : P2) : Bool := Pai.hasP L ⟨x.t, x.f⟩
theorem both1_any (x : P2) (b1 bm c : Nat) (L : List P2) (W : World) (hI : I2 x) (c1 : W.cell? ⟨b1, 0, none⟩ = some (.map (some bm))) (h : MapP W bm c (boolsP L)) :
    Calls Try.prog 46 #[.agg #[.int .i64 x.f, .int .i64 x.t], .pointer (some ⟨b1, 0, none⟩)] W fun e w' => e = .returned (.bool (!bothQ L x)) ∧ Below W.heap.size W w' := by
  have hba : Below W.heap.size W (W.alloc (.cells #[.int .i64 x.f, .int .i64 x.t] 24)) := (Below.refl _ _).alloc (Nat.le_refl _) _
  have hzb : (zeroValue 4).run Try.prog (W.alloc (.cells #[.int .i64 x.f, .int .i64 x.t] 24)) = .ok (.bool false) (W.alloc (.cells #[.int .i64 x.f, .int .i64 x.t] 24)) := by go_simp
  have hlook := (h.keep hba).look Try.underlying54 hzb ⟨x.t, x.f⟩ ⟨hI.2, hI.1⟩
  have e : (boolsP L ⟨x.t, x.f⟩).getD (.bool false) = .bool (bothQ L x) := by
    unfold boolsP bothQ
    by_cases hm : (⟨x.t, x.f⟩ : P2) ∈ L
    · rw [if_pos hm, (Pai.hasP_iff L _).2 hm]; rfl
    · rw [if_neg hm]
      have : Pai.hasP L ⟨x.t, x.f⟩ = false := by
        cases hh : Pai.hasP L ⟨x.t, x.f⟩ with
        | false => rfl
        | true => exact absurd ((Pai.hasP_iff L _).1 hh) hm
      rw [this]; rfl
  rw [e] at hlook
  have c1' := (hba.cell (p := ⟨b1, 0, none⟩) (Go.block_lt_of_cell c1)).trans c1
  have hrow := heap_alloc_new W (.cells #[.int .i64 x.f, .int .i64 x.t] 24)
  obtain ⟨W2, hW2⟩ : ∃ W2, W.alloc (.cells #[.int .i64 x.f, .int .i64 x.t] 24) = W2 := ⟨_, rfl⟩
  obtain ⟨b2, hb2⟩ : ∃ b2, W.heap.size = b2 := ⟨_, rfl⟩
  rw [hW2] at hlook c1' hrow hba
  rw [hb2] at hrow
  have HLK := Lib.hid hlook
  have HBA := Lib.hid hba
  have HW2 := Lib.hid hW2
  have HB2 := Lib.hid hb2
  obtain ⟨q, hq⟩ : ∃ q, bothQ L x = q := ⟨_, rfl⟩
  rw [hq] at HLK ⊢
  have y0 := cell_of_row _ _ 0 _ _ _ hrow
  have y1 := cell_of_row _ _ 1 _ _ _ hrow
  simp only [List.getElem?_toArray, List.getElem?_cons_zero, List.getElem?_cons_succ] at y0 y1
  clear h hlook hba hW2 hb2 hrow hq e hzb c1
  go_enter Try.func46, Try.ntmps46
  go_upto_region 1 with fail
  rw [HW2.out, HB2.out]
  go_wp2_with (first | (at_lookup; refine wpList_look _ rfl _ _ 54 false rfl _ _ _ rfl rfl HLK.out ?_) | fail)
  go_ret
  exact ⟨by first | rfl | simp, HBA.out⟩
end Go.Proofs.Ytnngldkpkhabeaa.Rel
namespace Go.Proofs.Ytnngldkpkhabeaa.Rel

open Go.RowKit Go.PlainAid Go.Proofs.Ytnngldkpkhabeaa.Args Go.Proofs.Ytnngldkpkhabeaa.Mpv Go.Proofs.Ytnngldkpkhabeaa.Win

open Go.Proofs.Ytnngldkpkhabeaa.Pai (P2 PairsAt pairC Wide OwnP psort_any own_keepP SoPost Ord delete_B box_kept own_at PuPost Prs hasP below_drewN)

set_option linter.unusedVariables false

set_option linter.unusedSimpArgs false

def BoRel (L : List P2) (bx bm : Nat) (w : World) (i : Value) (W : World) : Prop := ∃ k c : Nat, k ≤ L.length ∧ c ≤ k ∧ i = .int .i64 (k : Int) ∧ MapP W bm c (boolsP (L.take k)) ∧ W.heap[bx]? = some (.cells #[.map (some bm)] 54 (0, 0)) ∧ Below w.heap.size w W
def BoPost (L : List P2) (w : World) (e : Ending) (w' : World) : Prop := ∃ C, Ord L C ∧ PuPost (C.filter (bothQ L)) w e w'
set_option maxRecDepth 8000 in
set_option maxHeartbeats 3200000 in
theorem both_any (A : Option Addr) (n cap : Nat) (L : List P2) (w : World) (hx : PairsAt w A L) (hnil : A = none → cap = 0) (hlc : n ≤ cap) (hn : L.length = n) (hl : n ≤ 20) (hw : ∀ x ∈ L, Wide x) :
    Calls Try.prog 26 #[.slice A n cap] w (BoPost L w) := by
  have hmf : ∀ (fn : Fn) (first cap : Array Value) (w : World), (Instr.makeFunc fn first cap).run Try.prog w = .ok (.func fn first cap) w := fun _ _ _ _ => rfl
  have hmm := @run_makeMap Try.prog
  have HSO := Lib.hid (fun W (b : Below w.heap.size w W) => psort_any A cap n L W (hx.kept b) hnil hlc hn (by omega))
  have HX := Lib.hid hx
  have HN := Lib.hid hn
  have HL : Hid (n ≤ 20) := hl
  have HWD := Lib.hid hw
  have hba : Below w.heap.size w ((w.alloc (.map #[] 0)).alloc (.cells #[.map (some w.heap.size)] 54)) := ((Below.refl _ _).alloc (Nat.le_refl _) _).alloc (by simp) _
  have hm0 : MapP (w.alloc (.map #[] 0)) w.heap.size 0 (boolsP []) := by
    have h := mapp_made w
    have e : (fun _ : P2 => (none : Option Value)) = boolsP [] := by funext v; simp [boolsP]
    rw [e] at h
    exact h
  have hm1 := hm0.keep ((Below.refl (w.alloc (.map #[] 0)).heap.size (w.alloc (.map #[] 0))).alloc (Nat.le_refl _) (.cells #[.map (some w.heap.size)] 54))
  have hbx := heap_alloc_new (w.alloc (.map #[] 0)) (.cells #[.map (some w.heap.size)] 54)
  rw [World.size_alloc] at hbx
  obtain ⟨W1, hW1⟩ : ∃ W1, (w.alloc (.map #[] 0)).alloc (.cells #[.map (some w.heap.size)] 54) = W1 := ⟨_, rfl⟩
  rw [hW1] at hba hm1 hbx
  have HW1 := Lib.hid hW1
  have HSZ : Hid (W1.heap.size = w.heap.size + 2) := by show _ = _; rw [← hW1]; simp
  have HST : Hid (BoRel L (w.heap.size + 1) w.heap.size w (.int .i64 0) W1) := ⟨0, 0, Nat.zero_le _, Nat.le_refl _, rfl, hm1, hbx, hba⟩
  unfold BoPost PuPost
  clear hx hnil hlc hn hl hw hba hm0 hm1 hbx hW1
  go_enter Try.func26, Try.ntmps26
  go_upto_region 2 with fail
  rw [HW1.out]
  go_wp2_with fail
  go_loopw [9] (fun i W => BoRel L (w.heap.size + 1) w.heap.size w i W) (fun i _ => n - (intOf i).toNat)
  case atStart => exact HST.out
  case round =>
    rename World => W
    clear HST
    obtain ⟨k, c, hk, hc, rfl, hm, hbx, hbw⟩ := hrel
    have HM := Lib.hid hm
    have HBX := Lib.hid hbx
    have HBW := Lib.hid hbw
    clear hm hbx hbw
    have hnn := HN.out
    have hll := HL.out
    by_cases hlt : k < n
    · obtain ⟨x, hx⟩ : ∃ x, L[k]? = some x := ⟨_, List.getElem?_eq_getElem (by omega)⟩
      obtain ⟨y, rfl, c0, c1⟩ := (HX.out.kept HBW.out) k x hx
      have hxw := HWD.out x (List.mem_of_getElem? hx)
      have hts : L.take (k + 1) = L.take k ++ [x] := by rw [List.take_add_one, hx]; rfl
      have hki : (0 : Int) ≤ k := by omega
      have hkb : (k : Int) < n := by omega
      have hk1 : IntKind.i64.wrap ((k : Int) + 1) = (k : Int) + 1 := IntWalk.i64_in _ (by omega)
      have hba : Below W.heap.size W (W.alloc (.cells #[.int .i64 x.f, .int .i64 x.t] 24)) := (Below.refl _ _).alloc (Nat.le_refl _) _
      have hrow := heap_alloc_new W (.cells #[.int .i64 x.f, .int .i64 x.t] 24)
      have hm2 := HM.out.keep hba
      have hbx2 := box_kept HBX.out hba
      have hbw2 := HBW.out.trans (hba.mono HBW.out.size)
      obtain ⟨W4, hW4⟩ : ∃ W4, W.alloc (.cells #[.int .i64 x.f, .int .i64 x.t] 24) = W4 := ⟨_, rfl⟩
      obtain ⟨bq, hbq⟩ : ∃ bq, W.heap.size = bq := ⟨_, rfl⟩
      rw [hW4] at hm2 hbx2 hbw2 hrow hba
      rw [hbq] at hrow
      obtain ⟨w5, hr5, hm5, hg5⟩ := hm2.put Try.underlying54 x ⟨hxw.1, hxw.2⟩ (.bool true) (by omega)
      rw [boolsP_snoc, ← hts] at hm5
      have HW4 := Lib.hid hW4
      have HBQ := Lib.hid hbq
      have HR5 := Lib.hid hr5
      have HNX : Hid (BoRel L (w.heap.size + 1) w.heap.size w (.int .i64 ((k : Int) + 1)) w5) := ⟨k + 1, _, by omega, by split <;> omega, by go_num, hm5, (hg5.block _ (lt_of_block hbx2) (fun e => by have := Option.some.inj e; omega)).trans hbx2, hbw2.grown hg5 hbw2.size (fun j hj => by cases hj; exact Nat.le_refl _)⟩
      have y0 := cell_of_row _ _ 0 _ _ _ hrow
      have y1 := cell_of_row _ _ 1 _ _ _ hrow
      have y2 := cell_of_row _ _ 0 _ _ _ hbx2
      simp only [List.getElem?_toArray, List.getElem?_cons_zero, List.getElem?_cons_succ] at y0 y1 y2
      clear hx hxw hts hba hm2 hbx2 hbw2 hW4 hbq hrow hr5 hm5 hg5 hnn hll
      go_upto_region 5 with fail
      rw [HW4.out, HBQ.out]
      go_wp2_with (first | (at_mapUpdate; refine wpList_upd _ rfl _ _ _ 54 rfl _ _ _ rfl rfl rfl w5 HR5.out ?_) | fail)
      go_roundw
      case rel => exact HNX.out
      case measure => simp [intOf]; omega
    · obtain rfl : k = n := by omega
      have htk : L.take k = L := List.take_of_length_le (by omega)
      rw [htk] at HM
      have HCC : Hid (c ≤ 20) := by show _ ≤ _; omega
      clear hnn hll htk
      go_wp2_with fail
      refine (HSO.out W HBW.out).mono ?_
      rintro e w2 ⟨C, A2, n2, c2, ho, rfl, hown, hb2⟩
      have HO := Lib.hid ho
      have HOWN := Lib.hid hown
      have HB2 := Lib.hid (HBW.out.trans (hb2.mono HBW.out.size))
      have HM2 := Lib.hid (HM.out.keep hb2)
      have HBX2 := Lib.hid (box_kept HBX.out hb2)
      have HCL : Hid (∀ (x : P2) (W' : World), x ∈ C → Below W.heap.size w2 W' → Calls Try.prog 46 #[.agg #[.int .i64 x.f, .int .i64 x.t], .pointer (some ⟨w.heap.size + 1, 0, none⟩)] W' fun e w' => e = .returned (.bool (!bothQ L x)) ∧ Below W'.heap.size W' w') := fun x W' hxm b => by
        have hbw : Below W.heap.size W W' := ⟨b.os.trans hb2.os, b.tape.trans hb2.tape, b.output.trans hb2.output, Nat.le_trans hb2.size b.size, fun k hk => (b.block k hk).trans (hb2.block k hk)⟩
        have e2 := box_kept HBX.out hbw
        have hxw := HWD.out x ((ho.mem x).1 hxm)
        exact both1_any x _ w.heap.size c L W' ⟨hxw.1, hxw.2⟩ ((cell_of_row _ _ _ _ _ _ e2).trans rfl) (HM.out.keep hbw)
      have hc2 : C.length = n2 := hown.1
      have hown' := hown
      rw [← hc2] at hown'
      have HDE := Lib.hid (delete_B (bothQ L) (w.heap.size + 1) W.heap.size A2 c2 C w2 hown' hb2.size (by have := ho.len; have := HN.out; have := HL.out; omega) HCL.out)
      rw [hc2] at HDE
      have HBS := Lib.hid HBW.out.size
      clear ho hown hown' hb2 hc2 HCL HSO
      go_wp2_with fail
      refine HDE.out.mono ?_
      rintro e w4 ⟨A4, n4, c4, rfl, ho4, hb4⟩
      have HPR : Hid (Prs (C.filter (bothQ L)) (.slice A4 n4 c4) w4) := ⟨A4, c4, by rw [ho4.1], ho4.pairs, ho4.nil_, by rw [ho4.1]; exact ho4.2.1⟩
      have HB4 : Hid (Below w.heap.size w w4) := HB2.out.trans (hb4.mono HBS.out)
      clear ho4 hb4 HDE
      go_wp2
      go_ret
      exact ⟨C, HO.out, _, rfl, HPR.out, HB4.out⟩
end Go.Proofs.Ytnngldkpkhabeaa.Rel
namespace Go.Proofs.Ytnngldkpkhabeaa.Rel

open Go.RowKit Go.PlainAid Go.Proofs.Ytnngldkpkhabeaa.Args Go.Proofs.Ytnngldkpkhabeaa.Win

open Go.Proofs.Ytnngldkpkhabeaa.Pai (P2 PairsAt Wide own_keepP own_some rise_int below_drewN Now Wlk Dist Min sub_len doc_dist box_kept)

set_option linter.unusedVariables false

set_option linter.unusedSimpArgs false

theorem own_below {B n : Nat} {V : Value} {xs : List Int} {W : World} (h : W.ownsRow B 3 1 V n (xs.map (Value.int .i64))) (hn : xs.length = n) : IntsBelow W.heap.size W V xs := by
  rcases h.2 with ⟨rfl, h0⟩ | ⟨g, cap, cur, rfl, hb, hg, _⟩
  · obtain rfl : xs = [] := List.eq_nil_of_length_eq_zero (by omega)
    exact .inl ⟨rfl, rfl⟩
  · refine .inr ⟨⟨g, 0, none⟩, cap, by rw [hn], fun _ => lt_of_block hg, fun j hj => ?_⟩
    have e : (Addr.mk g 0 none).add j = ⟨g, j, none⟩ := by cases j <;> simp [Addr.add]
    rw [e, h.cellAt j (by omega)]
    simp [List.getElem?_eq_getElem hj]
theorem contains2_any (B n : Nat) (V : Value) (xs : List Int) (v : Int) (W : World) (h : W.ownsRow B 3 1 V n (xs.map (Value.int .i64))) (hn : xs.length = n) (hl : n ≤ 1000000) :
    Calls Try.prog 39 #[V, .int .i64 v] W fun e w' => e = .returned (.bool (memB xs v)) ∧ w' = W := by
  have hm : xs.contains v = memB xs v := by
    unfold memB
    rw [List.contains_eq_mem]
  rcases h.2 with ⟨rfl, h0⟩ | ⟨g, cap, cur, rfl, hb, hg, _⟩
  · obtain rfl : xs = [] := List.eq_nil_of_length_eq_zero (by omega)
    exact Try.slices_Contains_int_empty none 0 v W
  · have := Try.slices_Contains_int g 0 n cap xs v W (by omega) (by omega) (fun j hj => by
      rw [Nat.zero_add, h.cellAt j (by omega)]
      simp [List.getD, List.getElem?_eq_getElem hj])
    rw [List.take_of_length_le (by omega), hm] at this
    exact this
def insB (x : Int) : Bool → List Int → List Int
  | true, C => C
  | false, [] => [x]
  | false, y :: C => if x < y then x :: y :: C else y :: insB x false C
theorem insB_true (x : Int) (C : List Int) : insB x true C = C := by cases C <;> rfl
theorem insB_mem (x v : Int) : ∀ C, v ∈ insB x false C ↔ v = x ∨ v ∈ C
  | [] => by simp [insB, insB_true]
  | y :: C => by
    unfold insB
    split
    · simp
    · rw [List.mem_cons, insB_mem x v C, List.mem_cons]
      constructor
      · rintro (h | h | h)
        · exact .inr (.inl h)
        · exact .inl h
        · exact .inr (.inr h)
      · rintro (h | h | h)
        · exact .inr (.inl h)
        · exact .inl h
        · exact .inr (.inr h)
theorem insB_rise (x : Int) : ∀ C, C.Pairwise (· < ·) → x ∉ C → (insB x false C).Pairwise (· < ·)
  | [], _, _ => by simp [insB, insB_true]
  | y :: C, h, hx => by
    have hy := List.pairwise_cons.1 h
    unfold insB
    split
    · rename_i hl
      refine List.pairwise_cons.2 ⟨fun z hz => ?_, h⟩
      rcases List.mem_cons.1 hz with rfl | hz
      · exact hl
      · exact Int.lt_trans hl (hy.1 z hz)
    · rename_i hl
      have hne : x ≠ y := fun e => hx (by simp [e])
      refine List.pairwise_cons.2 ⟨fun z hz => ?_, insB_rise x C hy.2 fun h => hx (by simp [h])⟩
      rcases (insB_mem x z C).1 hz with rfl | hz
      · omega
      · exact hy.1 z hz
theorem insB_len (x : Int) : ∀ (b : Bool) (C : List Int), (insB x b C).length ≤ C.length + 1
  | true, C => by simp [insB, insB_true]
  | false, [] => by simp [insB, insB_true]
  | false, y :: C => by
    unfold insB
    split
    · simp
    · have := insB_len x false C; simp; exact this
def risD (ids : List Int) : List Int := ids.foldl (fun o x => insB x (memB o x) o) []
theorem risD_snoc (ids : List Int) (x : Int) : risD (ids ++ [x]) = insB x (memB (risD ids) x) (risD ids) := by simp [risD]
theorem risD_ok (ids : List Int) : (risD ids).Pairwise (· < ·) ∧ (∀ v, v ∈ risD ids ↔ v ∈ ids) ∧ (risD ids).length ≤ ids.length := by
  refine Pai.snocP (P := fun ids => (risD ids).Pairwise (· < ·) ∧ (∀ v, v ∈ risD ids ↔ v ∈ ids) ∧ (risD ids).length ≤ ids.length) ⟨List.Pairwise.nil, fun v => by simp [risD], by simp [risD]⟩ (fun ids x h => ?_) ids
  rw [risD_snoc]
  by_cases hm : x ∈ risD ids
  · have e : memB (risD ids) x = true := decide_eq_true hm
    rw [e, insB_true]
    refine ⟨h.1, fun v => ?_, by rw [List.length_append]; have := h.2.2; omega⟩
    rw [h.2.1 v, List.mem_append, List.mem_singleton]
    constructor
    · exact .inl
    · rintro (h3 | rfl)
      · exact h3
      · exact (h.2.1 v).1 hm
  · have e : memB (risD ids) x = false := decide_eq_false hm
    rw [e]
    refine ⟨insB_rise x _ h.1 hm, fun v => ?_, ?_⟩
    · rw [insB_mem, h.2.1 v, List.mem_append, List.mem_singleton]
      exact or_comm
    · have h1 := insB_len x false (risD ids)
      have h2 := h.2.2
      rw [List.length_append, List.length_singleton]
      omega
theorem risD_eq (ids : List Int) : risD ids = risZ ids := rise_int _ _ (risD_ok ids).1 (compact_rises _ (sortZ_rises _)).1 fun v => ((risD_ok ids).2.1 v).trans (risZ_mem ids v).symm
def RoRel (ids : List Int) (w : World) (v i : Value) (W : World) : Prop := ∃ k : Nat, k ≤ ids.length ∧ i = .int .i64 (k : Int) ∧ W.ownsRow w.heap.size 3 1 v (risD (ids.take k)).length ((risD (ids.take k)).map (Value.int .i64)) ∧ Below w.heap.size w W
def RnRel (x : Int) (b0 : Bool) (C : List Int) (W0 : World) (v d i : Value) (W : World) : Prop :=
  ∃ (k : Nat) (b : Bool) (acc : List Int), k ≤ C.length ∧ i = .int .i64 (k : Int) ∧ d = .bool b ∧ acc ++ insB x b (C.drop k) = insB x b0 C ∧ W.ownsRow W0.heap.size 3 1 v acc.length (acc.map (Value.int .i64)) ∧ Below W0.heap.size W0 W
set_option maxRecDepth 8000 in
set_option maxHeartbeats 6400000 in
theorem rrising_any (I : Option Addr) (li ci : Nat) (ids : List Int) (w : World) (hI : IntsBelow w.heap.size w (.slice I li ci) ids) (hids : ids.length ≤ 20) (hli : li = ids.length) :
    Calls Try.prog 21 #[.slice I li ci] w (IPost (risZ ids) w) := by
  obtain ⟨i0, hi, hz0, hz1, hz2⟩ := info_parts infoInt2
  have hc : ∀ W, Below w.heap.size w W → ∀ j, j < li → ∃ y, I = some y ∧ W.cell? (y.add j) = some (.int .i64 (ids[j]?.getD 0)) := fun W b => by
    rcases hI.below b with ⟨e, rfl⟩ | ⟨y, cap, e, _, hc⟩
    · cases e; intro j hj; omega
    · cases e; exact fun j hj => ⟨y, rfl, hc j (by omega)⟩
  have HC := Lib.hid hc
  have HL : Hid (ids.length = li ∧ li ≤ 20) := ⟨hli.symm, by omega⟩
  have HE := Lib.hid (risD_eq ids)
  have hb0 : Below w.heap.size w (w.alloc (.cells #[] 3)) := (Below.refl _ _).alloc (Nat.le_refl _) _
  have HS0 : Hid (RoRel ids w (.slice (some ⟨w.heap.size, 0, none⟩) 0 0) (.int .i64 0) (w.alloc (.cells #[] 3))) := ⟨0, Nat.zero_le _, rfl, World.ownsRow_lit w #[] 0 (Nat.le_refl _) (Nat.zero_le _) rfl, hb0⟩
  unfold IPost
  clear hI hids hli hc hb0
  go_enter Try.func21, Try.ntmps21
  go_wp2_with fail
  go_loopw [3, 4] (fun v i W => RoRel ids w v i W) (fun _ i _ => li - (intOf i).toNat)
  case atStart => exact HS0.out
  case round =>
    obtain ⟨W0, hW0⟩ : ∃ X, wr = X := ⟨_, rfl⟩
    rw [hW0] at hrel
    rw [hW0]
    clear hW0 wr HS0
    obtain ⟨i, hiN, rfl, ho, hb⟩ := hrel
    obtain ⟨AC, cC, rfl⟩ := Cel.own_slice ho
    have HO := Lib.hid ho
    have HB := Lib.hid hb
    clear ho hb
    have hll := HL.out
    by_cases hlt : i < li
    · obtain ⟨y, rfl, c0⟩ := HC.out W0 HB.out i hlt
      obtain ⟨x, hx⟩ : ∃ x, ids[i]? = some x := ⟨_, List.getElem?_eq_getElem (by omega)⟩
      have hxx : ids[i]?.getD 0 = x := by rw [hx]; rfl
      rw [hxx] at c0
      have hii : (0 : Int) ≤ i := by omega
      have hib : (i : Int) < li := by omega
      have hi1 : IntKind.i64.wrap ((i : Int) + 1) = (i : Int) + 1 := IntWalk.i64_in _ (by omega)
      have HSN : Hid (risD (ids.take (i + 1)) = insB x (memB (risD (ids.take i)) x) (risD (ids.take i))) := by
        show _ = _
        rw [List.take_add_one, hx]
        exact risD_snoc _ _
      have HCL : Hid ((risD (ids.take i)).length ≤ 20) := by
        have h1 := (risD_ok (ids.take i)).2.2
        rw [List.length_take] at h1
        show _ ≤ _
        omega
      obtain ⟨C, hC⟩ : ∃ C, risD (ids.take i) = C := ⟨_, rfl⟩
      rw [hC] at HSN HCL HO
      rw [hC]
      have HIN := Lib.hid (in15_any W0.heap.size AC C.length cC C x W0 (own_below HO.out rfl) (by have := HCL.out; omega))
      obtain ⟨b0, hb0⟩ : ∃ b0, memB C x = b0 := ⟨_, rfl⟩
      rw [hb0] at HIN HSN
      have HEL := Lib.hid (insB_len x b0 C)
      obtain ⟨m, hm⟩ : ∃ m, C.length = m := ⟨_, rfl⟩
      have HM := Lib.hid hm
      rw [hm] at HIN
      rw [hm]
      have hb1 : Below W0.heap.size W0 (W0.alloc (.cells #[] 3)) := (Below.refl _ _).alloc (Nat.le_refl _) _
      have c0' := (hb1.cell (Go.block_lt_of_cell c0)).trans c0
      have HI1 : Hid (RnRel x b0 C W0 (.slice (some ⟨W0.heap.size, 0, none⟩) 0 0) (.bool b0) (.int .i64 0) (W0.alloc (.cells #[] 3))) := ⟨0, b0, [], Nat.zero_le _, rfl, rfl, rfl, World.ownsRow_lit W0 #[] 0 (Nat.le_refl _) (Nat.zero_le _) rfl, hb1⟩
      have HXC : Hid (∀ W, Below W0.heap.size W0 W → W.cell? (y.add i) = some (.int .i64 x)) := fun W b => by
        obtain ⟨y', e, h⟩ := HC.out W (HB.out.trans (b.mono HB.out.size)) i hlt
        obtain rfl := Option.some.inj e
        rw [hxx] at h
        exact h
      have HLT : Hid (i + 1 ≤ ids.length ∧ i < li) := ⟨by omega, hlt⟩
      obtain ⟨W1, hW1⟩ : ∃ W1, W0.alloc (.cells #[] 3) = W1 := ⟨_, rfl⟩
      obtain ⟨g1, hg1⟩ : ∃ g1, W0.heap.size = g1 := ⟨_, rfl⟩
      have HIN1 := Lib.hid (in15_any W1.heap.size AC m cC C x W1 (by
        have h := own_keepP HO.out hb1
        rw [hW1] at h
        have := own_below h rfl
        rw [hm] at this
        exact this) (by have := HCL.out; omega))
      rw [hb0] at HIN1
      rw [hW1] at c0' HI1
      rw [hg1] at HI1
      have HW1 := Lib.hid hW1
      have HG1 := Lib.hid hg1
      clear hx hxx hC hb0 hm hb1 hW1 hg1 HIN c0 hlt hiN
      go_upto_region 6 with fail
      rw [HW1.out, HG1.out]
      go_wp2_with fail
      refine HIN1.out.mono ?_
      rintro e w9 ⟨rfl, rfl⟩
      clear HIN1 c0'
      go_wp2_with fail
      go_loopw [5, 6, 7] (fun v d i W => RnRel x b0 C W0 v d i W) (fun _ _ i _ => m - (intOf i).toNat)
      case atStart => exact HI1.out
      case round =>
        obtain ⟨W, hW⟩ : ∃ X, wr = X := ⟨_, rfl⟩
        rw [hW] at hrel
        rw [hW]
        clear hW wr HI1
        obtain ⟨k, b, AC0, hkm, rfl, rfl, heq, ho, hb⟩ := hrel
        have HOW := Lib.hid ho
        have HBW := Lib.hid hb
        have HEQ := Lib.hid heq
        have HLEN0 : Hid (AC0.length ≤ 21) := by
          have h1 := congrArg List.length heq
          rw [List.length_append] at h1
          have h2 := HEL.out
          have h3 := HCL.out
          show _ ≤ _
          omega
        have HKM : Hid (k ≤ C.length) := hkm
        have y0 := HXC.out W hb
        clear ho hb heq hkm
        by_cases hlt : k < m
        · obtain ⟨z, hz⟩ : ∃ z, C[k]? = some z := ⟨_, List.getElem?_eq_getElem (by have := HM.out; omega)⟩
          have hOW0 := own_keepP HO.out HBW.out
          rw [HM.out] at hOW0
          obtain ⟨gC, cC', e, _, _, _⟩ := own_some hOW0 (by omega)
          simp only [Value.slice.injEq] at e
          obtain ⟨rfl, _, rfl⟩ := e
          have c1 : W.cell? ⟨gC, k, none⟩ = some (.int .i64 z) := (hOW0.cellAt k (by omega)).trans (by simp [hz])
          have hdr : C.drop k = z :: C.drop (k + 1) := by
            obtain ⟨h2, h3⟩ := List.getElem?_eq_some_iff.1 hz
            rw [← h3]; exact List.drop_eq_getElem_cons h2
          have HDR := Lib.hid hdr
          have hkk : (0 : Int) ≤ k := by omega
          have hkb : (k : Int) < m := by omega
          have hk1 : IntKind.i64.wrap ((k : Int) + 1) = (k : Int) + 1 := IntWalk.i64_in _ (by have := HCL.out; have := HM.out; omega)
          have HZC : Hid (∀ W', Below W0.heap.size W0 W' → W'.cell? ⟨gC, k, none⟩ = some (.int .i64 z)) := fun W' b => (World.ownsRow.cellAt (by have h := own_keepP HO.out b; rw [HM.out] at h; exact h) k (by omega)).trans (by simp [hz])
          clear hz hOW0 hdr
          cases b with
          | true =>
            have HNX : Hid (AC0 ++ [z] ++ insB x true (C.drop (k + 1)) = insB x b0 C) := by
              have h := HEQ.out
              rw [HDR.out] at h
              show _ = _
              rw [← h]
              simp [insB, insB_true]
            go_wp2
            go_quiet (fail)
            have hq := below_drewN (Below.refl W.heap.size W) nq
            have HOQ := Lib.hid (own_keepP HOW.out hq)
            have HBQ := Lib.hid (HBW.out.trans (hq.mono HBW.out.size))
            obtain ⟨WQ, hWQ⟩ : ∃ WQ, W.drewN nq = WQ := ⟨_, rfl⟩
            rw [hWQ] at HOQ HBQ
            rw [hWQ]
            clear hq hWQ y0 c1
            have y0 := HXC.out WQ HBQ.out
            have c1 := HZC.out WQ HBQ.out
            have hbap : Below WQ.heap.size WQ (WQ.alloc (.cells #[.int .i64 z] 3)) := (Below.refl _ _).alloc (Nat.le_refl _) _
            have HOAp := Lib.hid (own_keepP HOQ.out hbap)
            have HBAp := Lib.hid (HBQ.out.trans (hbap.mono HBQ.out.size))
            clear hbap
            go_wp2_with (at_builtin; refine wpList_append_own _ rfl _ _ 29 rfl W0.heap.size 3 i0 (.int .i64 0) 1 8 Try.underlying29 hi hz0 hz1 hz2 rfl (by decide) _ _ _ rfl HOAp.out ⟨WQ.heap.size, 0, none⟩ 1 1 [.int .i64 z] rfl rfl (cell_one_new _ _ _) ?p2 ?p3 ?p4 ?p5 ?_)
            case p2 => intro u hu; simp at hu; subst hu; rfl
            case p3 => have := HLEN0.out; (try simp only [List.length_append, List.length_singleton]); unfold maxLen; omega
            case p4 => have := HLEN0.out; (try simp only [List.length_append, List.length_singleton]); omega
            case p5 => exact HBAp.out.size
            intro vp wp hop hgp _
            have HOp : Hid (wp.ownsRow W0.heap.size 3 1 vp (AC0 ++ [z]).length ((AC0 ++ [z]).map (Value.int .i64))) := by
              show World.ownsRow _ _ _ _ _ _ _
              simpa using hop
            have HBp := Lib.hid (HBAp.out.grown hgp HBAp.out.size (fun j hj => (HOAp.out.lt j hj).1))
            clear hop hgp
            clear y0 c1
            go_wp2
            go_roundw
            case rel => exact ⟨k + 1, true, _, by have := HM.out; omega, by go_num, rfl, HNX.out, HOp.out, HBp.out⟩
            case measure => simp [intOf]; omega
          | false =>
            by_cases hxz : x < z
            · have tz : decide (x < z) = true := decide_eq_true hxz
              have HNX : Hid (AC0 ++ [x] ++ [z] ++ insB x true (C.drop (k + 1)) = insB x b0 C) := by
                have h := HEQ.out
                rw [HDR.out] at h
                show _ = _
                rw [← h]
                simp [insB, insB_true, hxz]
              clear hxz
              go_wp2
              go_quiet (fail)
              have hq := below_drewN (Below.refl W.heap.size W) nq
              have HOQ := Lib.hid (own_keepP HOW.out hq)
              have HBQ := Lib.hid (HBW.out.trans (hq.mono HBW.out.size))
              obtain ⟨WQ, hWQ⟩ : ∃ WQ, W.drewN nq = WQ := ⟨_, rfl⟩
              rw [hWQ] at HOQ HBQ
              rw [hWQ]
              clear hq hWQ y0 c1
              have y0 := HXC.out WQ HBQ.out
              have c1 := HZC.out WQ HBQ.out
              have hbar : Below WQ.heap.size WQ (WQ.alloc (.cells #[.int .i64 x] 3)) := (Below.refl _ _).alloc (Nat.le_refl _) _
              have HOAr := Lib.hid (own_keepP HOQ.out hbar)
              have HBAr := Lib.hid (HBQ.out.trans (hbar.mono HBQ.out.size))
              clear hbar
              go_wp2_with (at_builtin; refine wpList_append_own _ rfl _ _ 29 rfl W0.heap.size 3 i0 (.int .i64 0) 1 8 Try.underlying29 hi hz0 hz1 hz2 rfl (by decide) _ _ _ rfl HOAr.out ⟨WQ.heap.size, 0, none⟩ 1 1 [.int .i64 x] rfl rfl (cell_one_new _ _ _) ?r2 ?r3 ?r4 ?r5 ?_)
              case r2 => intro u hu; simp at hu; subst hu; rfl
              case r3 => have := HLEN0.out; (try simp only [List.length_append, List.length_singleton]); unfold maxLen; omega
              case r4 => have := HLEN0.out; (try simp only [List.length_append, List.length_singleton]); omega
              case r5 => exact HBAr.out.size
              intro vr wr hor hgr _
              have HOr : Hid (wr.ownsRow W0.heap.size 3 1 vr (AC0 ++ [x]).length ((AC0 ++ [x]).map (Value.int .i64))) := by
                show World.ownsRow _ _ _ _ _ _ _
                simpa using hor
              have HBr := Lib.hid (HBAr.out.grown hgr HBAr.out.size (fun j hj => (HOAr.out.lt j hj).1))
              clear hor hgr
              clear y0 c1
              have y0 := HXC.out wr HBr.out
              have c1 := HZC.out wr HBr.out
              have hbas : Below wr.heap.size wr (wr.alloc (.cells #[.int .i64 z] 3)) := (Below.refl _ _).alloc (Nat.le_refl _) _
              have HOAs := Lib.hid (own_keepP HOr.out hbas)
              have HBAs := Lib.hid (HBr.out.trans (hbas.mono HBr.out.size))
              clear hbas
              go_wp2_with (at_builtin; refine wpList_append_own _ rfl _ _ 29 rfl W0.heap.size 3 i0 (.int .i64 0) 1 8 Try.underlying29 hi hz0 hz1 hz2 rfl (by decide) _ _ _ rfl HOAs.out ⟨wr.heap.size, 0, none⟩ 1 1 [.int .i64 z] rfl rfl (cell_one_new _ _ _) ?s2 ?s3 ?s4 ?s5 ?_)
              case s2 => intro u hu; simp at hu; subst hu; rfl
              case s3 => have := HLEN0.out; (try simp only [List.length_append, List.length_singleton]); unfold maxLen; omega
              case s4 => have := HLEN0.out; (try simp only [List.length_append, List.length_singleton]); omega
              case s5 => exact HBAs.out.size
              intro vs ws hos hgs _
              have HOs : Hid (ws.ownsRow W0.heap.size 3 1 vs ((AC0 ++ [x]) ++ [z]).length (((AC0 ++ [x]) ++ [z]).map (Value.int .i64))) := by
                show World.ownsRow _ _ _ _ _ _ _
                simpa using hos
              have HBs := Lib.hid (HBAs.out.grown hgs HBAs.out.size (fun j hj => (HOAs.out.lt j hj).1))
              clear hos hgs
              clear y0 c1
              go_wp2
              go_roundw
              case rel => exact ⟨k + 1, true, _, by have := HM.out; omega, by go_num, rfl, HNX.out, HOs.out, HBs.out⟩
              case measure => simp [intOf]; omega
            · have tz : decide (x < z) = false := decide_eq_false hxz
              have HNX : Hid (AC0 ++ [z] ++ insB x false (C.drop (k + 1)) = insB x b0 C) := by
                have h := HEQ.out
                rw [HDR.out] at h
                show _ = _
                rw [← h]
                simp [insB, insB_true, hxz]
              clear hxz
              go_wp2
              go_quiet (fail)
              have hq := below_drewN (Below.refl W.heap.size W) nq
              have HOQ := Lib.hid (own_keepP HOW.out hq)
              have HBQ := Lib.hid (HBW.out.trans (hq.mono HBW.out.size))
              obtain ⟨WQ, hWQ⟩ : ∃ WQ, W.drewN nq = WQ := ⟨_, rfl⟩
              rw [hWQ] at HOQ HBQ
              rw [hWQ]
              clear hq hWQ y0 c1
              have y0 := HXC.out WQ HBQ.out
              have c1 := HZC.out WQ HBQ.out
              have hbaq : Below WQ.heap.size WQ (WQ.alloc (.cells #[.int .i64 z] 3)) := (Below.refl _ _).alloc (Nat.le_refl _) _
              have HOAq := Lib.hid (own_keepP HOQ.out hbaq)
              have HBAq := Lib.hid (HBQ.out.trans (hbaq.mono HBQ.out.size))
              clear hbaq
              go_wp2_with (at_builtin; refine wpList_append_own _ rfl _ _ 29 rfl W0.heap.size 3 i0 (.int .i64 0) 1 8 Try.underlying29 hi hz0 hz1 hz2 rfl (by decide) _ _ _ rfl HOAq.out ⟨WQ.heap.size, 0, none⟩ 1 1 [.int .i64 z] rfl rfl (cell_one_new _ _ _) ?q2 ?q3 ?q4 ?q5 ?_)
              case q2 => intro u hu; simp at hu; subst hu; rfl
              case q3 => have := HLEN0.out; (try simp only [List.length_append, List.length_singleton]); unfold maxLen; omega
              case q4 => have := HLEN0.out; (try simp only [List.length_append, List.length_singleton]); omega
              case q5 => exact HBAq.out.size
              intro vq wq hoq hgq _
              have HOq : Hid (wq.ownsRow W0.heap.size 3 1 vq (AC0 ++ [z]).length ((AC0 ++ [z]).map (Value.int .i64))) := by
                show World.ownsRow _ _ _ _ _ _ _
                simpa using hoq
              have HBq := Lib.hid (HBAq.out.grown hgq HBAq.out.size (fun j hj => (HOAq.out.lt j hj).1))
              clear hoq hgq
              clear y0 c1
              go_wp2
              go_roundw
              case rel => exact ⟨k + 1, false, _, by have := HM.out; omega, by go_num, rfl, HNX.out, HOq.out, HBq.out⟩
              case measure => simp [intOf]; omega
        · obtain rfl : k = m := by have := HM.out; have := HKM.out; omega
          have hdr : C.drop k = [] := List.drop_of_length_le (by have := HM.out; omega)
          have heq := HEQ.out
          rw [hdr, ← HSN.out] at heq
          have HEF := Lib.hid heq
          clear hdr heq
          cases b with
          | true =>
            have HNX : Hid (RoRel ids w u5 (.int .i64 ((i : Int) + 1)) W) := ⟨i + 1, HLT.out.1, by go_num, by
              have h := HEF.out
              simp only [insB_true, List.append_nil] at h
              rw [← h]
              exact Go.Proofs.Ytnngldkpkhabeaa.Act.row_base HOW.out HB.out.size, HB.out.trans (HBW.out.mono HB.out.size)⟩
            clear y0
            go_wp2
            go_roundw
            case rel => exact HNX.out
            case measure => have := HLT.out; simp [intOf]; omega
          | false =>
            have hba : Below W.heap.size W (W.alloc (.cells #[.int .i64 x] 3)) := (Below.refl _ _).alloc (Nat.le_refl _) _
            have HOA := Lib.hid (own_keepP HOW.out hba)
            have HBA := Lib.hid (HBW.out.trans (hba.mono HBW.out.size))
            clear hba
            go_wp2_with (at_builtin; refine wpList_append_own _ rfl _ _ 29 rfl W0.heap.size 3 i0 (.int .i64 0) 1 8 Try.underlying29 hi hz0 hz1 hz2 rfl (by decide) _ _ _ rfl HOA.out ⟨W.heap.size, 0, none⟩ 1 1 [.int .i64 x] rfl rfl (cell_one_new _ _ _) ?f2 ?f3 ?f4 ?f5 ?_)
            case f2 => intro u hu; simp at hu; subst hu; rfl
            case f3 => have := HLEN0.out; unfold maxLen; omega
            case f4 => have := HLEN0.out; omega
            case f5 => exact HBA.out.size
            intro v9 w9 ho9 hg9 _
            have HNX : Hid (RoRel ids w v9 (.int .i64 ((i : Int) + 1)) w9) := ⟨i + 1, HLT.out.1, by go_num, by
              have h := HEF.out
              simp only [insB] at h
              rw [← h, List.length_append]
              have h2 := Go.Proofs.Ytnngldkpkhabeaa.Act.row_base ho9 HB.out.size
              simpa using h2, HB.out.trans ((HBA.out.grown hg9 HBA.out.size (fun j hj => (HOA.out.lt j hj).1)).mono HB.out.size)⟩
            clear ho9 hg9 y0
            go_wp2
            go_roundw
            case rel => exact HNX.out
            case measure => have := HLT.out; simp [intOf]; omega
    · obtain rfl : i = li := by omega
      have htk : ids.take i = ids := List.take_of_length_le (by omega)
      have he : Hid (risD (ids.take i) = risZ ids) := by show _ = _; rw [htk, HE.out]
      clear htk hll
      go_wp2
      go_ret
      refine ⟨_, rfl, ?_, HB.out⟩
      rw [← he.out]
      exact HO.out
end Go.Proofs.Ytnngldkpkhabeaa.Rel
