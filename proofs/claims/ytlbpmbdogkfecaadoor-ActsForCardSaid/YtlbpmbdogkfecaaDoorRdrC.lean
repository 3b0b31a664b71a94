
/- What package reader's numbers and texts are, and what the document's are: both by one reckoning. Condition: the table of names holds what the program lays there. What package reader's U8, U16, U32, U64 and Text do to a reader. Condition: the table of names holds what the program lays there. What the document's reader does (Fail, Num, Text): the same reckoning as the program's. No condition. The chapter's example of package reader, as the laws ask it. Condition: the table of names holds what the program lays there. -/

import Derived.Test.YtlbpmbdogkfecaaDoorRdrA

import Derived.Test.YtlbpmbdogkfecaaDoorShelf

import Derived.StillTailTactics

namespace Go.Proofs.YtlbpmbdogkfecaaDoor.Rdr

open Go.RowKit Go.PlainAid Go.Proofs.YtlbpmbdogkfecaaDoor.Flt Go.Proofs.YtlbpmbdogkfecaaDoor.Oct

set_option linter.unusedVariables false

theorem Just.drewN {g : Nat} {a w : World} (h : Just g a w) (n : Nat) : Just g a (w.drewN n) := ⟨h.os, h.tape, h.output, h.size, h.block⟩
theorem IsRdr.drewN {g : Nat} {t : St} {w : World} (h : IsRdr w g t) (n : Nat) : IsRdr (w.drewN n) g t := by
  obtain ⟨x, h1, h2⟩ := h
  exact ⟨x, h1, h2.kept (fun _ _ _ => rfl)⟩
theorem names_drewN {w : World} (h : Names w) (n : Nat) : Names (w.drewN n) := h
/-- A reader that may be: it stands within its text. -/
def Ok (t : St) : Prop := t.p ≤ t.s.size ∧ t.s.size ≤ 1099511627776
/-- The next number of n bytes. -/
def numS (t : St) (n : Nat) : St := if t.k = 0 then (if getB t.s t.p n then { t with p := t.p + n } else failS t 2 t.p) else t
def numV (t : St) (n : Nat) : Nat := if t.k = 0 then getV t.s t.p n else 0
def UPost (g : Nat) (t : St) (v : Nat) (w : World) (e : Ending) (w' : World) : Prop := e = .returned (.int .u64 v) ∧ IsRdr w' g t ∧ Just g w w'
theorem fail_k {t : St} (h : t.k = 0) (a : Int) : (failS t 2 a).k = 2 := by
  have e := fail_yes (k := 2) (a := a) h (by omega) (by omega)
  rw [show (2 : Int) = ((2 : Nat) : Int) from rfl, e]

theorem number_had (g : Nat) (t : St) (n : Nat) (w : World) (hn : Names w) (h : IsRdr w g t) (ho : Ok t) (h8 : n ≤ 8) (hk : t.k ≠ 0) :
    Calls Tryd.prog 34 #[.pointer (some ⟨g, 0, none⟩), .int .i64 n] w (UPost g t 0 w) := by
  have H := Lib.hid h
  have HN := Lib.hid hn
  have HK := Lib.hid hk
  obtain ⟨x, h1, h2⟩ := h
  obtain ⟨hc0, hc1, _, _, _⟩ := cells_of h1
  have hg : Hid (∀ w : World, Calls Tryd.prog 40 #[.string t.s, .int .i64 t.p, .int .i64 n] w fun e w' => e = .returned (.tuple #[.int .u64 (getV t.s t.p n), .bool (getB t.s t.p n)]) ∧ w' = w) := fun w => (get_any t.s t.p n (by have := ho.1; have := ho.2; omega) (by have := ho.2; unfold maxLen; omega) w).mono fun _ _ ⟨a, b⟩ => ⟨a, b.symm⟩
  obtain ⟨b, hb⟩ : ∃ b, getB t.s t.p n = b := ⟨_, rfl⟩
  obtain ⟨v, hv⟩ : ∃ v, getV t.s t.p n = v := ⟨_, rfl⟩
  rw [hb, hv] at hg
  have hkb : Hid ((t.k == 0) = false) := by show _ = _; simp; exact hk
  clear h1 h2 hn hk hb hv ho
  cases b with
  | true =>
    go_enter Tryd.func34, Tryd.ntmps34
    go_wp2
    go_quiet ((go_at_call 40; exact Calls.quiet_of_same (hg.out _)))
    have HQ := Lib.hid (H.out.drewN nq)
    obtain ⟨x, h1, h2⟩ := H.out.drewN nq
    obtain ⟨hc0, hc1, _, _, _⟩ := cells_of h1
    clear h1 h2
    go_wp2_with (go_at_call 27; refine (need_ok g t 2 t.p _ HQ.out).mono ?_; rw [hkb.out]; rintro e w' ⟨rfl, rfl⟩)
    go_ret
    exact ⟨rfl, HQ.out, (Just.refl _ _).drewN _⟩
  | false =>
    go_enter Tryd.func34, Tryd.ntmps34
    go_wp2
    go_quiet ((go_at_call 40; exact Calls.quiet_of_same (hg.out _)))
    have HQ := Lib.hid (H.out.drewN nq)
    obtain ⟨x, h1, h2⟩ := H.out.drewN nq
    obtain ⟨hc0, hc1, _, _, _⟩ := cells_of h1
    clear h1 h2
    go_wp2_with (go_at_call 27; refine (need_no g t 2 t.p _ (names_drewN HN.out nq) (by omega) HQ.out).mono ?_; rw [fail_had HK.out]; rintro e w1 ⟨e1, hr, hj⟩; rw [hkb.out] at e1; subst e1; have HR := Lib.hid hr; have HJ := Lib.hid hj; clear hr hj)
    go_ret
    exact ⟨rfl, HR.out, ((Just.refl _ _).drewN _).trans HJ.out⟩
theorem number_new (g : Nat) (t : St) (n : Nat) (w : World) (hn : Names w) (h : IsRdr w g t) (ho : Ok t) (h8 : n ≤ 8) (hk : t.k = 0) :
    Calls Tryd.prog 34 #[.pointer (some ⟨g, 0, none⟩), .int .i64 n] w (UPost g (numS t n) (numV t n) w) := by
  have eS : numS t n = if getB t.s t.p n then { t with p := t.p + n } else failS t 2 t.p := by unfold numS; rw [if_pos hk]
  have eV : numV t n = getV t.s t.p n := by unfold numV; rw [if_pos hk]
  rw [eS, eV]
  have H := Lib.hid h
  have HN := Lib.hid hn
  have HK := Lib.hid hk
  obtain ⟨x, h1, h2⟩ := h
  obtain ⟨hc0, hc1, _, _, _⟩ := cells_of h1
  have hg : Hid (∀ w : World, Calls Tryd.prog 40 #[.string t.s, .int .i64 t.p, .int .i64 n] w fun e w' => e = .returned (.tuple #[.int .u64 (getV t.s t.p n), .bool (getB t.s t.p n)]) ∧ w' = w) := fun w => (get_any t.s t.p n (by have := ho.1; have := ho.2; omega) (by have := ho.2; unfold maxLen; omega) w).mono fun _ _ ⟨a, b⟩ => ⟨a, b.symm⟩
  cases hb : getB t.s t.p n with
  | true =>
    have hpn : (t.p : Int) + (n : Int) ≤ 1099511627776 := by
      have h2 := ho.2; unfold getB at hb; simp at hb; omega
    have hkb : Hid ((t.k == 0) = true) := by show _ = _; simp; exact hk
    obtain ⟨v, hv⟩ : ∃ v, getV t.s t.p n = v := ⟨_, rfl⟩
    rw [hb, hv] at hg
    rw [hv]
    clear h1 h2 hn hk hb hv ho eS eV
    go_enter Tryd.func34, Tryd.ntmps34
    go_wp2
    go_quiet ((go_at_call 40; exact Calls.quiet_of_same (hg.out _)))
    have HQ := Lib.hid (H.out.drewN nq)
    obtain ⟨x, h1, h2⟩ := H.out.drewN nq
    obtain ⟨hc0, hc1, _, _, hff⟩ := cells_of h1
    have hf1 := hff 1
    have hsp := set_place h1 (t.p + n)
    have hjj := ((Just.refl g w).drewN nq).setCell 1 (.int .i64 ((t.p + n : Nat) : Int))
    have hww := h2.kept (keptW_just h1 (((Just.refl g (w.drewN nq))).setCell 1 (.int .i64 ((t.p + n : Nat) : Int))))
    have epn : ((t.p + n : Nat) : Int) = (t.p : Int) + (n : Int) := by omega
    rw [epn] at hsp hjj hww
    have HSP := Lib.hid hsp
    have HJJ := Lib.hid hjj
    have HWW := Lib.hid hww
    clear h1 h2 hff hsp hjj hww epn
    go_wp2_with (go_at_call 27; refine (need_ok g t 2 t.p _ HQ.out).mono ?_; rw [hkb.out]; rintro e w' ⟨rfl, rfl⟩)
    go_ret
    exact ⟨rfl, ⟨x, HSP.out, HWW.out⟩, HJJ.out⟩
  | false =>
    have hv : getV t.s t.p n = 0 := by unfold getV; rw [hb]; rfl
    have hkb : Hid (((failS t 2 t.p).k == 0) = false) := by show _ = _; rw [fail_k hk]; rfl
    rw [hb, hv] at hg
    rw [hv]
    clear h1 h2 hn hk hb hv ho eS eV
    go_enter Tryd.func34, Tryd.ntmps34
    go_wp2
    go_quiet ((go_at_call 40; exact Calls.quiet_of_same (hg.out _)))
    have HQ := Lib.hid (H.out.drewN nq)
    obtain ⟨x, h1, h2⟩ := H.out.drewN nq
    obtain ⟨hc0, hc1, _, _, _⟩ := cells_of h1
    clear h1 h2
    go_wp2_with (go_at_call 27; refine (need_no g t 2 t.p _ (names_drewN HN.out nq) (by omega) HQ.out).mono ?_; rintro e w1 ⟨e1, hr, hj⟩; rw [hkb.out] at e1; subst e1; have HR := Lib.hid hr; have HJ := Lib.hid hj; clear hr hj)
    go_ret
    exact ⟨rfl, HR.out, ((Just.refl _ _).drewN _).trans HJ.out⟩
theorem number_any (g : Nat) (t : St) (n : Nat) (w : World) (hn : Names w) (h : IsRdr w g t) (ho : Ok t) (h8 : n ≤ 8) :
    Calls Tryd.prog 34 #[.pointer (some ⟨g, 0, none⟩), .int .i64 n] w (UPost g (numS t n) (numV t n) w) := by
  by_cases hk : t.k = 0
  · exact number_new g t n w hn h ho h8 hk
  · have e1 : numS t n = t := by unfold numS; rw [if_neg hk]
    have e2 : numV t n = 0 := by unfold numV; rw [if_neg hk]
    rw [e1, e2]
    exact number_had g t n w hn h ho h8 hk
end Go.Proofs.YtlbpmbdogkfecaaDoor.Rdr

namespace Go.Proofs.YtlbpmbdogkfecaaDoor.Rdr

open Go.RowKit Go.PlainAid Go.Proofs.YtlbpmbdogkfecaaDoor.Flt Go.Proofs.YtlbpmbdogkfecaaDoor.Oct

set_option linter.unusedVariables false

theorem numV_lt (t : St) (n : Nat) (h : n = 1 ∨ n = 2 ∨ n = 4 ∨ n = 8) : numV t n < 256 ^ n := by
  have hp : 0 < 256 ^ n := Nat.pow_pos (by omega)
  unfold numV
  split
  · unfold getV
    split
    · have := getN_lt t.s (t.p : Int).toNat (n : Int).toNat
      simpa using this
    · exact hp
  · exact hp
theorem u8_le (t : St) : numV t 1 ≤ 255 := by have := numV_lt t 1 (by omega); omega
theorem u16_le (t : St) : numV t 2 ≤ 65535 := by have := numV_lt t 2 (by omega); omega
theorem u32_le (t : St) : numV t 4 ≤ 4294967295 := by have := numV_lt t 4 (by omega); omega
theorem u64_le (t : St) : numV t 8 ≤ 18446744073709551615 := by have := numV_lt t 8 (by omega); omega
def IPost (k : IntKind) (g : Nat) (t : St) (v : Nat) (w : World) (e : Ending) (w' : World) : Prop := e = .returned (.int k v) ∧ IsRdr w' g t ∧ Just g w w'
theorem u8_any (g : Nat) (t : St) (w : World) (hn : Names w) (h : IsRdr w g t) (ho : Ok t) :
    Calls Tryd.prog 26 #[.pointer (some ⟨g, 0, none⟩)] w (IPost .i64 g (numS t 1) (numV t 1) w) := by
  have HC := Lib.hid (number_any g t 1 w hn h ho (by omega))
  have hle := u8_le t
  obtain ⟨v, hv⟩ : ∃ v, numV t 1 = v := ⟨_, rfl⟩
  rw [hv] at HC hle ⊢
  clear hv hn h ho
  go_enter Tryd.func26, Tryd.ntmps26
  go_wp2_with (go_at_call 34; refine (HC.out).mono ?_; rintro e w1 ⟨rfl, hr, hj⟩)
  go_ret
  exact ⟨rfl, hr, hj⟩
theorem wrap_u32_in {v : Nat} (h : v ≤ 4294967295) : IntKind.u32.wrap (v : Int) = (v : Int) := by rw [IntKind.wrap_u32]; omega
theorem still_tail_drew {P : Program} {id : Nat} {Q : Exit → Act → World → Prop} {a : Act} {w : World} {l : List Oper} (n : Nat) (hm : P.follows .mixedOrders = true) (hB : Region.lexTailB .any l.toArray n = true)
    (h : wpStill P l.toArray w.drew (fun a' => wpList P l.toArray Q (l.drop n) a' w.drew) (l.take n) a) : (Code.region id l.toArray true).wp P Q a w := wp_region_still_tail n hm hB h
/-- The next n bytes. -/
def txtS (t : St) (n : Int) : St := if t.k = 0 then (if t.p + n.toNat ≤ t.s.size then { t with p := t.p + n.toNat } else failS t 2 t.p) else t
def txtV (t : St) (n : Int) : ByteArray := if t.k = 0 ∧ t.p + n.toNat ≤ t.s.size then t.s.extract t.p (t.p + n.toNat) else ⟨#[]⟩
def SPost (g : Nat) (t : St) (v : ByteArray) (w : World) (e : Ending) (w' : World) : Prop := e = .returned (.string v) ∧ IsRdr w' g t ∧ Just g w w'

theorem extract_none (s : ByteArray) (p : Nat) : s.extract p (p + 0) = ⟨#[]⟩ := by
  apply ByteArray.ext; simp
end Go.Proofs.YtlbpmbdogkfecaaDoor.Rdr

namespace Go.Proofs.YtlbpmbdogkfecaaDoor.Rdr

open Go.RowKit Go.PlainAid Go.Proofs.YtlbpmbdogkfecaaDoor.Flt Go.Proofs.YtlbpmbdogkfecaaDoor.Oct

set_option linter.unusedVariables false

theorem bcell {W w1 : World} (hb : Below W.heap.size W w1) : (∀ b o, b < W.heap.size → w1.cell? ⟨b, o, none⟩ = W.cell? ⟨b, o, none⟩) ∧ (∀ b o, b < W.heap.size → w1.frozen? ⟨b, o, none⟩ = W.frozen? ⟨b, o, none⟩) :=
  ⟨fun b o h => hb.cell (p := ⟨b, o, none⟩) h, fun b o h => hb.frozen (p := ⟨b, o, none⟩) h⟩
def rdC (t : St) : Array Value := #[.string t.s, .int .i64 t.p, .int .i64 t.sec, .int .i64 t.k, .int .i64 t.fs, .int .i64 t.fa]
theorem one_rd (t : St) : (rdC t).all (·.oneCell') = true := by simp [rdC, Value.oneCell']
def RPost (t : St) (w : World) (e : Ending) (w' : World) : Prop := e = .returned (.agg (rdC t)) ∧ Below w.heap.size w w'
def rd0 : Array Value := #[.string ⟨#[]⟩, .int .i64 0, .int .i64 0, .int .i64 0, .int .i64 0, .int .i64 0]
theorem set_far {w1 : World} {b c o : Nat} {v : Value} {y : Option Obj} (h : w1.heap[c]? = y) (hne : c ≠ b) : (w1.setCell ⟨b, o, none⟩ v).heap[c]? = y := (heap_setCell_other w1 ⟨b, o, none⟩ c v hne).trans h
theorem ends_below {w w1 : World} {W : World} (h : Below w.heap.size w w1) (hh : ∀ k, k < w.heap.size → W.heap[k]? = w1.heap[k]?) (ho : W.os = w1.os) (ht : W.tape = w1.tape) (hp : W.output = w1.output) (hs : w1.heap.size ≤ W.heap.size) : Below w.heap.size w W :=
  ⟨ho.trans h.os, ht.trans h.tape, hp.trans h.output, Nat.le_trans h.size hs, fun k hk => (hh k hk).trans (h.block k hk)⟩
theorem below_setRow {w w1 : World} {b : Nat} {cs : Array Value} (h : Below w.heap.size w w1) (hb : w.heap.size ≤ b) : Below w.heap.size w (w1.setRow b cs) :=
  h.trans ⟨rfl, rfl, rfl, by simp, fun k hk => setRow_other _ _ _ _ (by omega)⟩
theorem results_row_tmp {P : Program} {fn : Func} {p u : Tmp} {ty : TypeId} (h : fn.results = #[.cell p ty, .tmp u]) (tmps : Array Value) (w : World) (g : Nat) (t : TypeId) (cs : Array Value) (fr : Nat × Nat) (d : TypeDesc)
    (hp : tmps.getD p undef = .pointer (some ⟨g, 0, none⟩)) (hg : w.heap[g]? = some (.cells cs t fr))
    (hu : P.underlying ty = some d) (hd : (match d with | .struct _ | .array _ _ => true | _ => false) = true) (hi : (P.info? ty).map (·.size) = some cs.size) :
    (results fn tmps).run P w = .ok (.tuple #[.agg cs, tmps.getD u undef]) w := by
  have hp' : tmps[p]?.getD undef = .pointer (some ⟨g, 0, none⟩) := by simpa using hp
  simp [results, h, hp', asAddr, run_loadVar_row w g t ty cs fr d hg hu hd hi]
/-- What the document's Num tells. -/
def RNumPost (t : St) (v : Value) (w : World) (e : Ending) (w' : World) : Prop := e = .returned (.tuple #[.agg (rdC t), v]) ∧ Below w.heap.size w w'
theorem two_below (w : World) (o1 o2 : Obj) : Below w.heap.size w ((w.alloc o1).alloc o2) := ((Below.refl _ _).alloc (Nat.le_refl _) _).alloc (by simp) _
end Go.Proofs.YtlbpmbdogkfecaaDoor.Rdr

namespace Go.Proofs.YtlbpmbdogkfecaaDoor.Rdr

open Go.RowKit Go.PlainAid Go.Proofs.YtlbpmbdogkfecaaDoor.Flt Go.Proofs.YtlbpmbdogkfecaaDoor.Oct

set_option linter.unusedVariables false

theorem err_ok (g : Nat) (t : St) (w : World) (h : IsRdr w g t) (hk : t.k = 0) :
    Calls Tryd.prog 24 #[.pointer (some ⟨g, 0, none⟩)] w fun e w' => e = .returned .nilIface ∧ w = w' := by
  refine (err_any g t w h).mono ?_
  rintro e w' ⟨x, hx, rfl, rfl⟩
  rcases hx with ⟨_, _, _, rfl⟩ | ⟨h1, _, _⟩
  · exact ⟨rfl, rfl⟩
  · omega
theorem err_bad (g : Nat) (t : St) (w : World) (h : IsRdr w g t) (hk : t.k ≠ 0) :
    Calls Tryd.prog 24 #[.pointer (some ⟨g, 0, none⟩)] w fun e w' => ∃ u y, e = .returned (.iface u y) ∧ w = w' := by
  refine (err_any g t w h).mono ?_
  rintro e w' ⟨x, hx, rfl, rfl⟩
  rcases hx with ⟨h1, _, _, _⟩ | ⟨_, _, h3⟩
  · exact absurd h1 hk
  · obtain ⟨u, y, rfl⟩ := err_of h3
    exact ⟨u, y, rfl, rfl⟩
theorem ok_fail {t : St} (h : Ok t) (k a : Int) : Ok (failS t k a) := by unfold failS; split <;> exact h
theorem ok_num {t : St} (h : Ok t) (n : Nat) : Ok (numS t n) := by
  unfold numS
  split
  · split
    · rename_i hg
      refine ⟨?_, h.2⟩
      unfold getB at hg; simp at hg
      show t.p + n ≤ t.s.size; omega
    · exact ok_fail h _ _
  · exact h
theorem ok_txt {t : St} (h : Ok t) (n : Int) : Ok (txtS t n) := by
  unfold txtS
  split
  · split
    · rename_i hp; exact ⟨hp, h.2⟩
    · exact ok_fail h _ _
  · exact h
def awB : ByteArray := ⟨#[1, 2, 3]⟩
theorem aw_b : getB awB (0 : Nat) (2 : Nat) = true := by decide +kernel
theorem aw_v : getV awB (0 : Nat) (2 : Nat) = 258 := by decide +kernel
theorem aw_b2 : getB awB (2 : Nat) (2 : Nat) = false := by decide +kernel
theorem aw_1 : numV ⟨awB, 0, 2, 0, 0, 0⟩ 2 = 258 := by unfold numV; rw [if_pos rfl]; exact aw_v
theorem aw_2 : numS ⟨awB, 0, 2, 0, 0, 0⟩ 2 = ⟨awB, 2, 2, 0, 0, 0⟩ := by
  unfold numS; rw [if_pos rfl]; simp only []; rw [aw_b]; rfl
theorem aw_3 : numV ⟨awB, 2, 2, 0, 0, 0⟩ 2 = 0 := by unfold numV getV; rw [if_pos rfl]; simp only []; rw [aw_b2]; rfl
theorem aw_4 : numS ⟨awB, 2, 2, 0, 0, 0⟩ 2 = ⟨awB, 2, 2, 2, 2, 2⟩ := by
  unfold numS; rw [if_pos rfl]; simp only []; rw [aw_b2]; rfl
theorem aw_ok (p : Nat) (s : Int) (hp : p ≤ 3) : Ok ⟨awB, p, s, 0, 0, 0⟩ := ⟨hp, by show 3 ≤ 1099511627776; omega⟩

end Go.Proofs.YtlbpmbdogkfecaaDoor.Rdr
