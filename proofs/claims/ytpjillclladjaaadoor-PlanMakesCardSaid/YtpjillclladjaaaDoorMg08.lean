/- What package reader's numbers and texts are, and what the document's are: both by one reckoning. Condition: the table of names holds what the program lays there. What package reader's U8, U16, U32, U64 and Text do to a reader. Condition: the table of names holds what the program lays there. What the document's reader does (Fail, Num, Text): the same reckoning as the program's. No condition. The chapter's example of package reader, as the laws ask it. Condition: the table of names holds what the program lays there. That a number's bytes in a text are read as the number. No condition. Package reader's Need whether so or not; a store beside a reader. Condition: the variables hold what the program lays there. -/
import Derived.Test.YtpjillclladjaaaDoorMg06
import Derived.Test.YtpjillclladjaaaDoorMg07
import Derived.StillTailTactics
namespace Go.Proofs.YtpjillclladjaaaDoor.Rdr

open Go.RowKit Go.PlainAid Go.Proofs.YtpjillclladjaaaDoor.Flt Go.Proofs.YtpjillclladjaaaDoor.Oct

set_option linter.unusedVariables false

theorem Just.drewN {g : Nat} {a w : World} (h : Just g a w) (n : Nat) : Just g a (w.drewN n) := ⟨h.os, h.tape, h.output, h.size, h.block⟩
theorem names_drewN {w : World} (h : Names w) (n : Nat) : Names (w.drewN n) := h
/-- A reader that may be: it stands within its text. -/
def Ok (t : St) : Prop := t.p ≤ t.s.size ∧ t.s.size ≤ 1099511627776
/-- The next number of n bytes. -/
def numS (t : St) (n : Nat) : St := if t.k = 0 then (if getB t.s t.p n then { t with p := t.p + n } else failS t 2 t.p) else t
def numV (t : St) (n : Nat) : Nat := if t.k = 0 then getV t.s t.p n else 0
theorem fail_k {t : St} (h : t.k = 0) (a : Int) : (failS t 2 a).k = 2 := by
  have e := fail_yes (k := 2) (a := a) h (by omega) (by omega)
  rw [show (2 : Int) = ((2 : Nat) : Int) from rfl, e]

end Go.Proofs.YtpjillclladjaaaDoor.Rdr

namespace Go.Proofs.YtpjillclladjaaaDoor.Rdr

open Go.RowKit Go.PlainAid Go.Proofs.YtpjillclladjaaaDoor.Flt Go.Proofs.YtpjillclladjaaaDoor.Oct

set_option linter.unusedVariables false

theorem numV_lt (t : St) (n : Nat) (h : n = 1 ∨ n = 2 ∨ n = 4 ∨ n = 8) : numV t n < 256 ^ n := by
  have hp : 0 < 256 ^ n := Nat.pow_pos (by omega)
  unfold numV
  split
  · unfold getV
    split
    · have := getN_lt t.s (t.p : Int).toNat (n : Int).toNat
      simpa using this
    · exact hp
  · exact hp
theorem u8_le (t : St) : numV t 1 ≤ 255 := by have := numV_lt t 1 (by omega); omega
theorem u16_le (t : St) : numV t 2 ≤ 65535 := by have := numV_lt t 2 (by omega); omega
theorem u32_le (t : St) : numV t 4 ≤ 4294967295 := by have := numV_lt t 4 (by omega); omega
theorem u64_le (t : St) : numV t 8 ≤ 18446744073709551615 := by have := numV_lt t 8 (by omega); omega
theorem wrap_u32_in {v : Nat} (h : v ≤ 4294967295) : IntKind.u32.wrap (v : Int) = (v : Int) := by rw [IntKind.wrap_u32]; omega
theorem still_tail_drew {P : Program} {id : Nat} {Q : Exit → Act → World → Prop} {a : Act} {w : World} {l : List Oper} (n : Nat) (hm : P.follows .mixedOrders = true) (hB : Region.lexTailB .any l.toArray n = true)
    (h : wpStill P l.toArray w.drew (fun a' => wpList P l.toArray Q (l.drop n) a' w.drew) (l.take n) a) : (Code.region id l.toArray true).wp P Q a w := wp_region_still_tail n hm hB h
/-- The next n bytes. -/
def txtS (t : St) (n : Int) : St := if t.k = 0 then (if t.p + n.toNat ≤ t.s.size then { t with p := t.p + n.toNat } else failS t 2 t.p) else t
def txtV (t : St) (n : Int) : ByteArray := if t.k = 0 ∧ t.p + n.toNat ≤ t.s.size then t.s.extract t.p (t.p + n.toNat) else ⟨#[]⟩
theorem extract_none (s : ByteArray) (p : Nat) : s.extract p (p + 0) = ⟨#[]⟩ := by
  apply ByteArray.ext; simp
end Go.Proofs.YtpjillclladjaaaDoor.Rdr

namespace Go.Proofs.YtpjillclladjaaaDoor.Rdr

open Go.RowKit Go.PlainAid Go.Proofs.YtpjillclladjaaaDoor.Flt Go.Proofs.YtpjillclladjaaaDoor.Oct

set_option linter.unusedVariables false

theorem bcell {W w1 : World} (hb : Below W.heap.size W w1) : (∀ b o, b < W.heap.size → w1.cell? ⟨b, o, none⟩ = W.cell? ⟨b, o, none⟩) ∧ (∀ b o, b < W.heap.size → w1.frozen? ⟨b, o, none⟩ = W.frozen? ⟨b, o, none⟩) :=
  ⟨fun b o h => hb.cell (p := ⟨b, o, none⟩) h, fun b o h => hb.frozen (p := ⟨b, o, none⟩) h⟩
def rdC (t : St) : Array Value := #[.string t.s, .int .i64 t.p, .int .i64 t.sec, .int .i64 t.k, .int .i64 t.fs, .int .i64 t.fa]
theorem one_rd (t : St) : (rdC t).all (·.oneCell') = true := by simp [rdC, Value.oneCell']
def RPost (t : St) (w : World) (e : Ending) (w' : World) : Prop := e = .returned (.agg (rdC t)) ∧ Below w.heap.size w w'
def rd0 : Array Value := #[.string ⟨#[]⟩, .int .i64 0, .int .i64 0, .int .i64 0, .int .i64 0, .int .i64 0]
theorem set_far {w1 : World} {b c o : Nat} {v : Value} {y : Option Obj} (h : w1.heap[c]? = y) (hne : c ≠ b) : (w1.setCell ⟨b, o, none⟩ v).heap[c]? = y := (heap_setCell_other w1 ⟨b, o, none⟩ c v hne).trans h
theorem ends_below {w w1 : World} {W : World} (h : Below w.heap.size w w1) (hh : ∀ k, k < w.heap.size → W.heap[k]? = w1.heap[k]?) (ho : W.os = w1.os) (ht : W.tape = w1.tape) (hp : W.output = w1.output) (hs : w1.heap.size ≤ W.heap.size) : Below w.heap.size w W :=
  ⟨ho.trans h.os, ht.trans h.tape, hp.trans h.output, Nat.le_trans h.size hs, fun k hk => (hh k hk).trans (h.block k hk)⟩
theorem below_setRow {w w1 : World} {b : Nat} {cs : Array Value} (h : Below w.heap.size w w1) (hb : w.heap.size ≤ b) : Below w.heap.size w (w1.setRow b cs) :=
  h.trans ⟨rfl, rfl, rfl, by simp, fun k hk => setRow_other _ _ _ _ (by omega)⟩
theorem results_row_tmp {P : Program} {fn : Func} {p u : Tmp} {ty : TypeId} (h : fn.results = #[.cell p ty, .tmp u]) (tmps : Array Value) (w : World) (g : Nat) (t : TypeId) (cs : Array Value) (fr : Nat × Nat) (d : TypeDesc)
    (hp : tmps.getD p undef = .pointer (some ⟨g, 0, none⟩)) (hg : w.heap[g]? = some (.cells cs t fr))
    (hu : P.underlying ty = some d) (hd : (match d with | .struct _ | .array _ _ => true | _ => false) = true) (hi : (P.info? ty).map (·.size) = some cs.size) :
    (results fn tmps).run P w = .ok (.tuple #[.agg cs, tmps.getD u undef]) w := by
  have hp' : tmps[p]?.getD undef = .pointer (some ⟨g, 0, none⟩) := by simpa using hp
  simp [results, h, hp', asAddr, run_loadVar_row w g t ty cs fr d hg hu hd hi]
/-- What the document's Num tells. -/
def RNumPost (t : St) (v : Value) (w : World) (e : Ending) (w' : World) : Prop := e = .returned (.tuple #[.agg (rdC t), v]) ∧ Below w.heap.size w w'
theorem two_below (w : World) (o1 o2 : Obj) : Below w.heap.size w ((w.alloc o1).alloc o2) := ((Below.refl _ _).alloc (Nat.le_refl _) _).alloc (by simp) _
end Go.Proofs.YtpjillclladjaaaDoor.Rdr

namespace Go.Proofs.YtpjillclladjaaaDoor.Rdr

open Go.RowKit Go.PlainAid Go.Proofs.YtpjillclladjaaaDoor.Flt Go.Proofs.YtpjillclladjaaaDoor.Oct

set_option linter.unusedVariables false

theorem ok_fail {t : St} (h : Ok t) (k a : Int) : Ok (failS t k a) := by unfold failS; split <;> exact h
theorem ok_num {t : St} (h : Ok t) (n : Nat) : Ok (numS t n) := by
  unfold numS
  split
  · split
    · rename_i hg
      refine ⟨?_, h.2⟩
      unfold getB at hg; simp at hg
      show t.p + n ≤ t.s.size; omega
    · exact ok_fail h _ _
  · exact h
theorem ok_txt {t : St} (h : Ok t) (n : Int) : Ok (txtS t n) := by
  unfold txtS
  split
  · split
    · rename_i hp; exact ⟨hp, h.2⟩
    · exact ok_fail h _ _
  · exact h
def awB : ByteArray := ⟨#[1, 2, 3]⟩
theorem aw_b : getB awB (0 : Nat) (2 : Nat) = true := by decide +kernel
theorem aw_v : getV awB (0 : Nat) (2 : Nat) = 258 := by decide +kernel
theorem aw_b2 : getB awB (2 : Nat) (2 : Nat) = false := by decide +kernel
theorem aw_1 : numV ⟨awB, 0, 2, 0, 0, 0⟩ 2 = 258 := by unfold numV; rw [if_pos rfl]; exact aw_v
theorem aw_2 : numS ⟨awB, 0, 2, 0, 0, 0⟩ 2 = ⟨awB, 2, 2, 0, 0, 0⟩ := by
  unfold numS; rw [if_pos rfl]; simp only []; rw [aw_b]; rfl
theorem aw_3 : numV ⟨awB, 2, 2, 0, 0, 0⟩ 2 = 0 := by unfold numV getV; rw [if_pos rfl]; simp only []; rw [aw_b2]; rfl
theorem aw_4 : numS ⟨awB, 2, 2, 0, 0, 0⟩ 2 = ⟨awB, 2, 2, 2, 2, 2⟩ := by
  unfold numS; rw [if_pos rfl]; simp only []; rw [aw_b2]; rfl
theorem aw_ok (p : Nat) (s : Int) (hp : p ≤ 3) : Ok ⟨awB, p, s, 0, 0, 0⟩ := ⟨hp, by show 3 ≤ 1099511627776; omega⟩

end Go.Proofs.YtpjillclladjaaaDoor.Rdr
namespace Go.Proofs.YtpjillclladjaaaDoor.Rdr

open Go.RowKit Go.PlainAid Go.Proofs.YtpjillclladjaaaDoor.Oct Go.Proofs.YtpjillclladjaaaDoor.Flt

set_option linter.unusedVariables false

theorem getN_same (s s' : ByteArray) (p : Nat) : ∀ n, (∀ j, j < n → bt s (p + j) = bt s' (p + j)) → getN s p n = getN s' p n
  | 0, _ => rfl
  | n + 1, h => by
    have h1 := getN_same s s' p n (fun j hj => h j (by omega))
    have h2 := h n (by omega)
    rw [getN, getN, h1, h2]
/-- Small numbers, as bytes. -/
def Small (l : List Int) : Prop := ∀ x ∈ l, 0 ≤ x ∧ x ≤ 255
theorem Small.append {a b : List Int} (ha : Small a) (hb : Small b) : Small (a ++ b) := by
  intro x hx
  rcases List.mem_append.1 hx with h | h
  · exact ha x h
  · exact hb x h
theorem small_low (v n : Nat) : Small (low v n) := low_range v n
theorem bt_part (a b : List Int) (k : Nat) (h : k < a.length) (ha : Small a) (hb : Small b) : bt (strOfNums (a ++ b)) k = bt (strOfNums a) k := by
  rw [bt_strOf (a ++ b) k (by rw [List.length_append]; omega) (ha.append hb), bt_strOf a k h ha, List.getElem_append_left h]
theorem num_read (pre post : List Int) (v n : Nat) (hn : n = 1 ∨ n = 2 ∨ n = 4 ∨ n = 8) (hv : v < 256 ^ n) (h1 : Small pre) (h2 : Small post) (M : ByteArray) (hM : strOfNums (pre ++ low v n ++ post) = M) (p : Nat) (hp : p = pre.length) (sec fs fa : Int) :
    numS ⟨M, p, sec, 0, fs, fa⟩ n = ⟨M, p + n, sec, 0, fs, fa⟩ ∧ numV ⟨M, p, sec, 0, fs, fa⟩ n = v := by
  subst hp
  have hsz : M.size = pre.length + n + post.length := by rw [← hM, strOfNums_size]; simp [low_length]; omega
  have hg : getB M (pre.length : Nat) (n : Nat) = true := by
    unfold getB sizeB
    rw [hsz]
    rcases hn with rfl | rfl | rfl | rfl <;> (simp; omega)
  have hN : getN M pre.length n = v := by
    have h3 : getN M pre.length n = getN (strOfNums (pre ++ low v n)) pre.length n := by
      refine getN_same _ _ _ _ fun j hj => ?_
      rw [← hM]
      exact bt_part _ _ _ (by rw [List.length_append, low_length]; omega) (h1.append (small_low v n)) h2
    rw [h3, getN_low pre v n h1, Nat.mod_eq_of_lt hv]
  constructor
  · unfold numS
    rw [if_pos rfl, if_pos hg]
  · unfold numV getV
    rw [if_pos rfl, if_pos hg]
    simpa using hN
end Go.Proofs.YtpjillclladjaaaDoor.Rdr
namespace Go.Proofs.YtpjillclladjaaaDoor.Rdr

open Go.RowKit Go.PlainAid Go.Proofs.YtpjillclladjaaaDoor.Oct Go.Proofs.YtpjillclladjaaaDoor.Flt

set_option linter.unusedVariables false

/-- Need, whether so or not. -/
def needS (b : Bool) (t : St) (k a : Int) : St := if b then t else failS t k a
theorem ok_need {t : St} (h : Ok t) (b : Bool) (k a : Int) : Ok (needS b t k a) := by
  unfold needS; split
  · exact h
  · exact ok_fail h k a
theorem Just.poke {g : Nat} {a w : World} (h : Just g a w) (b o : Nat) (v : Value) (hb : a.heap.size ≤ b) : Just g a (w.setCell ⟨b, o, none⟩ v) := by
  have x := (Below.refl 0 w).setCell (p := ⟨b, o, none⟩) (Nat.zero_le _) v
  exact ⟨x.os.trans h.os, x.tape.trans h.tape, x.output.trans h.output, Nat.le_trans h.size x.size, fun k hk hg => (heap_setCell_other w _ k v (by show k ≠ b; omega)).trans (h.block k hk hg)⟩
theorem Just.pokeRow {g : Nat} {a w : World} (h : Just g a w) (b : Nat) (cs : Array Value) (hb : a.heap.size ≤ b) : Just g a (w.setRow b cs) :=
  ⟨h.os, h.tape, h.output, by have := h.size; simpa using this, fun k hk hg => (setRow_other _ _ _ _ (by omega)).trans (h.block k hk hg)⟩
theorem wrap_ne {w : World} {b : Nat} {cs cs' : Array Value} {T : TypeId} {fr : Nat × Nat} (hb : w.heap[b]? = some (.cells cs T fr)) (h2 : T ≠ 79) {k : Nat} (hk : w.heap[k]? = some (.cells cs' 79 (0, 0))) : k ≠ b := by
  rintro rfl
  rw [hb] at hk
  simp only [Option.some.injEq, Obj.cells.injEq] at hk
  exact h2 hk.2.1
end Go.Proofs.YtpjillclladjaaaDoor.Rdr
