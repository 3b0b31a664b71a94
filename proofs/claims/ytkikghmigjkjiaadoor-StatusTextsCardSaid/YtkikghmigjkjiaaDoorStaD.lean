
/- A status out of bytes: what package status' Get reads, and that its bytes are those. Condition: the variables hold what the program lays there; the text takes no more than what the model lets a text take. -/

import Derived.Test.YtkikghmigjkjiaaDoorStaB

namespace Go.Proofs.YtkikghmigjkjiaaDoor.Sta

open Go.RowKit Go.PlainAid Go.Proofs.YtkikghmigjkjiaaDoor.Oct Go.Proofs.YtkikghmigjkjiaaDoor.Flt Go.Proofs.YtkikghmigjkjiaaDoor.Byt

set_option linter.unusedVariables false

set_option linter.unusedSimpArgs false

theorem low_snoc (v b : Nat) (hb : b < 256) : ∀ n, low (256 * v + b) (n + 1) = low v n ++ [(b : Int)]
  | 0 => by simp [low]; omega
  | n + 1 => by
    rw [low, low_snoc v b hb n, low]
    have e : (256 * v + b) / 256 ^ (n + 1) = v / 256 ^ n := by
      rw [Nat.pow_succ, Nat.mul_comm (256 ^ n) 256, ← Nat.div_div_eq_div_mul]
      congr 1
      omega
    rw [e]
    rfl
def byL (s : ByteArray) : List Int := s.data.toList.map fun b => (b.toNat : Int)
theorem byL_len (s : ByteArray) : (byL s).length = s.size := by unfold byL; rw [List.length_map, Array.length_toList]; rfl
theorem byL_at (s : ByteArray) (k : Nat) (h : k < s.size) : (byL s)[k]'(by rw [byL_len]; exact h) = bt s k := by
  unfold byL bt
  rw [dif_pos h]
  simp only [List.getElem_map, Array.getElem_toList]
  rfl
theorem byL_range (s : ByteArray) : ∀ x ∈ byL s, 0 ≤ x ∧ x ≤ 255 := by
  intro x hx
  unfold byL at hx
  obtain ⟨b, _, rfl⟩ := List.mem_map.1 hx
  have := b.toNat_lt
  omega
theorem str_byL (s : ByteArray) : strOfNums (byL s) = s := by
  have h : ∀ k, k < s.size → bt (strOfNums (byL s)) k = bt s k := by
    intro k hk
    rw [bt_strOf _ k (by rw [byL_len]; exact hk) (byL_range s)]
    exact byL_at s k hk
  have hs : (strOfNums (byL s)).size = s.size := by rw [strOfNums_size, byL_len]
  apply ByteArray.ext
  apply Array.ext
  · exact hs
  · intro i h1 h2
    have h3 := h i h2
    unfold bt at h3
    rw [dif_pos (show i < (strOfNums (byL s)).size from h1), dif_pos (show i < s.size from h2)] at h3
    have h4 : ((strOfNums (byL s))[i]'h1).toNat = (s[i]'h2).toNat := by omega
    exact UInt8.toNat_inj.1 h4
theorem low_get (s : ByteArray) (p : Nat) : ∀ n, p + n ≤ s.size → low (getN s p n) n = ((byL s).drop p).take n
  | 0, _ => by simp [low]
  | n + 1, h => by
    have ih := low_get s p n (by omega)
    have hb : (bt s (p + n)).toNat < 256 := by have := bt_toNat_le s (p + n); omega
    rw [getN, low_snoc _ _ hb, ih, List.take_add_one, List.getElem?_drop, List.getElem?_eq_getElem (by rw [byL_len]; omega), byL_at s (p + n) (by omega)]
    have := bt_nonneg s (p + n)
    simp
    omega
/-- What is read of bytes has just these bytes. -/
theorem st_bytes (s : ByteArray) (h : s.size = 16) : strOfNums (stB (getN s 0 8) (getN s 8 4) (getN s 12 4)) = s := by
  have hl : (byL s).length = 16 := by rw [byL_len, h]
  unfold stB
  rw [low_get s 0 8 (by omega), low_get s 8 4 (by omega), low_get s 12 4 (by omega)]
  have e : (byL s).drop 0 = byL s := rfl
  rw [e]
  have e2 : (byL s).take 8 ++ ((byL s).drop 8).take 4 = (byL s).take 12 := (List.take_add (l := byL s) (i := 8) (j := 4)).symm
  have e3 : (byL s).take 12 ++ ((byL s).drop 12).take 4 = (byL s).take 16 := (List.take_add (l := byL s) (i := 12) (j := 4)).symm
  rw [e2, e3, List.take_of_length_le (by omega), str_byL]
theorem getN_same (s s' : ByteArray) (p q : Nat) : ∀ n, (∀ j, j < n → bt s (p + j) = bt s' (q + j)) → getN s p n = getN s' q n
  | 0, _ => rfl
  | n + 1, h => by
    have h1 := getN_same s s' p q n (fun j hj => h j (by omega))
    have h2 := h n (by omega)
    rw [getN, getN, h1, h2]
theorem bt_mid (pre a post : List Int) (j : Nat) (hj : j < a.length) (h1 : ∀ x ∈ pre, 0 ≤ x ∧ x ≤ 255) (h2 : ∀ x ∈ a, 0 ≤ x ∧ x ≤ 255) (h3 : ∀ x ∈ post, 0 ≤ x ∧ x ≤ 255) : bt (strOfNums (pre ++ a ++ post)) (pre.length + j) = bt (strOfNums a) j := by
  rw [bt_strOf _ _ (by simp; omega) (by intro x hx; simp at hx; rcases hx with h | h | h; exact h1 x h; exact h2 x h; exact h3 x h), bt_strOf a j hj h2]
  rw [List.getElem_append_left (by simp; omega), List.getElem_append_right (by omega)]
  congr 1
  omega
theorem get_mid (pre post : List Int) (v n : Nat) (hv : v < 256 ^ n) (h1 : ∀ x ∈ pre, 0 ≤ x ∧ x ≤ 255) (h3 : ∀ x ∈ post, 0 ≤ x ∧ x ≤ 255) : getN (strOfNums (pre ++ low v n ++ post)) pre.length n = v := by
  have e := getN_same (strOfNums (pre ++ low v n ++ post)) (strOfNums (low v n)) pre.length 0 n (fun j hj => by rw [Nat.zero_add]; exact bt_mid pre (low v n) post j (by rw [low_length]; exact hj) h1 (low_range v n) h3)
  rw [e]
  have := getN_low [] v n (by simp)
  rw [List.nil_append, List.length_nil, Nat.mod_eq_of_lt hv] at this
  exact this
/-- What is laid is got again. -/
theorem st_back (l c n : Nat) (hl : l ≤ 18446744073709551615) (hc : c ≤ 4294967295) (hn : n ≤ 4294967295) (M : ByteArray) (hM : strOfNums (stB l c n) = M) : getN M 0 8 = l ∧ getN M 8 4 = c ∧ getN M 12 4 = n := by
  subst hM
  have r1 := low_range l 8
  have r2 := low_range c 4
  have r3 := low_range n 4
  unfold stB
  refine ⟨?_, ?_, ?_⟩
  · have := get_mid [] (low c 4 ++ low n 4) l 8 (by omega) (by simp) (by intro x hx; simp at hx; rcases hx with h | h; exact r2 x h; exact r3 x h)
    simpa using this
  · have := get_mid (low l 8) (low n 4) c 4 (by omega) r1 r3
    rw [low_length] at this
    exact this
  · have := get_mid (low l 8 ++ low c 4) [] n 4 (by omega) (by intro x hx; simp at hx; rcases hx with h | h; exact r1 x h; exact r2 x h) (by simp)
    rw [List.length_append, low_length, low_length, List.append_nil] at this
    exact this
theorem size_st : (Tryd.prog.info? 25).map (·.size) = some 3 := by kernel_rfl
theorem one_st (l c n : Int) : (#[Value.int .u64 l, .int .i64 c, .int .i64 n] : Array Value).all (·.oneCell') = true := by simp [Value.oneCell']
theorem results_row_tmpS {P : Program} {fn : Func} {p u : Tmp} {ty : TypeId} (h : fn.results = #[.cell p ty, .tmp u]) (tmps : Array Value) (w : World) (g : Nat) (t : TypeId) (cs : Array Value) (fr : Nat × Nat) (d : TypeDesc)
    (hp : tmps.getD p undef = .pointer (some ⟨g, 0, none⟩)) (hg : w.heap[g]? = some (.cells cs t fr))
    (hu : P.underlying ty = some d) (hd : (match d with | .struct _ | .array _ _ => true | _ => false) = true) (hi : (P.info? ty).map (·.size) = some cs.size) :
    (results fn tmps).run P w = .ok (.tuple #[.agg cs, tmps.getD u undef]) w := by
  have hp' : tmps[p]?.getD undef = .pointer (some ⟨g, 0, none⟩) := by simpa using hp
  simp [results, h, hp', asAddr, run_loadVar_row w g t ty cs fr d hg hu hd hi]
theorem below_put {w w' : World} (b : Below w.heap.size w w') (cs : Array Value) : Below w.heap.size w (w'.setRow w.heap.size cs) :=
  b.trans ⟨rfl, rfl, rfl, by simp, fun k hk => setRow_other _ _ _ _ (by omega)⟩
/-- Too few, or too many, bytes. -/
def GNo (k : Nat) (a : Int) (w : World) (e : Ending) (w' : World) : Prop := ∃ x, e = .returned (.tuple #[.agg #[.int .u64 0, .int .i64 0, .int .i64 0], x]) ∧ IsFault w' x [(false, a)] (k : Nat) ∧ Below w.heap.size w w'
theorem fault_row {w : World} {g : Nat} {cs old : Array Value} {x : Value} {ws : List (Bool × Int)} {k : Int} (hg : w.heap[g]? = some (.cells old 25 (0, 0))) (h : IsFault w x ws k) : IsFault (w.setRow g cs) x ws k := by
  refine IsFault.only (w := w) (fun b cs' hb => ?_) h
  exact setRow_other _ _ _ _ (by rintro rfl; rw [hg] at hb; injection hb with hb; injection hb with _ h2; revert h2; decide)
set_option maxRecDepth 8000 in
set_option maxHeartbeats 1600000 in
theorem sget_short (s : ByteArray) (h : s.size < 16) (w : World) (hn : Names w) : Calls Tryd.prog 10 #[.string s] w (GNo 2 s.size w) := by
  have t1 : decide ((s.size : Int) < 16) = true := decide_eq_true (by omega)
  have t2 : decide (s.size < 16) = true := decide_eq_true h
  have hb0 : Below w.heap.size w (w.alloc (.cells #[.int .u64 0, .int .i64 0, .int .i64 0] 25)) := (Below.refl _ _).alloc (Nat.le_refl _) _
  have hr0 := heap_alloc_new w (.cells #[.int .u64 0, .int .i64 0, .int .i64 0] 25)
  have HN := Lib.hid (hn.kept hb0)
  have HB0 := Lib.hid hb0
  have HR0 := Lib.hid hr0
  have HSIZ := Lib.hid size_st
  clear hb0 hr0 hn h
  go_enter Tryd.func10, Tryd.ntmps10
  go_wp2_with (first
    | (go_at_call 18; refine (new_yes 2 (by omega) (by omega) _ HN.out).mono ?_; rintro e w' ⟨rfl, rfl⟩)
    | (go_at_call 17; refine (at_any (s.size : Int) _ [] 2 _ rfl).mono ?_; rintro e w3 ⟨y, rfl, hy, hb3⟩; have HY := Lib.hid hy; have HB3 := Lib.hid (HB0.out.trans (hb3.mono HB0.out.size)); have HR3 := Lib.hid ((hb3.block _ (lt_of_block HR0.out)).trans HR0.out); clear hy hb3)
    | ((with_reducible show wpList _ _ _ _ _ _); refine wpList_store_row rfl 25 (.tmp 2) (.tmp 16) rfl w.heap.size #[.int .u64 0, .int .i64 0, .int .i64 0] rfl rfl 25 #[.int .u64 0, .int .i64 0, .int .i64 0] HR3.out (by rw [HSIZ.out]; rfl) rfl (one_st _ _ _) ?_))
  refine bodyPost_ret (v := .tuple #[.agg #[.int .u64 0, .int .i64 0, .int .i64 0], y]) (results_row_tmpS Tryd.results10 _ _ w.heap.size 25 _ (0, 0) _ rfl (setRow_heap _ _ _ _ _ _ HR3.out) Tryd.underlying25 rfl (by rw [size_st]; rfl)) rfl ⟨y, rfl, fault_row HR3.out HY.out, below_put HB3.out _⟩
set_option maxRecDepth 8000 in
set_option maxHeartbeats 1600000 in
theorem sget_long (s : ByteArray) (h : 16 < s.size) (w : World) (hn : Names w) : Calls Tryd.prog 10 #[.string s] w (GNo 4 16 w) := by
  have t1 : decide ((s.size : Int) < 16) = false := decide_eq_false (by omega)
  have t2 : decide (s.size < 16) = false := decide_eq_false (by omega)
  have t3 : decide (16 < (s.size : Int)) = true := decide_eq_true (by omega)
  have t4 : decide (16 < s.size) = true := decide_eq_true h
  have hb0 : Below w.heap.size w (w.alloc (.cells #[.int .u64 0, .int .i64 0, .int .i64 0] 25)) := (Below.refl _ _).alloc (Nat.le_refl _) _
  have hr0 := heap_alloc_new w (.cells #[.int .u64 0, .int .i64 0, .int .i64 0] 25)
  have HN := Lib.hid (hn.kept hb0)
  have HB0 := Lib.hid hb0
  have HR0 := Lib.hid hr0
  have HSIZ := Lib.hid size_st
  clear hb0 hr0 hn h
  go_enter Tryd.func10, Tryd.ntmps10
  go_wp2_with (first
    | (go_at_call 18; refine (new_yes 4 (by omega) (by omega) _ HN.out).mono ?_; rintro e w' ⟨rfl, rfl⟩)
    | (go_at_call 17; refine (at_any 16 _ [] 4 _ rfl).mono ?_; rintro e w3 ⟨y, rfl, hy, hb3⟩; have HY := Lib.hid hy; have HB3 := Lib.hid (HB0.out.trans (hb3.mono HB0.out.size)); have HR3 := Lib.hid ((hb3.block _ (lt_of_block HR0.out)).trans HR0.out); clear hy hb3)
    | ((with_reducible show wpList _ _ _ _ _ _); refine wpList_store_row rfl 25 (.tmp 2) (.tmp 23) rfl w.heap.size #[.int .u64 0, .int .i64 0, .int .i64 0] rfl rfl 25 #[.int .u64 0, .int .i64 0, .int .i64 0] HR3.out (by rw [HSIZ.out]; rfl) rfl (one_st _ _ _) ?_))
  refine bodyPost_ret (v := .tuple #[.agg #[.int .u64 0, .int .i64 0, .int .i64 0], y]) (results_row_tmpS Tryd.results10 _ _ w.heap.size 25 _ (0, 0) _ rfl (setRow_heap _ _ _ _ _ _ HR3.out) Tryd.underlying25 rfl (by rw [size_st]; rfl)) rfl ⟨y, rfl, fault_row HR3.out HY.out, below_put HB3.out _⟩
set_option maxRecDepth 8000 in
set_option maxHeartbeats 1600000 in
theorem sget_yes (s : ByteArray) (h : s.size = 16) (w : World) : Calls Tryd.prog 10 #[.string s] w fun e w' => e = .returned (.tuple #[.agg #[.int .u64 (getN s 0 8 : Nat), .int .i64 (getN s 8 4 : Nat), .int .i64 (getN s 12 4 : Nat)], .nilIface]) ∧ Below w.heap.size w w' := by
  have hg : ∀ (p n : Nat) (w : World), (n = 1 ∨ n = 2 ∨ n = 4 ∨ n = 8) → p + n ≤ 16 → Calls Tryd.prog 23 #[.string s, .int .i64 p, .int .i64 n] w fun e w' => e = .returned (.tuple #[.int .u64 (getN s p n : Nat), .bool true]) ∧ w = w' := by
    intro p n w hn hp
    have hx := get_any s p n (by omega) (by rw [h]; unfold maxLen; omega) w
    have hb : getB s p n = true := by
      unfold getB sizeB
      rw [h]
      rcases hn with rfl | rfl | rfl | rfl <;> (simp; omega)
    have hv : getV s p n = (getN s p n : Nat) := by
      unfold getV
      rw [if_pos hb]
      simp
    rw [hb, hv] at hx
    exact hx
  have H1 : Hid (∀ w, Calls Tryd.prog 23 #[.string s, .int .i64 0, .int .i64 8] w fun e w' => e = .returned (.tuple #[.int .u64 (getN s 0 8 : Nat), .bool true]) ∧ w = w') := fun w => hg 0 8 w (by omega) (by omega)
  have H2 : Hid (∀ w, Calls Tryd.prog 23 #[.string s, .int .i64 8, .int .i64 4] w fun e w' => e = .returned (.tuple #[.int .u64 (getN s 8 4 : Nat), .bool true]) ∧ w = w') := fun w => hg 8 4 w (by omega) (by omega)
  have H3 : Hid (∀ w, Calls Tryd.prog 23 #[.string s, .int .i64 12, .int .i64 4] w fun e w' => e = .returned (.tuple #[.int .u64 (getN s 12 4 : Nat), .bool true]) ∧ w = w') := fun w => hg 12 4 w (by omega) (by omega)
  have b2 := getN_lt s 8 4
  have b3 := getN_lt s 12 4
  obtain ⟨l, hl⟩ : ∃ l, getN s 0 8 = l := ⟨_, rfl⟩
  obtain ⟨c, hc⟩ : ∃ l, getN s 8 4 = l := ⟨_, rfl⟩
  obtain ⟨n, hn⟩ : ∃ l, getN s 12 4 = l := ⟨_, rfl⟩
  rw [hl] at H1 ⊢
  rw [hc] at H2 b2 ⊢
  rw [hn] at H3 b3 ⊢
  have w2 : IntKind.i64.wrap (c : Int) = c := IntWalk.i64_in _ (by omega)
  have w3 : IntKind.i64.wrap (n : Int) = n := IntWalk.i64_in _ (by omega)
  have hb0 : Below w.heap.size w (w.alloc (.cells #[.int .u64 0, .int .i64 0, .int .i64 0] 25)) := (Below.refl _ _).alloc (Nat.le_refl _) _
  have hr0 := heap_alloc_new w (.cells #[.int .u64 0, .int .i64 0, .int .i64 0] 25)
  have HB0 := Lib.hid hb0
  have HR0 := Lib.hid hr0
  have HSIZ := Lib.hid size_st
  have t0 : (s.size : Int) = 16 := by omega
  clear hb0 hr0 hl hc hn hg b2 b3
  go_enter Tryd.func10, Tryd.ntmps10
  go_wp2_with (first
    | (go_at_call 23; (first
      | (with_reducible refine (H1.out _).mono ?_)
      | (with_reducible refine (H2.out _).mono ?_)
      | (with_reducible refine (H3.out _).mono ?_)); rintro e w' ⟨rfl, rfl⟩)
    | ((with_reducible show wpList _ _ _ _ _ _); refine wpList_store_row rfl 25 (.tmp 2) (.tmp 46) rfl w.heap.size #[.int .u64 l, .int .i64 c, .int .i64 n] rfl rfl 25 #[.int .u64 0, .int .i64 0, .int .i64 0] HR0.out (by rw [HSIZ.out]; rfl) rfl (one_st _ _ _) ?_))
  refine bodyPost_ret (v := .tuple #[.agg #[.int .u64 l, .int .i64 c, .int .i64 n], .nilIface]) (results_row_tmpS Tryd.results10 _ _ w.heap.size 25 _ (0, 0) _ rfl (setRow_heap _ _ _ _ _ _ HR0.out) Tryd.underlying25 rfl (by rw [size_st]; rfl)) rfl ⟨rfl, below_put HB0.out _⟩
end Go.Proofs.YtkikghmigjkjiaaDoor.Sta
