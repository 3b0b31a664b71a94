
/- What package octet's Put returns: bytes in memory of its own, those that came in and the number's behind them, where it fits; nothing that was there has changed. Condition: at most 2 to the power 40 bytes come in. -/

import Derived.Test.YtilkicbokfgjlaaDoorOctA

import Derived.Laws.CopyOwn

namespace Go.Proofs.YtilkicbokfgjlaaDoor.Oct

open Go.RowKit Go.PlainAid

/-- 'make([]T, m, n)' with cells of one place each. -/
theorem wpList_make_lc {P : Program} (w : World) {ops : Array Oper} {rest : List Oper} {o : Oper} {a : Act} {Q : Exit → Act → World → Prop}
    (hg : o.guard = none) (l c : Operand) (t : TypeId) (hop : o.op = Op.makeSlice t l c)
    (e : TypeId) (i : TypeInfo) (z : Value) (h1 : P.underlying t = some (.slice e)) (h2 : P.info? e = some i) (h3 : i.zero = some z) (h4 : i.size = 1) (hz : z.cells = #[z])
    (kl kc : IntKind) (L C : Int) (m n : Nat) (hl : a.eval l = .int kl L) (hc : a.eval c = .int kc C) (hL : L = (m : Int)) (hC : C = (n : Int)) (hmn : m ≤ n) (b2 : i.bytes * n ≤ 281474976710656) (b3 : n ≤ 9223372036854775807)
    (hK : ∀ w' cur, Hid (cur = List.replicate n z) → Hid (w'.heap[w.heap.size]? = some (.cells cur.toArray e (0, 0))) → Below w.heap.size w w' → wpList P ops Q rest (a.put o.dst (.slice (some ⟨w.heap.size, 0, none⟩) m n)) w') :
    wpList P ops Q (o :: rest) a w := by
  refine wpList_plain hg fun K hK' => ?_
  have hb' : (i.bytes : Int) * (n : Int) ≤ 281474976710656 := by
    have h : ((i.bytes * n : Nat) : Int) ≤ 281474976710656 := by omega
    rwa [Int.natCast_mul] at h
  have hrun := run_make (P := P) w t e i z h1 h2 h3 kl kc m n (by omega) (by omega) hb' (by omega)
  simp only [Int.toNat_natCast, h4, Nat.mul_one, hz] at hrun
  subst hL
  subst hC
  unfold Oper.wp
  simp [execOp, hop, hl, hc, hrun, Result.andThen]
  refine hK' _ _ (hK _ _ rfl ?_ ((Below.refl _ _).alloc (Nat.le_refl _) _))
  show _ = _
  have e1 : madeCells #[z] n = (List.replicate n z).toArray := by
    apply Array.toList_inj.1; rw [toList_madeCells_one]
  rw [e1]
  exact heap_alloc_new _ _

theorem underU8 : Tryd.prog.underlying 56 = some (.slice 5) := Tryd.underlying56
theorem infoU8 : (Tryd.prog.info? 5).map (fun i => (i.zero, i.size, i.bytes)) = some (some (.int .u8 0), 1, 1) := by kernel_rfl
theorem sizeU8 : (Tryd.prog.info? 5).map (·.size) = some 1 := by kernel_rfl

/-- A slice of bytes that reads as xs. -/
def IsBytes (w : World) (A : Option Addr) (n : Nat) (xs : List Int) : Prop :=
  xs.length = n ∧ (0 < n → ∃ ad, A = some ad ∧ ∀ j v, (xs.map (Value.int .u8))[j]? = some v → w.cell? (ad.add j) = some v)

theorem shift_run (v n k m : Nat) (hk : k < n) (hm : 8 * (n : Int) - 8 * k - 8 = (m : Int)) : IntKind.u8.wrap ((v : Int) / 2 ^ m) = ((v / 256 ^ (n - 1 - k) % 256 : Nat) : Int) := by
  have e : m = 8 * (n - 1 - k) := by omega
  subst e
  rw [IntKind.wrap_u8']
  have e2 : (2 : Nat) ^ (8 * (n - 1 - k)) = 256 ^ (n - 1 - k) := by rw [Nat.pow_mul]
  have e3 : (v : Int) / 2 ^ (8 * (n - 1 - k)) = ((v / 2 ^ (8 * (n - 1 - k)) : Nat) : Int) := by rw [Int.natCast_ediv]; simp
  rw [e3, e2]
  omega

theorem cell_lt {w : World} {a : Addr} {v : Value} (h : w.cell? a = some v) : a.block < w.heap.size := by
  rcases Nat.lt_or_ge a.block w.heap.size with hlt | hge
  · exact hlt
  · simp [World.cell?, Array.getElem?_eq_none hge] at h

/-- What Put hands back. -/
def PutPost (w : World) (xs : List Int) (r : Bool) (ys : List Int) (e : Ending) (w' : World) : Prop :=
  ∃ n cap : Nat, e = .returned (.tuple #[.slice (some ⟨w.heap.size, 0, none⟩) n cap, .bool r]) ∧ w'.ownsRow w.heap.size 5 1 (.slice (some ⟨w.heap.size, 0, none⟩) n cap) n ((xs ++ ys).map (Value.int .u8)) ∧ Below w.heap.size w w'

theorem owns_block {w : World} {B n c : Nat} {cs : List Value} (h : w.heap[B]? = some (.cells cs.toArray 5 (0, 0))) (hn : n ≤ c) (hc : cs.length = c) (hm : c ≤ maxLen) :
    w.ownsRow B 5 1 (.slice (some ⟨B, 0, none⟩) n c) n (cs.take n) :=
  ⟨by simp; omega, .inr ⟨B, c, cs.toArray, rfl, Nat.le_refl _, h, hn, hm, by simpa using hc, by simp⟩⟩

set_option maxHeartbeats 800000 in
theorem put_yes (A : Option Addr) (len cap : Nat) (xs : List Int) (v n : Nat) (w : World) (hx : IsBytes w A len xs) (hl : len ≤ 1099511627776) (hv : v ≤ 18446744073709551615) (hf : fitB v n = true) :
    Calls Tryd.prog 20 #[.slice A len cap, .int .u64 v, .int .i64 n] w (PutPost w xs true (low v n)) := by
  obtain ⟨n', hn', hn1, hn8, hw⟩ := size_nat (fit_size hf)
  obtain rfl : n = n' := by omega
  clear hn'
  obtain ⟨i0, hi, hz0, hz1, hz2⟩ := info_parts infoU8
  have hxl := Lib.hid hx.1
  obtain ⟨cs, hcs⟩ : ∃ cs, cs = xs.map (Value.int .u8) := ⟨_, rfl⟩
  have hcl : cs.length = len := by rw [hcs, List.length_map]; exact hx.1
  have HCL := Lib.hid hcl
  have hsrc := Lib.hid hx.2
  rw [← hcs] at hsrc
  have HCS := Lib.hid hcs
  clear hcs hx hcl
  go_enter Tryd.func20, Tryd.ntmps20
  go_wp2_with (first | (at_make; refine wpList_make_lc _ rfl _ _ 56 rfl 5 i0 (.int .u8 0) underU8 hi hz0 hz1 rfl _ _ _ _ len (len + 8) rfl rfl ?c1 ?c2 ?c3 ?c4 ?c5 ?_) | fail)
  case c1 => rfl
  case c2 => omega
  case c3 => omega
  case c4 => rw [hz2]; omega
  case c5 => omega
  intro w1 cur hcur hb1 bel1
  have hcurl : Hid (cur.length = len + 8) := by show _ = _; rw [hcur.out, List.length_replicate]
  have hone : ∀ u ∈ cs, u.oneCell' = true := by rw [HCS.out]; exact ints_oneCell _ _
  have hsrc1 : Hid (0 < len → ∃ ad, A = some ad ∧ ∀ j v, cs[j]? = some v → w1.cell? (ad.add j) = some v) := by
    intro h
    obtain ⟨ad, e1, e2⟩ := hsrc.out h
    refine ⟨ad, e1, fun j v hj => ?_⟩
    have := e2 j v hj
    rw [← this]
    exact bel1.cell (cell_lt (e2 j v hj))
  go_wp2_with ((with_reducible show wpList _ _ _ _ _ _); refine wpList_copy_splice rfl (.tmp 16) (.tmp 17) 56 56 rfl 5 underU8 sizeU8 _ _ _ _ _ _ rfl rfl w.heap.size 0 cur 5 hb1.out cs ?d1 ?d2 ?d3 hone w.heap.size w bel1 (Nat.le_refl _) ?_)
  case d1 => rw [HCL.out]; simp
  case d2 => intro h; rw [HCL.out] at h; simpa using hsrc1.out h
  case d3 => rw [HCL.out, hcurl.out]; omega
  intro w2 hb2 bel2
  have hlen2 : Hid ((splice cur 0 cs).length = len + 8) := by show _ = _; rw [length_splice _ _ _ (by rw [HCL.out, hcurl.out]; omega)]; exact hcurl.out
  have htake : Hid ((splice cur 0 cs).take len = xs.map (Value.int .u8)) := by
    show _ = _
    rw [← HCS.out, splice]
    simp [HCL.out]
  have own2 := owns_block hb2.out (show len ≤ len + 8 by omega) hlen2.out (by unfold maxLen; omega)
  rw [htake.out] at own2
  clear hb1 hb2 hsrc hsrc1 hcur
  go_wp2_with (first | (go_at_call 31; refine (fits_any _ _ hv _).mono ?_; rw [hf]; rintro e w' ⟨rfl, rfl⟩) | (go_at_call 32; refine (width_at hw _).mono ?_; rintro e w' ⟨rfl, rfl⟩))
  go_loopw [8, 9] (fun r i wr => ∃ k : Nat, k ≤ n ∧ i = .int .i64 (8 * (n : Int) - 8 * k - 8) ∧ r = .slice (some ⟨w.heap.size, 0, none⟩) (len + k) (len + 8) ∧ wr.ownsRow w.heap.size 5 1 (.slice (some ⟨w.heap.size, 0, none⟩) (len + k) (len + 8)) (len + k) ((xs ++ front v n k).map (Value.int .u8)) ∧ Below w.heap.size w wr)
    (fun _ i _ => (intOf i + 8).toNat)
  case atStart => exact ⟨0, Nat.zero_le _, by go_num, rfl, by simpa [front] using own2, bel2⟩
  case round =>
    obtain ⟨k, hk, rfl, rfl, hown, hbel⟩ := hrel
    by_cases hlt : k < n
    · obtain ⟨m, hm⟩ : ∃ m : Nat, 8 * (n : Int) - 8 * k - 8 = (m : Int) := ⟨8 * (n - 1 - k), by omega⟩
      have hb := shift_run v n k m hlt hm
      obtain ⟨b, hbb⟩ : ∃ b : Int, b = ((v / 256 ^ (n - 1 - k) % 256 : Nat) : Int) := ⟨_, rfl⟩
      rw [← hbb] at hb
      have HB := Lib.hid hbb
      have HM := Lib.hid hm
      have hm56 : m ≤ 56 := by omega
      rw [hm]
      clear hbb hm hf hw own2 bel2 hcurl hlen2 htake hone bel1
      go_wp2_with (at_builtin; refine wpList_append_fits _ rfl _ _ 56 rfl w.heap.size 5 i0 1 underU8 hi hz1 w.heap.size (len + k) (len + 8) _ rfl (hown.alloc _) ⟨wr.heap.size, 0, none⟩ 1 1 [.int .u8 b] rfl rfl ?f1 ?f2 ?f3 ?_)
      case f1 =>
        intro j u hj
        match j, hj with
        | 0, hj => simp at hj; subst hj; simp [Addr.add]
      case f2 => intro u hu; simp at hu; subst hu; rfl
      case f3 => omega
      intro w4 hown4 hg4
      have hbel4 : Below w.heap.size w w4 := (hbel.alloc hbel.size _).grown hg4 (by have := hbel.size; simp; omega) (by intro g hg; injection hg with hg; omega)
      have HO : Hid (w4.ownsRow w.heap.size 5 1 (.slice (some ⟨w.heap.size, 0, none⟩) (len + (k + 1)) (len + 8)) (len + (k + 1)) ((xs ++ front v n (k + 1)).map (Value.int .u8))) := by
        show World.ownsRow _ _ _ _ _ _ _
        rw [front, ← HB.out]
        simpa [Nat.add_assoc] using hown4
      clear hown hbel hown4 hg4
      go_wp2
      go_roundw
      case rel => exact ⟨k + 1, by omega, by have := HM.out; go_num, rfl, HO.out, hbel4⟩
      case measure => simp [intOf]; omega
    · obtain rfl : k = n := by omega
      clear hf hw own2 bel2 hcurl hlen2 htake hone bel1
      go_wp2
      go_ret2
      exact ⟨_, _, rfl, by rw [← front_all]; exact hown, hbel⟩

set_option maxHeartbeats 800000 in
theorem put_no (A : Option Addr) (len cap : Nat) (xs : List Int) (v : Nat) (n : Int) (w : World) (hx : IsBytes w A len xs) (hl : len ≤ 1099511627776) (hv : v ≤ 18446744073709551615) (hf : fitB v n = false) :
    Calls Tryd.prog 20 #[.slice A len cap, .int .u64 v, .int .i64 n] w (PutPost w xs false []) := by
  obtain ⟨i0, hi, hz0, hz1, hz2⟩ := info_parts infoU8
  have hxl := Lib.hid hx.1
  obtain ⟨cs, hcs⟩ : ∃ cs, cs = xs.map (Value.int .u8) := ⟨_, rfl⟩
  have hcl : cs.length = len := by rw [hcs, List.length_map]; exact hx.1
  have HCL := Lib.hid hcl
  have hsrc := Lib.hid hx.2
  rw [← hcs] at hsrc
  have HCS := Lib.hid hcs
  clear hcs hx hcl
  go_enter Tryd.func20, Tryd.ntmps20
  go_wp2_with (first | (at_make; refine wpList_make_lc _ rfl _ _ 56 rfl 5 i0 (.int .u8 0) underU8 hi hz0 hz1 rfl _ _ _ _ len (len + 8) rfl rfl ?c1 ?c2 ?c3 ?c4 ?c5 ?_) | fail)
  case c1 => rfl
  case c2 => omega
  case c3 => omega
  case c4 => rw [hz2]; omega
  case c5 => omega
  intro w1 cur hcur hb1 bel1
  have hcurl : Hid (cur.length = len + 8) := by show _ = _; rw [hcur.out, List.length_replicate]
  have hone : ∀ u ∈ cs, u.oneCell' = true := by rw [HCS.out]; exact ints_oneCell _ _
  have hsrc1 : Hid (0 < len → ∃ ad, A = some ad ∧ ∀ j v, cs[j]? = some v → w1.cell? (ad.add j) = some v) := by
    intro h
    obtain ⟨ad, e1, e2⟩ := hsrc.out h
    refine ⟨ad, e1, fun j v hj => ?_⟩
    have := e2 j v hj
    rw [← this]
    exact bel1.cell (cell_lt (e2 j v hj))
  go_wp2_with ((with_reducible show wpList _ _ _ _ _ _); refine wpList_copy_splice rfl (.tmp 16) (.tmp 17) 56 56 rfl 5 underU8 sizeU8 _ _ _ _ _ _ rfl rfl w.heap.size 0 cur 5 hb1.out cs ?d1 ?d2 ?d3 hone w.heap.size w bel1 (Nat.le_refl _) ?_)
  case d1 => rw [HCL.out]; simp
  case d2 => intro h; rw [HCL.out] at h; simpa using hsrc1.out h
  case d3 => rw [HCL.out, hcurl.out]; omega
  intro w2 hb2 bel2
  have hlen2 : Hid ((splice cur 0 cs).length = len + 8) := by show _ = _; rw [length_splice _ _ _ (by rw [HCL.out, hcurl.out]; omega)]; exact hcurl.out
  have htake : Hid ((splice cur 0 cs).take len = xs.map (Value.int .u8)) := by
    show _ = _
    rw [← HCS.out, splice]
    simp [HCL.out]
  have own2 := owns_block hb2.out (show len ≤ len + 8 by omega) hlen2.out (by unfold maxLen; omega)
  rw [htake.out] at own2
  clear hb1 hb2 hsrc hsrc1 hcur
  go_wp2_with (go_at_call 31; refine (fits_any _ _ hv _).mono ?_; rw [hf]; rintro e w' ⟨rfl, rfl⟩)
  go_ret2
  exact ⟨_, _, rfl, by simpa using own2, bel2⟩

theorem put_any (A : Option Addr) (len cap : Nat) (xs : List Int) (v : Nat) (n : Int) (w : World) (hx : IsBytes w A len xs) (hl : len ≤ 1099511627776) (hv : v ≤ 18446744073709551615) :
    Calls Tryd.prog 20 #[.slice A len cap, .int .u64 v, .int .i64 n] w (PutPost w xs (fitB v n) (if fitB v n then low v n.toNat else [])) := by
  cases hf : fitB v n with
  | false => exact put_no A len cap xs v n w hx hl hv hf
  | true =>
    obtain ⟨k, rfl, h1, h8, hw⟩ := size_nat (fit_size hf)
    exact put_yes A len cap xs v k w hx hl hv hf

set_option maxRecDepth 4000 in
set_option maxHeartbeats 400000 in
/-- The document's bytes of a number. -/
theorem text_any (v n : Nat) (hn : n ≤ 8) (hv : v ≤ 18446744073709551615) (w : World) :
    Calls Tryd.prog 25 #[.int .u64 v, .int .i64 n] w fun e w' => e = .returned (.string (strOfNums (low v n))) ∧ Below w.heap.size w w' := by
  have hcv := fun (b : Int) (wx : World) (g : Nat) (h : wx.cell? ⟨g, 0, none⟩ = some (.int .u8 b)) => run_convert_bytes_arg (P := Tryd.prog) wx 56 5 underU8 rfl g 0 1 1 [b] rfl (by intro i hi; match i, hi with | 0, _ => simpa using h) 9 rfl
  go_enter Tryd.func25, Tryd.ntmps25
  go_wp2
  go_loopw [0, 5, 6] (fun x s i wr => ∃ k : Nat, k ≤ n ∧ i = .int .i64 k ∧ s = .string (strOfNums (low v k)) ∧ x = .int .u64 ((v / 256 ^ k : Nat) : Int) ∧ Below w.heap.size w wr)
    (fun _ _ i _ => n - (intOf i).toNat)
  case atStart => exact ⟨0, Nat.zero_le _, rfl, rfl, by simp, Below.refl _ _⟩
  case round =>
    obtain ⟨k, hk, rfl, rfl, rfl, hbel⟩ := hrel
    by_cases hlt : k < n
    · obtain ⟨q, hq⟩ : ∃ q : Nat, q = v / 256 ^ k := ⟨_, rfl⟩
      rw [← hq]
      have hql : q ≤ v := by rw [hq]; exact Nat.div_le_self _ _
      have HQ := Lib.hid hq
      have hcc := hcv ((q : Int) % 256) (wr.alloc (.cells #[.int .u8 ((q : Int) % 256)] 5)) wr.heap.size (by simp)
      have hsum : ¬ 9223372036854775807 < (strOfNums [(q : Int) % 256]).size + (strOfNums (low v k)).size := by rw [strOfNums_size, strOfNums_size, low_length]; simp; omega
      have HS : Hid (strOfNums [(q : Int) % 256] ++ strOfNums (low v k) = strOfNums (low v (k + 1))) := by
        show _ = _
        rw [low, ← hq, ← strOf_append]
        rfl
      have HQ2 : Hid (v / 256 ^ (k + 1) = q / 256) := by show _ = _; rw [hq, Nat.pow_succ, Nat.div_div_eq_div_mul]
      clear hq hcv
      go_wp2
      go_roundw
      case rel => exact ⟨k + 1, by omega, by go_num, by rw [HS.out], by rw [HQ2.out]; go_num, hbel.alloc hbel.size _⟩
      case measure => simp [intOf]; omega
    · obtain rfl : k = n := by omega
      clear hcv
      go_wp2
      go_ret
      exact ⟨rfl, hbel⟩
end Go.Proofs.YtilkicbokfgjlaaDoor.Oct
