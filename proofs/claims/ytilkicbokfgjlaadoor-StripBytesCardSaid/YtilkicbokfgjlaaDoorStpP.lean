
/- Strips as bytes, in plain words: what is put, what is got, and that one is the other's way back. It says nothing of the program. No condition. -/

import Derived.Test.YtilkicbokfgjlaaDoorStpM

import Derived.Test.YtilkicbokfgjlaaDoorOctM

namespace Go.Proofs.YtilkicbokfgjlaaDoor.Stp

open Go.RowKit Go.PlainAid Go.Proofs.YtilkicbokfgjlaaDoor.Oct

set_option linter.unusedVariables false

theorem low_snoc (v b : Nat) (hb : b < 256) : ∀ n, low (256 * v + b) (n + 1) = low v n ++ [(b : Int)]
  | 0 => by simp [low]; omega
  | n + 1 => by
    rw [low, low_snoc v b hb n, low]
    have e : (256 * v + b) / 256 ^ (n + 1) = v / 256 ^ n := by
      rw [Nat.pow_succ, Nat.mul_comm (256 ^ n) 256, ← Nat.div_div_eq_div_mul]
      congr 1
      omega
    rw [e]
    rfl
def byL (s : ByteArray) : List Int := s.data.toList.map fun b => (b.toNat : Int)
theorem byL_len (s : ByteArray) : (byL s).length = s.size := by unfold byL; rw [List.length_map, Array.length_toList]; rfl
theorem byL_at (s : ByteArray) (k : Nat) (h : k < s.size) : (byL s)[k]'(by rw [byL_len]; exact h) = bt s k := by
  unfold byL bt
  rw [dif_pos h]
  simp only [List.getElem_map, Array.getElem_toList]
  rfl
theorem byL_range (s : ByteArray) : ∀ x ∈ byL s, 0 ≤ x ∧ x ≤ 255 := by
  intro x hx
  unfold byL at hx
  obtain ⟨b, _, rfl⟩ := List.mem_map.1 hx
  have := b.toNat_lt
  omega
theorem str_byL (s : ByteArray) : strOfNums (byL s) = s := by
  have h : ∀ k, k < s.size → bt (strOfNums (byL s)) k = bt s k := by
    intro k hk
    rw [bt_strOf _ k (by rw [byL_len]; exact hk) (byL_range s)]
    exact byL_at s k hk
  have hs : (strOfNums (byL s)).size = s.size := by rw [strOfNums_size, byL_len]
  apply ByteArray.ext
  apply Array.ext
  · exact hs
  · intro i h1 h2
    have h3 := h i h2
    unfold bt at h3
    rw [dif_pos (show i < (strOfNums (byL s)).size from h1), dif_pos (show i < s.size from h2)] at h3
    have h4 : ((strOfNums (byL s))[i]'h1).toNat = (s[i]'h2).toNat := by omega
    exact UInt8.toNat_inj.1 h4
theorem low_get (s : ByteArray) (p : Nat) : ∀ n, p + n ≤ s.size → low (getN s p n) n = ((byL s).drop p).take n
  | 0, _ => by simp [low]
  | n + 1, h => by
    have ih := low_get s p n (by omega)
    have hb : (bt s (p + n)).toNat < 256 := by have := bt_toNat_le s (p + n); omega
    rw [getN, low_snoc _ _ hb, ih, List.take_add_one, List.getElem?_drop, List.getElem?_eq_getElem (by rw [byL_len]; omega), byL_at s (p + n) (by omega)]
    have := bt_nonneg s (p + n)
    simp
    omega
theorem getN_same (s s' : ByteArray) (p q : Nat) : ∀ n, (∀ j, j < n → bt s (p + j) = bt s' (q + j)) → getN s p n = getN s' q n
  | 0, _ => rfl
  | n + 1, h => by
    have h1 := getN_same s s' p q n (fun j hj => h j (by omega))
    have h2 := h n (by omega)
    rw [getN, getN, h1, h2]
theorem bt_mid (pre a post : List Int) (j : Nat) (hj : j < a.length) (h1 : ∀ x ∈ pre, 0 ≤ x ∧ x ≤ 255) (h2 : ∀ x ∈ a, 0 ≤ x ∧ x ≤ 255) (h3 : ∀ x ∈ post, 0 ≤ x ∧ x ≤ 255) : bt (strOfNums (pre ++ a ++ post)) (pre.length + j) = bt (strOfNums a) j := by
  rw [bt_strOf _ _ (by simp; omega) (by intro x hx; simp at hx; rcases hx with h | h | h; exact h1 x h; exact h2 x h; exact h3 x h), bt_strOf a j hj h2]
  rw [List.getElem_append_left (by simp; omega), List.getElem_append_right (by omega)]
  congr 1
  omega
theorem get_mid (pre post : List Int) (v n : Nat) (hv : v < 256 ^ n) (h1 : ∀ x ∈ pre, 0 ≤ x ∧ x ≤ 255) (h3 : ∀ x ∈ post, 0 ≤ x ∧ x ≤ 255) : getN (strOfNums (pre ++ low v n ++ post)) pre.length n = v := by
  have e := getN_same (strOfNums (pre ++ low v n ++ post)) (strOfNums (low v n)) pre.length 0 n (fun j hj => by rw [Nat.zero_add]; exact bt_mid pre (low v n) post j (by rw [low_length]; exact hj) h1 (low_range v n) h3)
  rw [e]
  have := getN_low [] v n (by simp)
  rw [List.nil_append, List.length_nil, Nat.mod_eq_of_lt hv] at this
  exact this
def rowB (x : RW) : List Int := low (x.i + 1).toNat 1 ++ low x.c.toNat 4
def bytesX (X : List RW) : List Int := X.flatMap rowB
def idB (x : RW) : Bool := decide (-1 ≤ x.i) && decide (x.i ≤ 254)
theorem idB_iff (x : RW) : idB x = true ↔ -1 ≤ x.i ∧ x.i ≤ 254 := by simp [idB]
theorem rowB_len (x : RW) : (rowB x).length = 5 := by simp [rowB, low_length]
theorem bytes_len (X : List RW) : (bytesX X).length = 5 * X.length := by
  induction X with
  | nil => rfl
  | cons x l ih =>
    have e : bytesX (x :: l) = rowB x ++ bytesX l := rfl
    rw [e, List.length_append, rowB_len, ih, List.length_cons]; omega
theorem bytes_app (X Y : List RW) : bytesX (X ++ Y) = bytesX X ++ bytesX Y := by simp [bytesX]
theorem bytes_snoc (X : List RW) (x : RW) : bytesX (X ++ [x]) = bytesX X ++ rowB x := by simp [bytesX]
theorem rowB_range (x : RW) : ∀ v ∈ rowB x, 0 ≤ v ∧ v ≤ 255 := by
  intro v hv
  rcases List.mem_append.1 hv with h | h
  · exact low_range _ _ v h
  · exact low_range _ _ v h
theorem bytes_range (X : List RW) : ∀ v ∈ bytesX X, 0 ≤ v ∧ v ≤ 255 := by
  intro v hv
  obtain ⟨x, _, hx⟩ := List.mem_flatMap.1 hv
  exact rowB_range x v hx
def gN (s : ByteArray) (p : Nat) : Nat := getN s (p + 1) 4
def gI (s : ByteArray) (p : Nat) : Int := (getN s p 1 : Int) - 1
def lastI (X : List RW) : Option Int := X.getLast?.map (·.i)
theorem last_nil : lastI [] = none := rfl
theorem last_snoc (X : List RW) (x : RW) : lastI (X ++ [x]) = some x.i := by simp [lastI]
/-- What is wrong with the row at a place of bytes, behind rows. -/
def gK (s : ByteArray) (p : Nat) (X : List RW) : Int :=
  if s.size < p + 5 then 2 else if gN s p = 0 ∨ lastI X = some (gI s p) then 6 else if okX X (gN s p : Int) then 0 else 8
def gX (s : ByteArray) (p : Nat) (X : List RW) : List RW := addX X (gI s p) (gN s p : Int)
def gS (s : ByteArray) : Nat → List RW
  | 0 => []
  | j + 1 => gX s (5 * j) (gS s j)
theorem gS_ok (s : ByteArray) : ∀ j, OkX (gS s j)
  | 0 => ok_nil
  | j + 1 => (gS_ok s j).add _ _
theorem gK_zero {s : ByteArray} {p : Nat} {X : List RW} (h : gK s p X = 0) : p + 5 ≤ s.size ∧ gN s p ≠ 0 ∧ lastI X ≠ some (gI s p) ∧ okX X (gN s p : Int) = true ∧ gX s p X = X ++ [⟨gI s p, (gN s p : Int)⟩] := by
  unfold gK at h
  by_cases h1 : s.size < p + 5
  · rw [if_pos h1] at h; omega
  rw [if_neg h1] at h
  by_cases h2 : gN s p = 0 ∨ lastI X = some (gI s p)
  · rw [if_pos h2] at h; omega
  rw [if_neg h2] at h
  cases h3 : okX X (gN s p : Int) with
  | false => rw [h3] at h; simp at h
  | true =>
    refine ⟨by omega, fun e => h2 (.inl e), fun e => h2 (.inr e), rfl, ?_⟩
    unfold gX
    rw [add_yes _ h3]
    rcases snoc_cases X with rfl | ⟨Y, y, rfl⟩
    · rw [join_nil _ _ (by have : gN s p ≠ 0 := fun e => h2 (.inl e); omega)]; rfl
    · rw [join_snoc _ _ _ _ (by have : gN s p ≠ 0 := fun e => h2 (.inl e); omega), if_neg (fun e => h2 (.inr (by rw [last_snoc, e])))]
/-- j rows are read; then the end has come, or the next is wrong. -/
def Ends (s : ByteArray) (j : Nat) : Prop := (∀ i, i < j → 5 * i < s.size ∧ gK s (5 * i) (gS s i) = 0) ∧ (s.size ≤ 5 * j ∨ gK s (5 * j) (gS s j) ≠ 0)
theorem ends_ex (s : ByteArray) : ∃ j, Ends s j := by
  have h : ∀ m, (∃ j, Ends s j) ∨ ∀ i, i < m → 5 * i < s.size ∧ gK s (5 * i) (gS s i) = 0 := by
    intro m
    induction m with
    | zero => exact .inr fun i hi => by omega
    | succ m ih =>
      rcases ih with h | h
      · exact .inl h
      · by_cases hm : 5 * m < s.size ∧ gK s (5 * m) (gS s m) = 0
        · refine .inr fun i hi => ?_
          rcases (show i < m ∨ i = m by omega) with e | rfl
          · exact h i e
          · exact hm
        · refine .inl ⟨m, h, ?_⟩
          rcases Nat.lt_or_ge (5 * m) s.size with h1 | h1
          · exact .inr fun e => hm ⟨h1, e⟩
          · exact .inl h1
  rcases h (s.size + 1) with h | h
  · exact h
  · have := (h s.size (by omega)).1
    omega
theorem gS_len (s : ByteArray) : ∀ j, (∀ i, i < j → 5 * i < s.size ∧ gK s (5 * i) (gS s i) = 0) → (gS s j).length = j
  | 0, _ => rfl
  | j + 1, h => by
    obtain ⟨_, _, _, _, e⟩ := gK_zero (h j (by omega)).2
    rw [gS, e, List.length_append, gS_len s j fun i hi => h i (by omega)]; rfl
theorem low_1 (v : Nat) (h : v < 256) : low v 1 = [(v : Int)] := by simp [low]; omega
theorem gS_bytes (s : ByteArray) : ∀ j, (∀ i, i < j → 5 * i < s.size ∧ gK s (5 * i) (gS s i) = 0) → bytesX (gS s j) = (byL s).take (5 * j) ∧ (∀ x ∈ gS s j, idB x = true) ∧ 5 * j ≤ s.size + 0
  | 0, _ => ⟨by simp [gS, bytesX], by simp [gS], by omega⟩
  | j + 1, h => by
    obtain ⟨ih1, ih2, ih3⟩ := gS_bytes s j fun i hi => h i (by omega)
    obtain ⟨h1, h2, h3, h4, e⟩ := gK_zero (h j (by omega)).2
    have hb := getN_lt s (5 * j) 1
    have hc := getN_lt s (5 * j + 1) 4
    rw [gS, e]
    refine ⟨?_, ?_, by omega⟩
    · rw [bytes_snoc, ih1]
      unfold rowB gI gN
      dsimp only
      rw [show ((getN s (5 * j) 1 : Int) - 1 + 1).toNat = getN s (5 * j) 1 by omega, Int.toNat_natCast, low_get s (5 * j) 1 (by omega), low_get s (5 * j + 1) 4 (by omega)]
      rw [show 5 * (j + 1) = 5 * j + (1 + 4) by omega, List.take_add, List.take_add (l := (byL s).drop (5 * j)) (i := 1) (j := 4), List.drop_drop]
    · intro x hx
      rcases List.mem_append.1 hx with hx | hx
      · exact ih2 x hx
      · rw [List.mem_singleton] at hx
        subst hx
        rw [idB_iff]
        unfold gI
        dsimp only
        omega
/-- What is read to the end has just these bytes. -/
theorem gS_back (s : ByteArray) (j : Nat) (h : Ends s j) (he : s.size ≤ 5 * j) : strOfNums (bytesX (gS s j)) = s ∧ (∀ x ∈ gS s j, idB x = true) := by
  obtain ⟨h1, h2, h3⟩ := gS_bytes s j h.1
  refine ⟨?_, h2⟩
  rw [h1, List.take_of_length_le (by rw [byL_len]; omega), str_byL]
/-- Of rows' bytes the rows are read. -/
theorem back_row (X : List RW) (hi : ∀ x ∈ X, idB x = true) (ho : OkX X) (j : Nat) (x : RW) (hx : X[j]? = some x) : gI (strOfNums (bytesX X)) (5 * j) = x.i ∧ (gN (strOfNums (bytesX X)) (5 * j) : Int) = x.c := by
  have hj := (List.getElem?_eq_some_iff.1 hx).1
  have hxe := (List.getElem?_eq_some_iff.1 hx).2
  have hxm : x ∈ X := List.mem_of_getElem? hx
  have hid := (idB_iff x).1 (hi x hxm)
  have hc1 := ho.pos x hxm
  have hc2 : x.c ≤ 1073741824 := by
    have e := sumR_app (X.take j) (X.drop j)
    rw [List.take_append_drop, List.drop_eq_getElem_cons hj, hxe] at e
    have h1 := sum_nonneg (X := X.take j) fun y hy => ho.pos y (List.mem_of_mem_take hy)
    have h2 := sum_nonneg (X := X.drop (j + 1)) fun y hy => ho.pos y (List.mem_of_mem_drop hy)
    have h3 := ho.sum
    simp only [sumR] at e
    omega
  have hl : (bytesX (X.take j)).length = 5 * j := by rw [bytes_len, List.length_take, Nat.min_eq_left (by omega)]
  have e : bytesX X = bytesX (X.take j) ++ low (x.i + 1).toNat 1 ++ (low x.c.toNat 4 ++ bytesX (X.drop (j + 1))) := by
    conv => lhs; rw [← List.take_append_drop j X, List.drop_eq_getElem_cons hj, hxe]
    rw [bytes_app]
    have e2 : bytesX (x :: X.drop (j + 1)) = low (x.i + 1).toNat 1 ++ low x.c.toNat 4 ++ bytesX (X.drop (j + 1)) := rfl
    rw [e2]
    simp only [List.append_assoc]
  have r1 := bytes_range (X.take j)
  have r2 := bytes_range (X.drop (j + 1))
  constructor
  · unfold gI
    rw [e, ← hl, get_mid _ _ _ 1 (by simp; omega) r1 (by
      intro v hv
      rcases List.mem_append.1 hv with h | h
      · exact low_range _ _ v h
      · exact r2 v h)]
    omega
  · unfold gN
    have e3 : bytesX X = (bytesX (X.take j) ++ low (x.i + 1).toNat 1) ++ low x.c.toNat 4 ++ bytesX (X.drop (j + 1)) := by rw [e]; simp only [List.append_assoc]
    have hl2 : (bytesX (X.take j) ++ low (x.i + 1).toNat 1).length = 5 * j + 1 := by rw [List.length_append, hl, low_length]
    rw [e3, ← hl2, get_mid _ _ _ 4 (by have h4 : (256 : Nat) ^ 4 = 4294967296 := (by decide); rw [h4]; omega) (by
      intro v hv
      rcases List.mem_append.1 hv with h | h
      · exact r1 v h
      · exact low_range _ _ v h) r2]
    omega
theorem take_last {X : List RW} {j : Nat} (h : j < X.length) (h0 : 0 < j) : ∃ y, X[j - 1]? = some y ∧ X.take j = X.take (j - 1) ++ [y] := by
  refine ⟨X[j - 1], List.getElem?_eq_getElem (by omega), ?_⟩
  conv => lhs; rw [show j = j - 1 + 1 by omega]
  rw [List.take_add_one, List.getElem?_eq_getElem (by omega)]
  rfl
theorem back_all (X : List RW) (hi : ∀ x ∈ X, idB x = true) (ho : OkX X) : ∀ j, j ≤ X.length → gS (strOfNums (bytesX X)) j = X.take j ∧ ∀ i, i < j → 5 * i < (strOfNums (bytesX X)).size ∧ gK (strOfNums (bytesX X)) (5 * i) (gS (strOfNums (bytesX X)) i) = 0
  | 0, _ => ⟨by simp [gS], fun i hi => by omega⟩
  | j + 1, hj => by
    obtain ⟨h1, h2⟩ := back_all X hi ho j (by omega)
    have hx : X[j]? = some X[j] := List.getElem?_eq_getElem (by omega)
    obtain ⟨x, hxe⟩ : ∃ x, X[j] = x := ⟨_, rfl⟩
    rw [hxe] at hx
    obtain ⟨r1, r2⟩ := back_row X hi ho j x hx
    have hxc := ho.pos x (List.mem_of_getElem? hx)
    have hsz : (strOfNums (bytesX X)).size = 5 * X.length := by rw [strOfNums_size, bytes_len]
    have hsk : sumR (X.take (j + 1)) = sumR (X.take j) + x.c := by rw [List.take_add_one, hx]; exact sumR_snoc _ _
    have hsum : sumR (X.take (j + 1)) ≤ 1073741824 := by
      have e := sumR_app (X.take (j + 1)) (X.drop (j + 1))
      rw [List.take_append_drop] at e
      have := sum_nonneg (X := X.drop (j + 1)) fun y hy => ho.pos y (List.mem_of_mem_drop hy)
      have := ho.sum
      omega
    have hok : okX (X.take j) (gN (strOfNums (bytesX X)) (5 * j) : Int) = true := (okX_iff _ _).2 ⟨by omega, by omega⟩
    have hlast : ¬ (gN (strOfNums (bytesX X)) (5 * j) = 0 ∨ lastI (X.take j) = some (gI (strOfNums (bytesX X)) (5 * j))) := by
      rintro (e | e)
      · omega
      · rcases Nat.eq_zero_or_pos j with h0 | h0
        · subst h0; rw [List.take_zero, last_nil] at e; cases e
        · obtain ⟨y, hy, ht⟩ := take_last (X := X) (show j < X.length by omega) h0
          rw [ht, last_snoc, r1] at e
          refine ho.form (X.take (j - 1)) y x (X.drop (j + 1)) ?_ (Option.some.inj e)
          conv => lhs; rw [← List.take_append_drop j X, List.drop_eq_getElem_cons (show j < X.length by omega), hxe, ht]
          simp
    have hk : gK (strOfNums (bytesX X)) (5 * j) (gS (strOfNums (bytesX X)) j) = 0 := by
      unfold gK
      rw [h1, if_neg (by omega), if_neg hlast, if_pos hok]
    refine ⟨?_, fun i hij => ?_⟩
    · obtain ⟨_, _, _, _, e⟩ := gK_zero hk
      rw [gS, e, h1, r1, r2, List.take_add_one, hx]
      rfl
    · rcases (show i < j ∨ i = j by omega) with h | rfl
      · exact h2 i h
      · exact ⟨by omega, hk⟩
theorem back_ends (X : List RW) (hi : ∀ x ∈ X, idB x = true) (ho : OkX X) : Ends (strOfNums (bytesX X)) X.length ∧ gS (strOfNums (bytesX X)) X.length = X := by
  obtain ⟨h1, h2⟩ := back_all X hi ho X.length (Nat.le_refl _)
  refine ⟨⟨h2, .inl (by rw [strOfNums_size, bytes_len]; exact Nat.le_refl _)⟩, by rw [h1, List.take_length]⟩
end Go.Proofs.YtilkicbokfgjlaaDoor.Stp
