
/- What package name's Put lays behind bytes, the document's bytes of a name, and that they are read as the name. Condition: at most 2 to the power 30 bytes come in. -/

import Derived.Test.YtpdoihndpnpifaaDoorNamD

import Derived.Test.YtpdoihndpnpifaaDoorOctP

import Derived.Lib.AppendStr

namespace Go.Proofs.YtpdoihndpnpifaaDoor.Nam

open Go.RowKit Go.PlainAid Go.Proofs.YtpdoihndpnpifaaDoor.Oct Go.Proofs.YtpdoihndpnpifaaDoor.Flt Go.Proofs.YtpdoihndpnpifaaDoor.Rdr

set_option linter.unusedVariables false

/-- A text's bytes, as numbers. -/
def bytesOf (s : ByteArray) : List Int := s.data.toList.map fun b => (b.toNat : Int)
theorem bytesOf_len (s : ByteArray) : (bytesOf s).length = s.size := by unfold bytesOf; rw [List.length_map, Array.length_toList]; rfl
theorem bytesOf_range (s : ByteArray) : ∀ x ∈ bytesOf s, 0 ≤ x ∧ x ≤ 255 := by
  intro x hx
  unfold bytesOf at hx
  obtain ⟨b, _, rfl⟩ := List.mem_map.1 hx
  have := b.toNat_lt
  omega
theorem strCells_bytes (s : ByteArray) : Go.Lib.strCells s = (bytesOf s).map (Value.int .u8) := by
  unfold Go.Lib.strCells bytesOf
  rw [List.map_map]; rfl
theorem str_bytes (s : ByteArray) : strOfNums (bytesOf s) = s := by
  have h : ∀ k, k < s.size → bt (strOfNums (bytesOf s)) k = bt s k := by
    intro k hk
    rw [bt_strOf _ k (by rw [bytesOf_len]; exact hk) (bytesOf_range s)]
    unfold bytesOf bt
    rw [dif_pos hk]
    simp only [List.getElem_map, Array.getElem_toList]
    rfl
  have hs : (strOfNums (bytesOf s)).size = s.size := by rw [strOfNums_size, bytesOf_len]
  apply ByteArray.ext
  apply Array.ext
  · exact hs
  · intro i h1 h2
    have h3 := h i h2
    unfold bt at h3
    rw [dif_pos (show i < (strOfNums (bytesOf s)).size from h1), dif_pos (show i < s.size from h2)] at h3
    have h4 : ((strOfNums (bytesOf s))[i]'h1).toNat = (s[i]'h2).toNat := by omega
    exact UInt8.toNat_inj.1 h4
set_option maxRecDepth 4000 in
theorem conv_owns {w : World} {B n : Nat} {v : Value} {xs : List Int} (h : w.ownsRow B 5 1 v n (xs.map (Value.int .u8))) :
    (convert 41 9 v).run Tryd.prog w = .ok (.string (strOfNums xs)) w := by
  have hl : xs.length = n := by have := h.1; simpa using this
  rcases h.2 with ⟨rfl, h0⟩ | ⟨g, cap, cur, rfl, h3⟩
  · subst h0
    obtain rfl : xs = [] := List.eq_nil_of_length_eq_zero hl
    rw [run_convert_bytes_string (P := Tryd.prog) w 41 9 5 none 0 0 underU8 rfl rfl]
    rfl
  · refine run_convert_bytes_arg (P := Tryd.prog) w 41 5 underU8 rfl g 0 n cap xs hl ?_ 9 rfl
    intro i hi
    rw [Nat.zero_add, h.cellAt i (by omega)]
    simp [List.getD, List.getElem?_eq_getElem (show i < xs.length by omega)]
/-- What Put hands back. -/
def PPost (w : World) (ys : List Int) (k : Int) (e : Ending) (w' : World) : Prop :=
  ∃ V n, e = .returned (.tuple #[V, .int .i64 k]) ∧ w'.ownsRow w.heap.size 5 1 V n (ys.map (Value.int .u8)) ∧ Below w.heap.size w w'
set_option maxRecDepth 4000 in
theorem nput_no (A : Option Addr) (len cap : Nat) (xs : List Int) (s : ByteArray) (w : World) (hx : IsBytes w A len xs) (hnil : A = none → len = 0 ∧ cap = 0) (hl : len ≤ 1073741824) (hs : s.size ≤ maxLen) (hr : rightB s = false) :
    Calls Tryd.prog 116 #[.slice A len cap, .string s] w (PPost w xs 7) := by
  have HR : Hid (∀ w, Calls Tryd.prog 47 #[.string s] w fun e w' => e = .returned (.bool false) ∧ w = w') := fun w => by rw [← hr]; exact right_any s w hs
  have HC : Hid (Calls Tryd.prog 126 #[.slice A len cap] w fun e w' => ∃ V, e = .returned V ∧ w'.ownsRow w.heap.size 5 1 V len (xs.map (Value.int .u8)) ∧ Below w.heap.size w w') := by
    cases A with
    | none =>
      obtain ⟨rfl, rfl⟩ := hnil rfl
      obtain rfl : xs = [] := List.eq_nil_of_length_eq_zero hx.1
      refine (Tryd.bytes_Clone_nil 0 0 w).mono ?_
      rintro e w' ⟨rfl, rfl⟩
      exact ⟨_, rfl, World.ownsRow_nil _ _ _ _, Below.refl _ _⟩
    | some a =>
      refine (Tryd.bytes_Clone_at a len cap xs w hx.1 (by omega) ?_).mono ?_
      · intro i hi
        obtain ⟨ad, e, h⟩ := hx.2 (by omega)
        obtain rfl := Option.some.inj e
        have hil : i < xs.length := by rw [hx.1]; exact hi
        refine h i _ ?_
        simp [List.getD, hil]
      · rintro e w' ⟨V, rfl, ho, _, hb⟩
        exact ⟨V, rfl, ho, hb⟩
  clear hx hnil hl hs hr
  go_enter Tryd.func116, Tryd.ntmps116
  go_wp2_with (first
    | (go_at_call 47; refine (HR.out _).mono ?_; rintro e w' ⟨rfl, rfl⟩)
    | (go_at_call 126; refine (HC.out).mono ?_; rintro e w1 ⟨V, rfl, ho, hb⟩))
  go_ret2
  exact ⟨V, _, rfl, ho, hb⟩
set_option maxRecDepth 4000 in
set_option maxHeartbeats 400000 in
theorem nput_yes (A : Option Addr) (len cap : Nat) (xs : List Int) (s : ByteArray) (w : World) (hx : IsBytes w A len xs) (hl : len ≤ 1073741824) (hs : s.size ≤ 16) (hr : rightB s = true) :
    Calls Tryd.prog 116 #[.slice A len cap, .string s] w (PPost w (xs ++ ((s.size : Int) :: bytesOf s)) 0) := by
  obtain ⟨i0, hi, hz0, hz1, hz2⟩ := info_parts infoU8
  have HR : Hid (∀ w, Calls Tryd.prog 47 #[.string s] w fun e w' => e = .returned (.bool true) ∧ w = w') := fun w => by rw [← hr]; exact right_any s w (by unfold maxLen; omega)
  have hf : fitB s.size (1 : Nat) = true := by unfold fitB; simp; omega
  have HP : Hid (Calls Tryd.prog 97 #[.slice A len cap, .int .u64 s.size, .int .i64 1] w (PutPost w xs true (low s.size 1))) := put_yes A len cap xs s.size 1 w hx (by omega) (by omega) hf
  have hlow : low s.size 1 = [(s.size : Int)] := by unfold low; simp [low]; omega
  have hsz : (s.size : Int) ≤ 16 := by omega
  have hxl := hx.1
  rw [hlow] at HP
  have HB := Lib.hid (strCells_bytes s)
  clear hx hr hf hlow
  go_enter Tryd.func116, Tryd.ntmps116
  go_wp2_with (first
    | (go_at_call 47; refine (HR.out _).mono ?_; rintro e w' ⟨rfl, rfl⟩)
    | (go_at_call 97; refine (HP.out).mono ?_; rintro e w1 ⟨n, c, rfl, ho, hb⟩; obtain rfl : n = len + 1 := (by have := ho.1; simp at this; omega))
    | (at_builtin; refine Go.Lib.wpList_append_own_string _ rfl _ _ 41 9 rfl w.heap.size 5 i0 underU8 Tryd.underlying9 hi hz0 hz1 hz2 _ (len + 1) _ rfl ho s rfl (by unfold maxLen; omega) (by omega) hb.size ?_; intro v' w2 ho2 hg2 _))
  have hb2 : Below w.heap.size w w2 := hb.grown hg2 hb.size (fun j hj => (ho.lt j hj).1)
  have HO : Hid (w2.ownsRow w.heap.size 5 1 v' (len + 1 + s.size) ((xs ++ ((s.size : Int) :: bytesOf s)).map (Value.int .u8))) := by
    show World.ownsRow _ _ _ _ _ _ _
    rw [HB.out] at ho2
    simpa using ho2
  clear ho ho2 hg2
  go_ret2
  exact ⟨v', _, rfl, HO.out, hb2⟩
end Go.Proofs.YtpdoihndpnpifaaDoor.Nam
