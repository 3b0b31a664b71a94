/- That partitions' bytes are read as the partitions. No condition. Rows of partitions of a call's own, as partitions at an address. It says nothing of the program. No condition. The law's own words on partitions: arguments, what is too long, the chapter's example. Condition: the variables hold what the program lays there. -/
import Derived.Test.YtnngldkpkhabeaaMg11
import Derived.Test.YtnngldkpkhabeaaMg06
import Derived.Test.YtnngldkpkhabeaaMg09
import Derived.Test.YtnngldkpkhabeaaMg01
namespace Go.Proofs.Ytnngldkpkhabeaa.Prt

open Go.RowKit Go.PlainAid Go.Proofs.Ytnngldkpkhabeaa.Oct Go.Proofs.Ytnngldkpkhabeaa.Flt Go.Proofs.Ytnngldkpkhabeaa.Rdr Go.Proofs.Ytnngldkpkhabeaa.Nam

set_option linter.unusedVariables false

set_option linter.unusedSimpArgs false

/-- A reader in good order at a place of section 2. -/
abbrev RM (M : ByteArray) (p : Nat) : St := ⟨M, p, 2, 0, 0, 0⟩
theorem need_yes (t : St) (k a : Int) {b : Bool} (h : b = true) : needS b t k a = t := by unfold needS; rw [if_pos h]
theorem small_bytes (s : ByteArray) : Small (Nam.bytesOf s) := bytesOf_range s
theorem small_cell (x : C2) : Small (cellB x) := (small_low _ _).append (small_low _ _)
theorem small_cells (l : List C2) : Small (cellsB l) := by
  induction l with
  | nil => intro x hx; simp [cellsB] at hx
  | cons y l ih => exact (small_cell y).append ih
theorem small_part {x : PT} (h : rg x = 0) : Small (partB x) := by
  obtain ⟨_, hr, _⟩ := rg_right h
  have hsz : x.nm.size ≤ 16 := by
    by_cases h : 1 ≤ x.nm.size ∧ x.nm.size ≤ 16
    · exact h.2
    · rw [right_out h] at hr; cases hr
  refine Small.append ((((small_low _ _).append (small_low _ _)).append ?_).append (small_low _ _)) (small_cells _)
  intro y hy
  rcases List.mem_cons.1 hy with rfl | hy
  · omega
  · exact small_bytes _ y hy
theorem small_text {l : List PT} (h : ∀ x ∈ l, rg x = 0) : Small (textB l) := by
  induction l with
  | nil => intro x hx; simp [textB] at hx
  | cons y l ih => exact (small_part (h y (by simp))).append (ih fun x hx => h x (by simp [hx]))
theorem fl_read (pre post : List Int) (b : Bool) (h1 : Small pre) (h2 : Small post) (M : ByteArray) (hM : strOfNums (pre ++ low (bitN b) 1 ++ post) = M) (p : Nat) (hp : p = pre.length) :
    flS (RM M p) = RM M (p + 1) ∧ flV (RM M p) = b := by
  obtain ⟨e1, e2⟩ := num_read pre post (bitN b) 1 (by omega) (by have := bitN_le b; omega) h1 h2 M hM p hp 2 0 0
  unfold flS flV
  rw [e1, e2]
  have := bitN_le b
  refine ⟨need_yes _ _ _ (by simp; omega), ?_⟩
  cases b <;> rfl
theorem str_mid (a b c : List Int) (n m : Nat) (h1 : n = a.length) (h2 : m = b.length) : (strOfNums (a ++ b ++ c)).extract n (n + m) = strOfNums b := by
  subst h1 h2
  apply ByteArray.ext
  rw [ByteArray.data_extract]
  apply Array.toList_inj.1
  simp [strOfNums, List.take_append_of_le_length, Array.extract_append]
theorem nm_read (pre post : List Int) (s : ByteArray) (hs1 : 1 ≤ s.size) (hs2 : s.size ≤ 16) (hr : rightB s = true) (h1 : Small pre) (h2 : Small post) (M : ByteArray) (hM : strOfNums (pre ++ ((s.size : Int) :: Nam.bytesOf s) ++ post) = M) (p : Nat) (hp : p = pre.length) :
    nmS (RM M p) = RM M (p + 1 + s.size) ∧ nmV (RM M p) = s := by
  have el : low s.size 1 = [(s.size : Int)] := by
    simp [low]; try omega
  obtain ⟨e1, e2⟩ := num_read pre (Nam.bytesOf s ++ post) s.size 1 (by omega) (by omega) h1 ((small_bytes s).append h2) M (by rw [← hM, el]; simp) p hp 2 0 0
  have hsz : M.size = pre.length + 1 + s.size + post.length := by rw [← hM, strOfNums_size]; simp [Nam.bytesOf_len]; omega
  have hle : p + 1 + s.size ≤ M.size := by omega
  have e3 : txtS (RM M (p + 1)) (s.size : Nat) = RM M (p + 1 + s.size) := by
    unfold txtS; simp only [Int.toNat_natCast]; rw [if_pos trivial, if_pos hle]
  have e4 : txtV (RM M (p + 1)) (s.size : Nat) = s := by
    unfold txtV; simp only [Int.toNat_natCast]; rw [if_pos ⟨trivial, hle⟩, ← hM]
    rw [show pre ++ ((s.size : Int) :: Nam.bytesOf s) ++ post = (pre ++ [(s.size : Int)]) ++ Nam.bytesOf s ++ post by simp]
    rw [str_mid (pre ++ [(s.size : Int)]) (Nam.bytesOf s) post (p + 1) s.size (by simp [hp]) (Nam.bytesOf_len s).symm, str_bytes]
  have hng : ¬ (s.size = 0 ∨ 16 < s.size) := by omega
  constructor
  · unfold nmS
    rw [e1, e2, e3, e4, if_neg (by simp), if_neg hng, if_neg (by simp), hr]; rfl
  · unfold nmV
    rw [e1, e2, e3, e4, if_pos ⟨rfl, hng, rfl, hr⟩]
theorem ce_read (pre post : List Int) (cs : List C2) (hw : ∀ y ∈ cs, y.v ≤ 4294967295) (h1 : Small pre) (h2 : Small post) (M : ByteArray) (hM : strOfNums (pre ++ cellsB cs ++ post) = M) (p : Nat) (hp : p = pre.length) :
    ∀ k, k ≤ cs.length → ceN (RM M p) k = (RM M (p + k * 5), cs.take k)
  | 0, _ => by simp [ceN]
  | k + 1, hk => by
    have ih := ce_read pre post cs hw h1 h2 M hM p hp k (by omega)
    have hx : cs[k]? = some cs[k] := List.getElem?_eq_getElem (by omega)
    obtain ⟨x, hxx⟩ : ∃ x, cs[k] = x := ⟨_, rfl⟩
    rw [hxx] at hx
    have e : cellsB cs = cellsB (cs.take k) ++ cellB x ++ cellsB (cs.drop (k + 1)) := by
      have e0 : cs = cs.take k ++ x :: cs.drop (k + 1) := by
        rw [← hxx, ← List.drop_eq_getElem_cons (by omega), List.take_append_drop]
      conv => lhs; rw [e0]
      simp [cellsB]
    have hwx := hw x (List.mem_of_getElem? hx)
    have hl : (cellsB (cs.take k)).length = k * 5 := by rw [cellsB_len, List.length_take, Nat.min_eq_left (by omega)]
    obtain ⟨f1, f2⟩ := fl_read (pre ++ cellsB (cs.take k)) (low x.v 4 ++ cellsB (cs.drop (k + 1)) ++ post) x.kept (h1.append (small_cells _)) (((small_low _ _).append (small_cells _)).append h2) M (by rw [← hM, e]; simp [cellB]) (p + k * 5) (by rw [List.length_append, hl, hp])
    obtain ⟨n1, n2⟩ := num_read (pre ++ cellsB (cs.take k) ++ low (bitN x.kept) 1) (cellsB (cs.drop (k + 1)) ++ post) x.v 4 (by omega) (by omega) ((h1.append (small_cells _)).append (small_low _ _)) ((small_cells _).append h2) M (by rw [← hM, e]; simp [cellB]) (p + k * 5 + 1) (by rw [List.length_append, List.length_append, hl, hp, low_length]) 2 0 0
    rw [ceN, ih]
    dsimp only
    unfold ceS ceV
    rw [f1, f2, n1, n2, take_snoc cs k x hx]
    rw [show p + k * 5 + 1 + 4 = p + (k + 1) * 5 by omega]
theorem nm_size {s : ByteArray} (hr : rightB s = true) : 1 ≤ s.size ∧ s.size ≤ 16 := by
  by_cases h : 1 ≤ s.size ∧ s.size ≤ 16
  · exact h
  · rw [right_out h] at hr; cases hr
theorem cl_read (pre post : List Int) (cs : List C2) (hc : cs.length ≤ 16) (hw : ∀ y ∈ cs, y.v ≤ 4294967295) (h1 : Small pre) (h2 : Small post) (M : ByteArray) (hM : strOfNums (pre ++ low cs.length 1 ++ cellsB cs ++ post) = M) (p : Nat) (hp : p = pre.length) :
    clS (RM M p) = RM M (p + 1 + cs.length * 5) ∧ clV (RM M p) = cs := by
  obtain ⟨n1, n2⟩ := num_read pre (cellsB cs ++ post) cs.length 1 (by omega) (by omega) h1 ((small_cells _).append h2) M (by rw [← hM]; simp) p hp 2 0 0
  have hh : hdS (RM M p) = RM M (p + 1) := by
    unfold hdS
    rw [n1, n2]
    exact need_yes _ _ _ (by simp; omega)
  have hc := ce_read (pre ++ low cs.length 1) post cs hw (h1.append (small_low _ _)) h2 M hM (p + 1) (by rw [List.length_append, low_length, hp]) cs.length (Nat.le_refl _)
  unfold clS clV
  rw [hh, n2, if_pos rfl, if_pos rfl, hc, List.take_length]
  exact ⟨rfl, rfl⟩
theorem headB_len (x : PT) : (headB x).length = 4 + x.nm.size := by
  unfold headB; simp [low_length, Nam.bytesOf_len]; omega
theorem one_read (pre post : List Int) (x : PT) (last : Int) (hr : rg x = 0) (hw : WideC x) (hl : last < x.id) (h1 : Small pre) (h2 : Small post) (M : ByteArray) (hM : strOfNums (pre ++ partB x ++ post) = M) (p : Nat) (hp : p = pre.length) :
    onS (RM M p) last = RM M (p + (partB x).length) ∧ onV (RM M p) last = x := by
  obtain ⟨⟨hi0, hi1⟩, hrb, hc16⟩ := rg_right hr
  obtain ⟨hs1, hs2⟩ := nm_size hrb
  have hpl : (partB x).length = 4 + x.nm.size + x.cs.length * 5 := by unfold partB; rw [List.length_append, headB_len, cellsB_len]
  have hnm : Small ((x.nm.size : Int) :: Nam.bytesOf x.nm) := by
    intro y hy
    rcases List.mem_cons.1 hy with rfl | hy
    · omega
    · exact small_bytes _ y hy
  obtain ⟨n1, n2⟩ := num_read pre (low (bitN x.may) 1 ++ ((x.nm.size : Int) :: Nam.bytesOf x.nm) ++ low x.cs.length 1 ++ cellsB x.cs ++ post) x.id.toNat 1 (by omega) (by omega) h1 (((((small_low _ _).append hnm).append (small_low _ _)).append (small_cells _)).append h2) M (by rw [← hM]; simp [partB, headB]) p hp 2 0 0
  have hid : ((x.id.toNat : Nat) : Int) = x.id := by omega
  have e2 : o2S (RM M p) last = RM M (p + 1) := by
    unfold o2S
    rw [n1, n2, hid]
    exact need_yes _ _ _ (by simp; omega)
  obtain ⟨f1, f2⟩ := fl_read (pre ++ low x.id.toNat 1) (((x.nm.size : Int) :: Nam.bytesOf x.nm) ++ low x.cs.length 1 ++ cellsB x.cs ++ post) x.may (h1.append (small_low _ _)) (((hnm.append (small_low _ _)).append (small_cells _)).append h2) M (by rw [← hM]; simp [partB, headB]) (p + 1) (by rw [List.length_append, low_length, hp])
  obtain ⟨g1, g2⟩ := nm_read (pre ++ low x.id.toNat 1 ++ low (bitN x.may) 1) (low x.cs.length 1 ++ cellsB x.cs ++ post) x.nm hs1 hs2 hrb ((h1.append (small_low _ _)).append (small_low _ _)) (((small_low _ _).append (small_cells _)).append h2) M (by rw [← hM]; simp [partB, headB]) (p + 1 + 1) (by simp only [List.length_append, low_length, hp])
  obtain ⟨c1, c2⟩ := cl_read (pre ++ low x.id.toNat 1 ++ low (bitN x.may) 1 ++ ((x.nm.size : Int) :: Nam.bytesOf x.nm)) post x.cs hc16 hw (((h1.append (small_low _ _)).append (small_low _ _)).append hnm) h2 M (by rw [← hM]; simp [partB, headB]) (p + 1 + 1 + 1 + x.nm.size) (by simp only [List.length_append, low_length, hp, List.length_cons, Nam.bytesOf_len]; omega)
  have e3 : o3S (RM M p) last = RM M (p + 1 + 1) := by unfold o3S; rw [e2, f1]
  have e4 : o4S (RM M p) last = RM M (p + 1 + 1 + 1 + x.nm.size) := by unfold o4S; rw [e3, g1]
  constructor
  · unfold onS
    rw [e4, c1, hpl, show p + 1 + 1 + 1 + x.nm.size + 1 + x.cs.length * 5 = p + (4 + x.nm.size + x.cs.length * 5) by omega]
  · unfold onV
    rw [n2, hid, e3, g2, e2, f2, e4, c2]
theorem last_lt {l : List PT} (h : (badP l).1 = 0) (k : Nat) (x : PT) (hx : l[k]? = some x) : lastP (l.take k) < x.id := by
  have h0 := fb_all b1P l [] h k x hx
  rw [List.nil_append] at h0
  unfold b1P at h0
  split at h0
  · split at h0
    · cases h0
    · omega
  · rename_i h1; exact absurd h0 h1
theorem text_read (l : List PT) (hb : (badP l).1 = 0) (hw : ∀ x ∈ l, WideC x) (M : ByteArray) (hM : strOfNums (textB l) = M) :
    ∀ k, k ≤ l.length → itP (RM M 0) k = (RM M (textB (l.take k)).length, l.take k)
  | 0, _ => by simp [itP, textB]
  | k + 1, hk => by
    have ih := text_read l hb hw M hM k (by omega)
    have hx : l[k]? = some l[k] := List.getElem?_eq_getElem (by omega)
    obtain ⟨x, hxx⟩ : ∃ x, l[k] = x := ⟨_, rfl⟩
    rw [hxx] at hx
    have hmem := List.mem_of_getElem? hx
    have e : textB l = textB (l.take k) ++ partB x ++ textB (l.drop (k + 1)) := by
      have e0 : l = l.take k ++ x :: l.drop (k + 1) := by
        rw [← hxx, ← List.drop_eq_getElem_cons (by omega), List.take_append_drop]
      conv => lhs; rw [e0]
      simp [textB]
    have hr := bad_rg hb
    obtain ⟨o1, o2⟩ := one_read (textB (l.take k)) (textB (l.drop (k + 1))) x (lastP (l.take k)) (hr x hmem) (hw x hmem) (last_lt hb k x hx) (small_text fun y hy => hr y (List.mem_of_mem_take hy)) (small_text fun y hy => hr y (List.mem_of_mem_drop hy)) M (by rw [← hM, e]) (textB (l.take k)).length rfl
    rw [itP, ih]
    dsimp only
    rw [if_pos rfl, o1, o2, take_snoc l k x hx, textB_snoc, List.length_append]
theorem parts_read (l : List PT) (hb : (badP l).1 = 0) (hw : ∀ x ∈ l, WideC x) (M : ByteArray) (hM : strOfNums (textB l) = M) :
    rdP ⟨M, 0, 0, 0, 0, 0⟩ l.length = RM M M.size ∧ rdL ⟨M, 0, 0, 0, 0, 0⟩ l.length = l := by
  have h := text_read l hb hw M hM l.length (Nat.le_refl _)
  rw [List.take_length] at h
  have hs : M.size = (textB l).length := by rw [← hM, strOfNums_size]
  unfold rdP rdL
  rw [show secS ⟨M, 0, 0, 0, 0, 0⟩ 2 = RM M 0 from rfl, h, hs]
  exact ⟨rfl, rfl⟩
end Go.Proofs.Ytnngldkpkhabeaa.Prt

namespace Go.Proofs.Ytnngldkpkhabeaa.Prt

open Go.RowKit Go.PlainAid Go.Proofs.Ytnngldkpkhabeaa.Oct Go.Proofs.Ytnngldkpkhabeaa.Flt Go.Proofs.Ytnngldkpkhabeaa.Rdr Go.Proofs.Ytnngldkpkhabeaa.Nam

set_option linter.unusedVariables false

set_option linter.unusedSimpArgs false

theorem flatC_get (L : List C2) : ∀ (i : Nat) (q : C2) (j : Nat), L[i]? = some q → j < 2 → (flatC L)[i * 2 + j]? = (celL q)[j]? := by
  induction L with
  | nil => intro i x j h; simp at h
  | cons y l ih =>
    intro i x j h hj
    have e : flatC (y :: l) = celL y ++ flatC l := rfl
    have ely : (celL y).length = 2 := rfl
    cases i with
    | zero =>
      obtain rfl : y = x := by simpa using h
      rw [e, Nat.zero_mul, Nat.zero_add, List.getElem?_append_left (by omega)]
    | succ i =>
      have hx : l[i]? = some x := by simpa using h
      rw [e, List.getElem?_append_right (by omega), ← ih i x j hx hj, ely]
      congr 1
      omega
theorem add_at (g n : Nat) : (Addr.mk g 0 none).add n = ⟨g, n, none⟩ := by cases n <;> simp [Addr.add]
theorem eqC_refl (x : C2) : eqC x x = true := by simp [eqC]
theorem eqP_refl (x : PT) : eqP x x = true := eqP_all (by simp) (by simp) (by simp) (allEq_yes _ _ _ rfl fun i a b h1 h2 => by rw [h1] at h2; obtain rfl := Option.some.inj h2; exact eqC_refl _)
theorem allP_refl (l : List PT) : allEq eqP l l = true := allEq_yes _ _ _ rfl fun i a b h1 h2 => by rw [h1] at h2; obtain rfl := Option.some.inj h2; exact eqP_refl _
end Go.Proofs.Ytnngldkpkhabeaa.Prt

namespace Go.Proofs.Ytnngldkpkhabeaa.Prt

open Go.RowKit Go.PlainAid Go.Proofs.Ytnngldkpkhabeaa.Oct Go.Proofs.Ytnngldkpkhabeaa.Flt Go.Proofs.Ytnngldkpkhabeaa.Rdr Go.Proofs.Ytnngldkpkhabeaa.Nam Go.Proofs.Ytnngldkpkhabeaa.Args

open Go.Proofs.Ytnngldkpkhabeaa.Act (list_of)

set_option linter.unusedVariables false

set_option linter.unusedSimpArgs false

theorem cells_of {w : World} {a : Option Addr} {len cap : Nat} (h : IsRecs w a len cap [.int .u32, .bool]) : ∃ l : List C2, l.length = len ∧ CellsAt w a l ∧ (∀ x ∈ l, x.v ≤ 4294967295) ∧ (a = none → cap = 0) ∧ len ≤ cap ∧ cap ≤ maxLen := by
  rcases h with ⟨rfl, rfl, rfl⟩ | ⟨y, rfl, hlc, hcm, hcell⟩
  · exact ⟨[], rfl, fun i x hx => by simp at hx, by simp, fun _ => rfl, Nat.le_refl _, Nat.zero_le _⟩
  · obtain ⟨l, hl, hp⟩ := list_of (fun i (x : C2) => (w.cell? (y.add (i * 2)) = some (.int .u32 x.v) ∧ w.cell? ⟨(y.add (i * 2)).block, (y.add (i * 2)).off + 1, none⟩ = some (.bool x.kept)) ∧ x.v ≤ 4294967295) len (by
      intro i hi
      obtain ⟨_, c0, s, rfl, hs⟩ := hcell i hi 0 _ rfl
      obtain ⟨_, c1, b, rfl⟩ := hcell i hi 1 _ rfl
      have hb := bounds_u32 hs
      obtain ⟨v, rfl⟩ := Int.eq_ofNat_of_zero_le hb.1
      exact ⟨⟨v, b⟩, ⟨c0, c1⟩, by show v ≤ _; omega⟩)
    refine ⟨l, hl, fun i x hx => ⟨y, rfl, (hp i x hx).1⟩, fun x hx => ?_, fun h => (by cases h), hlc, hcm⟩
    obtain ⟨i, hi, rfl⟩ := List.mem_iff_getElem.1 hx
    exact (hp i _ (List.getElem?_eq_getElem hi)).2
theorem parts_of {w : World} {a : Option Addr} {len cap : Nat} (h : IsRows w a len cap [.one (.int .i64), .one .string, .one .bool, .recs [.int .u32, .bool]]) : ∃ l : List PT, l.length = len ∧ PartsAt w a l ∧ (∀ x ∈ l, WideP x ∧ WideC x) ∧ len ≤ cap ∧ cap ≤ maxLen := by
  rcases h with ⟨rfl, rfl, rfl⟩ | ⟨y, rfl, hlc, hcm, hcell⟩
  · exact ⟨[], rfl, fun i x hx => by simp at hx, by simp, Nat.le_refl _, Nat.zero_le _⟩
  · obtain ⟨l, hl, hp⟩ := list_of (fun i (x : PT) => (∃ B c, w.cell? (y.add (i * 4)) = some (.int .i64 x.id) ∧ w.cell? ⟨(y.add (i * 4)).block, (y.add (i * 4)).off + 1, none⟩ = some (.string x.nm) ∧ w.cell? ⟨(y.add (i * 4)).block, (y.add (i * 4)).off + 2, none⟩ = some (.bool x.may) ∧
        w.cell? ⟨(y.add (i * 4)).block, (y.add (i * 4)).off + 3, none⟩ = some (.slice B x.cs.length c) ∧ CellsAt w B x.cs ∧ (B = none → c = 0) ∧ x.cs.length ≤ c ∧ c ≤ maxLen) ∧ WideP x ∧ WideC x) len (by
      intro i hi
      obtain ⟨_, c0, s, rfl, hs⟩ := hcell i hi 0 _ rfl
      obtain ⟨_, c1, nm, rfl, hnm⟩ := hcell i hi 1 _ rfl
      obtain ⟨_, c2, b, rfl⟩ := hcell i hi 2 _ rfl
      obtain ⟨_, c3, B, bl, bc, rfl, hr⟩ := hcell i hi 3 _ rfl
      obtain ⟨cs, hcl, hca, hcw, hcn, hc1, hc2⟩ := cells_of hr
      exact ⟨⟨s, nm, b, cs⟩, ⟨B, bc, c0, c1, c2, by rw [← hcl] at c3; exact c3, hca, hcn, by show cs.length ≤ bc; omega, hc2⟩, ⟨bounds_i64 hs, hnm⟩, hcw⟩)
    refine ⟨l, hl, fun i x hx => ?_, fun x hx => ?_, hlc, hcm⟩
    · obtain ⟨⟨B, c, h1, h2, h3, h4, h5⟩, _⟩ := hp i x hx
      exact ⟨y, B, c, rfl, h1, h2, h3, h4, h5⟩
    · obtain ⟨i, hi, rfl⟩ := List.mem_iff_getElem.1 hx
      exact (hp i _ (List.getElem?_eq_getElem hi)).2
/-- Not too long. -/
def ShortP (l : List PT) : Prop := l.length ≤ 40 ∧ ∀ x ∈ l, x.nm.size ≤ 100 ∧ x.cs.length ≤ 40
def NPost (l : List PT) (w : World) (e : Ending) (w' : World) : Prop := ∃ b, e = .returned (.bool b) ∧ (b = false → ShortP l) ∧ Below w.heap.size w w'
def NRel (l : List PT) (w : World) (i : Value) (wr : World) : Prop := ∃ k : Nat, k ≤ l.length ∧ i = .int .i64 k ∧ (∀ j x, j < k → l[j]? = some x → x.nm.size ≤ 100 ∧ x.cs.length ≤ 40) ∧ Below w.heap.size w wr
def pN : PT := ⟨3, ⟨#[78, 65, 86]⟩, true, []⟩
theorem pN_bad : (badP [pN]).1 = 0 := by kernel_rfl
theorem pN_text : strOfNums ([] ++ textB [pN]) = ⟨#[3, 1, 3, 78, 65, 86, 0]⟩ := by kernel_rfl
end Go.Proofs.Ytnngldkpkhabeaa.Prt
