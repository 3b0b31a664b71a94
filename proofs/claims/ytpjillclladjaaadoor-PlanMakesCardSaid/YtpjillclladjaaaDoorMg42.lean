/- The document's Right of a schedule. No condition but that its rows are of a slice's length. Windows: how many ticks are a partition's. Condition: at most 400 windows of plain numbers, a frame of 1 to 1,048,576. Windows that are right: whose their ticks are, and how many. Plain arithmetic: it says nothing of the program. -/
import Derived.Test.YtpjillclladjaaaDoorMg09
import Derived.Laws.AppendOwnNone
import Derived.Deep.CutRange
import Derived.BigQuiet
import Derived.Deep.RegionHeld3
import Derived.OwnWalk
import Derived.Test.YtpjillclladjaaaDoorMg16
import Derived.Test.YtpjillclladjaaaDoorMg28
namespace Go.Proofs.YtpjillclladjaaaDoor.Scd

open Go.RowKit Go.PlainAid Go.Proofs.YtpjillclladjaaaDoor.Oct Go.Proofs.YtpjillclladjaaaDoor.Flt Go.Proofs.YtpjillclladjaaaDoor.Rdr Go.Proofs.YtpjillclladjaaaDoor.Act

set_option linter.unusedVariables false

set_option linter.unusedSimpArgs false

structure SC where
  id : Int
  fr : Int
  ws : List A3
  ns : List A3
def tkB (n least : Int) : Bool := decide (least ≤ n) && decide (n ≤ 1048576)
def rowB (x : A3) : Bool := idB x.s && tkB x.p 0 && tkB x.a 0
def rgS (x : SC) : Nat := if (idB x.id && tkB x.fr 1) = false then 18 else if decide (256 < (x.ws.length : Int)) = true then 8 else if (!x.ws.all rowB) = true then 18 else if decide (32 < (x.ns.length : Int)) = true then 8 else if (!x.ns.all rowB) = true then 18 else 0
def scC (x : SC) (B : Option Addr) (cb : Nat) (C : Option Addr) (cc : Nat) : Array Value := #[.int .i64 x.id, .int .i64 x.fr, .slice B x.ws.length cb, .slice C x.ns.length cc]
def inB (v a b : Int) : Bool := decide (a ≤ v) && decide (v ≤ b)
def RRel (l : List A3) (w : World) (c0 : Array Value) (i : Value) (wr : World) : Prop := ∃ k : Nat, k ≤ l.length ∧ i = .int .i64 k ∧ (∀ j x, j < k → l[j]? = some x → rowB x = true) ∧ wr.heap[w.heap.size]? = some (.cells c0 31 (0, 0)) ∧ Below w.heap.size w wr
theorem all_yes {l : List A3} (h : ∀ j x, j < l.length → l[j]? = some x → rowB x = true) : l.all rowB = true := by
  rw [List.all_eq_true]
  intro y hy
  obtain ⟨i, hi, rfl⟩ := List.mem_iff_getElem.1 hy
  exact h i _ hi (List.getElem?_eq_getElem hi)
theorem all_no {l : List A3} {k : Nat} {x : A3} (hx : l[k]? = some x) (h : rowB x = false) : l.all rowB = false := by
  rw [List.all_eq_false]
  exact ⟨x, List.mem_of_getElem? hx, by rw [h]; simp⟩
theorem rgS_in {x : SC} (h : rgS x = 0) : (0 ≤ x.id ∧ x.id ≤ 255) ∧ (1 ≤ x.fr ∧ x.fr ≤ 1048576) ∧ x.ws.length ≤ 256 ∧ (∀ y ∈ x.ws, rowB y = true) ∧ x.ns.length ≤ 32 ∧ (∀ y ∈ x.ns, rowB y = true) := by
  unfold rgS at h
  split at h
  · cases h
  · rename_i h1
    split at h
    · cases h
    · rename_i h2
      split at h
      · cases h
      · rename_i h3
        split at h
        · cases h
        · rename_i h4
          split at h
          · cases h
          · rename_i h5
            simp only [Bool.not_eq_true', Bool.not_eq_false, Bool.not_eq_true] at h3 h5
            simp [idB, tkB] at h1 h2 h4
            refine ⟨by omega, by omega, by omega, ?_, by omega, ?_⟩
            · exact List.all_eq_true.1 h3
            · exact List.all_eq_true.1 h5
end Go.Proofs.YtpjillclladjaaaDoor.Scd
namespace Go.Proofs.YtpjillclladjaaaDoor.Win

open Go.RowKit Go.PlainAid Go.Proofs.YtpjillclladjaaaDoor.Oct Go.Proofs.YtpjillclladjaaaDoor.Flt Go.Proofs.YtpjillclladjaaaDoor.Rdr Go.Proofs.YtpjillclladjaaaDoor.Args

open Go.Proofs.YtpjillclladjaaaDoor.Act (A3 actL flatA flatA_snoc flatA_get flatA_len ActsAt I64 Wide row_beside row_base)

set_option linter.unusedVariables false

set_option linter.unusedSimpArgs false

/-- The lengths of what is a partition's, together. -/
def tickS (z : Int) : List A3 → Int
  | [] => 0
  | x :: l => (if x.s = z then x.a else 0) + tickS z l
theorem tickS_snoc (z : Int) (x : A3) : ∀ l : List A3, tickS z (l ++ [x]) = tickS z l + (if x.s = z then x.a else 0)
  | [] => by simp [tickS]
  | y :: l => by simp only [List.cons_append, tickS, tickS_snoc z x l]; omega
theorem tickS_in (z : Int) {cs : List Int} {fr : Int} {l : List A3} {m : Nat} (h : Cuts cs fr) (hm : cs.length = m + 1) : ∀ k, k ≤ m → 0 ≤ tickS z ((rowsL fr l cs m).take k) ∧ tickS z ((rowsL fr l cs m).take k) ≤ cut cs k
  | 0, _ => by
    have := (cut_in h hm (Nat.zero_le m)).1
    simp [tickS]; exact this
  | k + 1, hk => by
    have ih := tickS_in z (l := l) h hm k (by omega)
    rw [rowsL_take fr l cs (by omega), tickS_snoc]
    have h1 : cut cs k < cut cs (k + 1) := by
      unfold cut
      rw [List.getElem?_eq_getElem (by omega), List.getElem?_eq_getElem (by omega)]
      exact rising_lt h.1 (Nat.lt_succ_self k) (by omega)
    dsimp only
    split <;> omega
def CtRel2 (z : Int) (m : Nat) (L : List A3) (w2 : World) (i v : Value) (wr : World) : Prop :=
  ∃ k : Nat, k ≤ m ∧ i = .int .i64 (k : Int) ∧ v = .int .i64 (tickS z (L.take k)) ∧ Below w2.heap.size w2 wr
end Go.Proofs.YtpjillclladjaaaDoor.Win
namespace Go.Proofs.YtpjillclladjaaaDoor.Win

open Go.RowKit Go.PlainAid Go.Proofs.YtpjillclladjaaaDoor.Oct Go.Proofs.YtpjillclladjaaaDoor.Flt Go.Proofs.YtpjillclladjaaaDoor.Rdr Go.Proofs.YtpjillclladjaaaDoor.Args

open Go.Proofs.YtpjillclladjaaaDoor.Act (A3 actL flatA ActsAt I64 Wide)

set_option linter.unusedVariables false

set_option linter.unusedSimpArgs false

/-- Windows of a frame, one behind the other, from a place on. -/
def Chain (fr : Int) : Int → List A3 → Prop
  | _, [] => True
  | s, x :: l => (s ≤ x.p ∧ 0 ≤ x.p ∧ 1 ≤ x.a ∧ x.p + x.a ≤ fr) ∧ Chain fr (x.p + x.a) l
theorem bad_chain {ids : List Int} {fr : Int} {ah x : A3} (h : bad1W ids fr ah x = 0) : ah.p + ah.a ≤ x.p ∧ 0 ≤ x.p ∧ 1 ≤ x.a ∧ x.p + x.a ≤ fr := by
  unfold bad1W at h
  split at h
  · omega
  · split at h
    · omega
    · rename_i h2
      split at h
      · omega
      · split at h
        · omega
        · have h2 : okW fr x = true := by simpa using h2
          unfold okW at h2
          split at h2
          · cases h2
          · split at h2
            · cases h2
            · split at h2
              · cases h2
              · simp at h2; omega
theorem chain_of (ids : List Int) (fr : Int) : ∀ (l : List A3) (ah : A3) (i : Nat), (chkW ids fr ah i l).1 = 0 → Chain fr (ah.p + ah.a) l
  | [], _, _, _ => trivial
  | x :: l, ah, i, h => by
    rw [chkW] at h
    split at h
    · rename_i h1
      exact ⟨bad_chain h1, chain_of ids fr l x (i + 1) h⟩
    · rename_i h1
      exact absurd h h1
theorem has_right {fr : Int} {x : A3} (h1 : 1 ≤ x.a) (h2 : x.p + x.a ≤ fr) (t : Int) : hasB fr x t = (decide (x.p ≤ t) && decide (t < x.p + x.a)) := by
  unfold hasB fW tW
  rw [if_neg (by omega), if_neg (by omega), if_neg (by omega), if_neg (by omega), if_neg (by omega)]
theorem chain_before {fr : Int} {t : Int} : ∀ (l : List A3) (s : Int), Chain fr s l → t < s → covB fr l t = false
  | [], _, _, _ => rfl
  | x :: l, s, h, ht => by
    obtain ⟨⟨h1, h2, h3, h4⟩, h5⟩ := h
    have ih := chain_before l _ h5 (by omega : t < x.p + x.a)
    have e : covB fr (x :: l) t = (hasB fr x t || covB fr l t) := rfl
    rw [e, ih, has_right h3 h4, decide_eq_false (by omega)]; rfl
theorem chain_ge {fr : Int} : ∀ (l : List A3) (s : Int) (k : Nat) (x : A3), Chain fr s l → l[k]? = some x → s ≤ x.p ∧ 0 ≤ x.p ∧ 1 ≤ x.a ∧ x.p + x.a ≤ fr
  | [], _, _, _, _, h => by simp at h
  | y :: l, s, 0, x, hc, h => by
    obtain rfl : y = x := by simpa using h
    exact hc.1
  | y :: l, s, k + 1, x, hc, h => by
    have ih := chain_ge l _ k x hc.2 (by simpa using h)
    have := hc.1
    exact ⟨by omega, ih.2⟩
theorem own_right {fr t : Int} : ∀ (l : List A3) (s : Int) (k : Nat) (x : A3), Chain fr s l → l[k]? = some x → x.p ≤ t → t < x.p + x.a → ownT fr l t = x.s
  | [], _, _, _, _, h, _, _ => by simp at h
  | y :: l, s, 0, x, hc, h, h1, h2 => by
    obtain rfl : y = x := by simpa using h
    rw [ownT, has_right hc.1.2.2.1 hc.1.2.2.2, decide_eq_true h1, decide_eq_true h2]; rfl
  | y :: l, s, k + 1, x, hc, h, h1, h2 => by
    have hx : l[k]? = some x := by simpa using h
    have hg := chain_ge l _ k x hc.2 hx
    rw [ownT, has_right hc.1.2.2.1 hc.1.2.2.2, decide_eq_false (show ¬ t < y.p + y.a by omega), Bool.and_false]
    exact own_right l _ k x hc.2 hx h1 h2
theorem chain_next {fr : Int} : ∀ (l : List A3) (s : Int) (k : Nat) (x y : A3), Chain fr s l → l[k]? = some x → l[k + 1]? = some y → x.p + x.a ≤ y.p
  | [], _, _, _, _, _, h, _ => by simp at h
  | z :: l, s, 0, x, y, hc, h, h2 => by
    obtain rfl : z = x := by simpa using h
    exact (chain_ge l _ 0 y hc.2 (by simpa using h2)).1
  | z :: l, s, k + 1, x, y, hc, h, h2 => chain_next l _ k x y hc.2 (by simpa using h) (by simpa using h2)
def sumA : List A3 → Int
  | [] => 0
  | x :: l => x.a + sumA l
theorem sumA_snoc (x : A3) : ∀ l : List A3, sumA (l ++ [x]) = sumA l + x.a
  | [] => by simp [sumA]
  | y :: l => by simp only [List.cons_append, sumA, sumA_snoc x l]; omega
theorem sumA_in {fr : Int} : ∀ (l : List A3) (s : Int), Chain fr s l → s ≤ fr → 0 ≤ sumA l ∧ sumA l ≤ fr - s
  | [], _, _, h => by simp [sumA]; exact h
  | x :: l, s, h, hs => by
    have ih := sumA_in l _ h.2 h.1.2.2.2
    have := h.1
    rw [sumA]
    omega
theorem chain_take {fr : Int} : ∀ (l : List A3) (s : Int) (k : Nat), Chain fr s l → Chain fr s (l.take k)
  | _, _, 0, _ => trivial
  | [], _, _ + 1, _ => trivial
  | x :: l, s, k + 1, h => ⟨h.1, chain_take l _ k h.2⟩
theorem tick_chain (g : Int → Int) (fr : Int) : ∀ (l : List A3) (s : Int), Chain fr s l → s ≤ fr → (∀ t, s ≤ t → t < fr → g t = if covB fr l t = true then 1 else 0) → tickSum g s (fr - s).toNat = sumA l
  | [], s, _, hs, hg => by
    rw [tick_const g s 0 _ (fun j hj => by rw [hg _ (by omega) (by omega)]; rfl)]
    simp [sumA]
  | x :: l, s, h, hs, hg => by
    obtain ⟨⟨h1, h2, h3, h4⟩, h5⟩ := h
    have hcov : ∀ t, covB fr (x :: l) t = (hasB fr x t || covB fr l t) := fun _ => rfl
    have ih := tick_chain g fr l (x.p + x.a) h5 h4 (fun t ht1 ht2 => by
      rw [hg t (by omega) ht2, hcov, has_right h3 h4, decide_eq_false (show ¬ t < x.p + x.a by omega), Bool.and_false, Bool.false_or])
    have e1 : (fr - s).toNat = (x.p - s).toNat + (x.a.toNat + (fr - (x.p + x.a)).toNat) := by omega
    rw [e1, tick_add, tick_add]
    have e2 : s + ((x.p - s).toNat : Int) = x.p := by omega
    have e3 : x.p + (x.a.toNat : Int) = x.p + x.a := by omega
    rw [e2, e3, ih]
    rw [tick_const g s 0 _ (fun j hj => by
      rw [hg _ (by omega) (by omega), hcov, has_right h3 h4, decide_eq_false (show ¬ x.p ≤ s + (j : Int) by omega), chain_before l _ h5 (by omega)]; rfl)]
    rw [tick_const g x.p 1 _ (fun j hj => by
      rw [hg _ (by omega) (by omega), hcov, has_right h3 h4, decide_eq_true (show x.p ≤ x.p + (j : Int) by omega), decide_eq_true (show x.p + (j : Int) < x.p + x.a by omega)]; rfl)]
    rw [sumA]
    omega
theorem own_cov {fr t : Int} : ∀ l : List A3, (∀ x ∈ l, x.s ≠ -1) → (ownT fr l t = -1 ↔ covB fr l t = false)
  | [], _ => by simp [ownT, covB]
  | x :: l, h => by
    have hcov : covB fr (x :: l) t = (hasB fr x t || covB fr l t) := rfl
    rw [ownT, hcov]
    cases hb : hasB fr x t
    · simp only [Bool.false_eq_true, if_false, Bool.false_or]
      exact own_cov l fun y hy => h y (List.mem_cons_of_mem _ hy)
    · have := h x (by simp)
      simp [this]
theorem own_same {fr t u : Int} : ∀ l : List A3, (∀ x ∈ l, hasB fr x t = hasB fr x u) → ownT fr l t = ownT fr l u
  | [], _ => rfl
  | x :: l, h => by
    rw [ownT, ownT, h x (by simp), own_same l fun y hy => h y (List.mem_cons_of_mem _ hy)]
/-- What somebody has of a tick. -/
def gOwn (fr : Int) (l : List A3) (t : Int) : Int := if ownT fr l t = -1 then 0 else 1
theorem cut_cons (a : Int) (l : List Int) (q : Nat) : cut (a :: l) (q + 1) = cut l q := by unfold cut; simp
theorem busy_seg (fr : Int) (l : List A3) : ∀ (cs : List Int) (m : Nat), cs.length = m + 1 → busyS (rowsL fr l cs m) = segSum (gOwn fr l) cs
  | [], _, h => by simp at h
  | [a], m, h => by
    obtain rfl : m = 0 := by simpa using h.symm
    simp [rowsL, busyS, segSum]
  | a :: b :: cs, m, h => by
    obtain ⟨n, rfl⟩ : ∃ n, m = n + 1 := ⟨m - 1, by simp at h; omega⟩
    have ih := busy_seg fr l (b :: cs) n (by simpa using h)
    have e : rowsL fr l (a :: b :: cs) (n + 1) = ⟨ownT fr l a, a, b - a⟩ :: rowsL fr l (b :: cs) n := by
      unfold rowsL
      rw [List.range_succ_eq_map, List.map_cons, List.map_map]
      congr 1
    rw [e, busyS, ih, segSum]
    dsimp only
    unfold gOwn
    split <;> simp
theorem seg_same {cs : List Int} {fr : Int} {l : List A3} (h : Cuts cs fr) (hf : ∀ x ∈ l, fW fr x ∈ cs) (ht : ∀ x ∈ l, tW fr x ∈ cs) (i : Nat) (u v : Int) (hu : cs[i]? = some u) (hv : cs[i + 1]? = some v) (t : Int) (h1 : u ≤ t) (h2 : t < v) : ownT fr l t = ownT fr l u := by
  have side : ∀ c, c ∈ cs → c ≤ u ∨ v ≤ c := fun c hc => by
    obtain ⟨j, hj, rfl⟩ := List.mem_iff_getElem.1 hc
    obtain ⟨hi1, hu'⟩ := List.getElem?_eq_some_iff.1 hu
    obtain ⟨hi2, hv'⟩ := List.getElem?_eq_some_iff.1 hv
    rcases Nat.lt_or_ge i j with hij | hij
    · right
      rcases Nat.lt_or_ge (i + 1) j with h3 | h3
      · have := rising_lt h.1 h3 hj
        omega
      · obtain rfl : j = i + 1 := by omega
        omega
    · left
      rcases Nat.lt_or_ge j i with h3 | h3
      · have := rising_lt h.1 h3 hi1
        omega
      · obtain rfl : j = i := by omega
        omega
  refine own_same l fun x hx => ?_
  unfold hasB
  rcases side _ (hf x hx) with a1 | a1
  · rw [decide_eq_true (show fW fr x ≤ t by omega), decide_eq_true a1]
    rcases side _ (ht x hx) with a2 | a2
    · rw [decide_eq_false (show ¬ t < tW fr x by omega), decide_eq_false (show ¬ u < tW fr x by omega)]
    · rw [decide_eq_true (show t < tW fr x by omega), decide_eq_true (show u < tW fr x by omega)]
  · rw [decide_eq_false (show ¬ fW fr x ≤ t by omega), decide_eq_false (show ¬ fW fr x ≤ u by omega)]; rfl
/-- Of right windows, the ticks that somebody has are their lengths, together. -/
theorem busy_sum {cs : List Int} {fr : Int} {l : List A3} {m : Nat} (h : Cuts cs fr) (hm : cs.length = m + 1) (hfr : 0 ≤ fr) (hf : ∀ x ∈ l, fW fr x ∈ cs) (ht : ∀ x ∈ l, tW fr x ∈ cs) (hc : Chain fr 0 l) (hs : ∀ x ∈ l, x.s ≠ -1) : busyS (rowsL fr l cs m) = sumA l := by
  rw [busy_seg fr l cs m hm]
  have hfirst := cuts_first h
  have hlast := cuts_last h hm
  have hsame := seg_same (l := l) h hf ht
  rcases cs with _ | ⟨a, cs⟩
  · simp at hm
  · obtain rfl : a = 0 := by simpa using hfirst
    have e := seg_tick (gOwn fr l) cs 0 h.1 (fun i u v hu hv t h1 h2 => by unfold gOwn; rw [hsame i u v hu hv t h1 h2])
    rw [e]
    have hl : (0 :: cs).getLast (by simp) = fr := by
      rw [List.getLast_eq_getElem]
      obtain ⟨h1, h2⟩ := List.getElem?_eq_some_iff.1 hlast
      rw [← h2]
      congr 1
      omega
    rw [hl]
    exact tick_chain (gOwn fr l) fr l 0 hc hfr (fun t _ _ => by
      unfold gOwn
      by_cases hv : covB fr l t = true
      · rw [if_pos hv, if_neg (fun h => by rw [(own_cov l hs).1 h] at hv; cases hv)]
      · rw [if_neg hv, if_pos ((own_cov l hs).2 (by simpa using hv))])
end Go.Proofs.YtpjillclladjaaaDoor.Win
