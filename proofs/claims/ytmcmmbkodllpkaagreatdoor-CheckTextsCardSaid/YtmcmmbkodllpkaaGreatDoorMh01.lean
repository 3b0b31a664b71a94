/- What the document's Inner tells of a wrong: plain. No condition. The forms of a module's wrong: one wrap, two, or three (a window's or a need's). Plain. Condition: no list is longer than an int tells. -/
import Derived.Test.YtmcmmbkodllpkaaGreatDoorMg45
namespace Go.Proofs.YtmcmmbkodllpkaaGreatDoor.Chk

open Go.RowKit Go.PlainAid Go.Proofs.YtmcmmbkodllpkaaGreatDoor.Flt Go.Proofs.YtmcmmbkodllpkaaGreatDoor.Win Go.Proofs.YtmcmmbkodllpkaaGreatDoor.Nee Go.Proofs.YtmcmmbkodllpkaaGreatDoor.Rel

open Go.Proofs.YtmcmmbkodllpkaaGreatDoor.Prt (PT)

open Go.Proofs.YtmcmmbkodllpkaaGreatDoor.Scd (SC rgS lastS)

open Go.Proofs.YtmcmmbkodllpkaaGreatDoor.Pai (P2)

open Go.Proofs.YtmcmmbkodllpkaaGreatDoor.Act (A3)

set_option linter.unusedVariables false

set_option linter.unusedSimpArgs false

/-- The number of the window or need that is wrong, or -1. -/
def innK (q : KW) : Int := if secOf q.2 = 3 then (match q.2.drop 2 with | (_, j) :: _ => j | [] => -1) else -1
theorem fbw_first {α : Type} (f : List α → α → KW) : ∀ (l pre : List α), (fbw f pre l).1 ≠ 0 → ∃ (i : Nat) (x : α), l[i]? = some x ∧ (f (pre ++ l.take i) x).1 ≠ 0 ∧ fbw f pre l = ((f (pre ++ l.take i) x).1, (false, ((pre.length + i : Nat) : Int)) :: (f (pre ++ l.take i) x).2)
  | [], pre, h => absurd rfl h
  | x :: l, pre, h => by
    unfold fbw at h ⊢
    by_cases h0 : (f pre x).1 = 0
    · rw [if_pos h0] at h ⊢
      obtain ⟨i, y, hy, h1, h2⟩ := fbw_first f l (pre ++ [x]) h
      have e : pre ++ [x] ++ l.take i = pre ++ (x :: l).take (i + 1) := by simp
      rw [e] at h1 h2
      refine ⟨i + 1, y, by simpa using hy, h1, ?_⟩
      rw [h2]
      have e2 : (pre ++ [x]).length + i = pre.length + (i + 1) := by simp; omega
      rw [e2]
    · rw [if_neg h0]
      exact ⟨0, x, rfl, by simpa using h0, by simp⟩
theorem chkW_n8 (ids : List Int) (fr : Int) : ∀ (l : List A3) (ah : A3) (i : Nat), (chkW ids fr ah i l).1 ≠ 8
  | [], _, _ => by simp [chkW]
  | x :: l, ah, i => by
    unfold chkW
    split
    · exact chkW_n8 ids fr l _ _
    · show bad1W ids fr ah x ≠ 8
      unfold bad1W
      repeat' split
      all_goals decide
theorem chkN_n8 (ids ws : List Int) (fn : Nat) : ∀ (l : List A3) (ah : A3) (i : Nat), (chkN ids ws fn ah i l).1 ≠ 8
  | [], _, _ => by simp [chkN]
  | x :: l, ah, i => by
    unfold chkN
    split
    · exact chkN_n8 ids ws fn l _ _
    · show bad1N ids ws fn i ah x ≠ 8
      unfold bad1N
      repeat' split
      all_goals decide
theorem one_8 {ids : List Int} {last : Int} {x : SC} (h : (oneS ids last x).1 = 8) : (oneS ids last x).2 = [] := by
  unfold oneS at h ⊢
  split at h
  · rename_i h0
    rw [if_pos h0]
    split at h
    · cases h
    · rename_i h1
      rw [if_neg h1]
      split at h
      · cases h
      · exfalso
        have h' : (w1S ids x).1 = 8 := h
        unfold w1S at h'
        split at h'
        · exact chkN_n8 _ _ _ _ _ _ h'
        · exact chkW_n8 _ _ _ _ _ h'
  · rename_i h0
    rw [if_neg h0]
theorem mod_three (f : Int) (ps : List PT) (ss : List SC) (qs : List P2) (av : List A3) :
    secOf (modM f ps ss qs av).2 ≠ 3 ∨ (modM f ps ss qs av = (8, [(true, 3)]) ∧ (ss.length < 1 ∨ 16 < ss.length)) ∨
    ∃ (i : Nat) (x : SC), ss[i]? = some x ∧ (oneS (ps.map PT.id) (lastS (ss.take i)) x).1 ≠ 0 ∧ modM f ps ss qs av = ((oneS (ps.map PT.id) (lastS (ss.take i)) x).1, (true, 3) :: (false, (i : Int)) :: (oneS (ps.map PT.id) (lastS (ss.take i)) x).2) := by
  unfold modM
  by_cases h1 : (if inL (ss.map SC.id) f then ((0, []) : KW) else (10, [])).1 = 0
  rotate_left
  · rw [inS_neg h1]; exact .inl (by show (1 : Int) ≠ 3; decide)
  rw [inS_pos h1]
  by_cases h2 : (secPt ps).1 = 0
  rotate_left
  · rw [inS_neg h2]; exact .inl (by show (2 : Int) ≠ 3; decide)
  rw [inS_pos h2]
  by_cases h3 : (secSc (ps.map PT.id) ss).1 = 0
  · rw [inS_pos h3]
    by_cases h4 : (secPr (ss.map SC.id) qs).1 = 0
    rotate_left
    · rw [inS_neg h4]; exact .inl (by show (4 : Int) ≠ 3; decide)
    rw [inS_pos h4]
    by_cases h5 : (secAc (ss.map SC.id) (ps.map PT.id) av).1 = 0
    rotate_left
    · rw [inS_neg h5]; exact .inl (by show (5 : Int) ≠ 3; decide)
    rw [inS_pos h5]; exact .inl (by show (0 : Int) ≠ 3; decide)
  rw [inS_neg h3]
  by_cases h6 : (fbw (fun pre x => oneS (ps.map PT.id) (lastS pre) x) [] ss).1 = 0
  · have e : secSc (ps.map PT.id) ss = manyM ss.length 1 16 := by unfold secSc; rw [if_pos h6]
    rw [e] at h3 ⊢
    unfold manyM at h3 ⊢
    split at h3
    · rename_i hc
      rw [if_pos hc]
      exact .inr (.inl ⟨rfl, hc⟩)
    · exact absurd rfl h3
  · have e : secSc (ps.map PT.id) ss = fbw (fun pre x => oneS (ps.map PT.id) (lastS pre) x) [] ss := by unfold secSc; rw [if_neg h6]
    obtain ⟨i, x, hx, hk, hq⟩ := fbw_first _ ss [] h6
    rw [e, hq]
    simp only [List.nil_append, List.length_nil, Nat.zero_add] at hk ⊢
    exact .inr (.inr ⟨i, x, hx, hk, rfl⟩)
end Go.Proofs.YtmcmmbkodllpkaaGreatDoor.Chk
namespace Go.Proofs.YtmcmmbkodllpkaaGreatDoor.Chk

open Go.RowKit Go.PlainAid Go.Proofs.YtmcmmbkodllpkaaGreatDoor.Flt Go.Proofs.YtmcmmbkodllpkaaGreatDoor.Win Go.Proofs.YtmcmmbkodllpkaaGreatDoor.Nee Go.Proofs.YtmcmmbkodllpkaaGreatDoor.Rel

open Go.Proofs.YtmcmmbkodllpkaaGreatDoor.Prt (PT fb)

open Go.Proofs.YtmcmmbkodllpkaaGreatDoor.Scd (SC rgS lastS)

open Go.Proofs.YtmcmmbkodllpkaaGreatDoor.Pai (P2)

open Go.Proofs.YtmcmmbkodllpkaaGreatDoor.Act (A3)

set_option linter.unusedVariables false

set_option linter.unusedSimpArgs false

/-- A place. -/
def IxOk (n : Int) : Prop := 0 ≤ n ∧ n ≤ 9223372036854775807
theorem ix_of {α : Type} {l : List α} {i : Nat} {x : α} (h : l[i]? = some x) (hl : l.length ≤ 9223372036854775807) : IxOk (i : Int) := by
  have := (List.getElem?_eq_some_iff.1 h).1
  exact ⟨by omega, by omega⟩
theorem fb_ix {α : Type} (f : List α → α → Nat) : ∀ (l pre : List α), pre.length + l.length ≤ 9223372036854775807 → (fb f pre l).1 ≠ 0 → IxOk (fb f pre l).2
  | [], pre, _, h => absurd rfl h
  | x :: l, pre, hl, h => by
    unfold fb at h ⊢
    by_cases h0 : f pre x = 0
    · rw [if_pos h0] at h ⊢
      exact fb_ix f l _ (by simp at hl ⊢; omega) h
    · rw [if_neg h0]
      simp at hl
      exact ⟨by show (0 : Int) ≤ (pre.length : Int); omega, by show (pre.length : Int) ≤ _; omega⟩
theorem chkW_ix (ids : List Int) (fr : Int) : ∀ (l : List A3) (ah : A3) (i : Nat), i + l.length ≤ 9223372036854775807 → IxOk (chkW ids fr ah i l).2
  | [], _, _, _ => by unfold chkW; exact ⟨by decide, by decide⟩
  | x :: l, ah, i, h => by
    simp at h
    unfold chkW
    split
    · exact chkW_ix ids fr l x (i + 1) (by omega)
    · exact ⟨by show (0 : Int) ≤ (i : Int); omega, by show (i : Int) ≤ _; omega⟩
theorem chkN_ix (ids ws : List Int) (fn : Nat) : ∀ (l : List A3) (ah : A3) (i : Nat), i + l.length ≤ 9223372036854775807 → IxOk (chkN ids ws fn ah i l).2
  | [], _, _, _ => by unfold chkN; exact ⟨by decide, by decide⟩
  | x :: l, ah, i, h => by
    simp at h
    unfold chkN
    split
    · exact chkN_ix ids ws fn l x (i + 1) (by omega)
    · exact ⟨by show (0 : Int) ≤ (i : Int); omega, by show (i : Int) ≤ _; omega⟩
theorem one_form {ids : List Int} {last : Int} {x : SC} (hw : x.ws.length ≤ 9223372036854775807) (hn : x.ns.length ≤ 9223372036854775807) :
    (oneS ids last x).2 = [] ∨ ∃ j, (oneS ids last x).2 = [(false, j)] ∧ IxOk j := by
  unfold oneS
  split
  · split
    · exact .inl rfl
    · split
      · exact .inl rfl
      · refine .inr ⟨_, rfl, ?_⟩
        unfold w1S
        split
        · exact chkN_ix _ _ _ _ _ _ (by omega)
        · exact chkW_ix _ _ _ _ _ (by omega)
  · exact .inl rfl
/-- One wrap, two or three. -/
def Form (q : KW) : Prop :=
  (∃ n, q.2 = [(true, n)] ∧ 1 ≤ n ∧ n ≤ 5) ∨ (∃ n i, q.2 = [(true, n), (false, i)] ∧ 1 ≤ n ∧ n ≤ 5 ∧ IxOk i) ∨ (∃ i j, q.2 = [(true, 3), (false, i), (false, j)] ∧ IxOk i ∧ IxOk j)
theorem form_in {n : Int} {q r : KW} (hn : 1 ≤ n ∧ n ≤ 5) (hq : ¬ q.1 = 0) (h : q.2 = [] ∨ (∃ i, q.2 = [(false, i)] ∧ IxOk i)) : Form (inS n q r) := by
  rw [inS_neg hq]
  rcases h with h | ⟨i, h, hi⟩
  · exact .inl ⟨n, by show _ :: q.2 = _; rw [h], hn.1, hn.2⟩
  · exact .inr (.inl ⟨n, i, by show _ :: q.2 = _; rw [h], hn.1, hn.2, hi⟩)
theorem sec_form {α : Type} {g : List α → α → Nat} {l : List α} {q m : KW} (hl : l.length ≤ 9223372036854775807) (hm : m.2 = []) (he : q = if (fbw (fun pre x => (g pre x, [])) [] l).1 = 0 then m else fbw (fun pre x => (g pre x, [])) [] l) : q.2 = [] ∨ (∃ i, q.2 = [(false, i)] ∧ IxOk i) := by
  subst he
  split
  · exact .inl hm
  · rename_i h6
    obtain ⟨i, x, hx, hk, hq⟩ := fbw_first _ l [] h6
    rw [hq]
    simp only [List.length_nil, Nat.zero_add]
    exact .inr ⟨_, rfl, ix_of hx hl⟩
theorem many_nil (a b c : Nat) : (manyM a b c).2 = [] := by unfold manyM; split <;> rfl
theorem mod_form (f : Int) (ps : List PT) (ss : List SC) (qs : List P2) (av : List A3) (hp : ps.length ≤ 9223372036854775807) (hs : ss.length ≤ 9223372036854775807) (hqs : qs.length ≤ 9223372036854775807) (ha : av.length ≤ 9223372036854775807) (hw : ∀ x ∈ ss, x.ws.length ≤ 9223372036854775807 ∧ x.ns.length ≤ 9223372036854775807) (h : ¬ (modM f ps ss qs av).1 = 0) :
    Form (modM f ps ss qs av) := by
  unfold modM at h ⊢
  by_cases h1 : (if inL (ss.map SC.id) f then ((0, []) : KW) else (10, [])).1 = 0
  rotate_left
  · exact form_in (by omega) h1 (.inl (by split <;> rfl))
  rw [inS_pos h1] at h ⊢
  by_cases h2 : (secPt ps).1 = 0
  rotate_left
  · exact form_in (by omega) h2 (sec_form hp (many_nil _ _ _) rfl)
  rw [inS_pos h2] at h ⊢
  by_cases h3 : (secSc (ps.map PT.id) ss).1 = 0
  rotate_left
  · rw [inS_neg h3]
    by_cases h6 : (fbw (fun pre x => oneS (ps.map PT.id) (lastS pre) x) [] ss).1 = 0
    · have e : secSc (ps.map PT.id) ss = manyM ss.length 1 16 := by unfold secSc; rw [if_pos h6]
      rw [e]
      exact .inl ⟨3, by show _ :: (manyM _ _ _).2 = _; rw [many_nil], by omega, by omega⟩
    · have e : secSc (ps.map PT.id) ss = fbw (fun pre x => oneS (ps.map PT.id) (lastS pre) x) [] ss := by unfold secSc; rw [if_neg h6]
      obtain ⟨i, x, hx, hk, hq⟩ := fbw_first _ ss [] h6
      rw [e, hq]
      simp only [List.nil_append, List.length_nil, Nat.zero_add] at hk ⊢
      have hi := ix_of hx hs
      have hwx := hw x (List.mem_of_getElem? hx)
      rcases one_form (ids := ps.map PT.id) (last := lastS (ss.take i)) hwx.1 hwx.2 with h7 | ⟨j, h7, hj⟩
      · exact .inr (.inl ⟨3, (i : Int), by show _ :: _ :: (oneS _ _ _).2 = _; rw [h7], by omega, by omega, hi⟩)
      · exact .inr (.inr ⟨(i : Int), j, by show _ :: _ :: (oneS _ _ _).2 = _; rw [h7], hi, hj⟩)
  rw [inS_pos h3] at h ⊢
  by_cases h4 : (secPr (ss.map SC.id) qs).1 = 0
  rotate_left
  · refine form_in (by omega) h4 ?_
    unfold secPr
    split
    · exact .inl (many_nil _ _ _)
    · rename_i h8
      refine .inr ⟨_, rfl, ?_⟩
      unfold badR at h8 ⊢
      exact fb_ix _ _ _ (by simp; omega) h8
  rw [inS_pos h4] at h ⊢
  by_cases h5 : (secAc (ss.map SC.id) (ps.map PT.id) av).1 = 0
  rotate_left
  · exact form_in (by omega) h5 (sec_form ha (many_nil _ _ _) rfl)
  rw [inS_pos h5] at h
  exact absurd rfl h
theorem inn_one {q : KW} {n : Int} (h : q.2 = [(true, n)]) : innK q = -1 := by unfold innK; rw [h]; split <;> rfl
theorem inn_two {q : KW} {n i : Int} (h : q.2 = [(true, n), (false, i)]) : innK q = -1 := by unfold innK; rw [h]; split <;> rfl
theorem inn_three {q : KW} {i j : Int} (h : q.2 = [(true, 3), (false, i), (false, j)]) : innK q = j := by unfold innK; rw [h]; rfl
end Go.Proofs.YtmcmmbkodllpkaaGreatDoor.Chk
