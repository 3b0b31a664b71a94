/- Pairs as the document puts them in order, and closes them by squaring: plain. It says nothing of the program. No condition. -/
import Derived.Test.YtnngldkpkhabeaaMg15
namespace Go.Proofs.Ytnngldkpkhabeaa.Pai

set_option linter.unusedVariables false

set_option linter.unusedSimpArgs false

/-- A rising row with one more, as the document lays it. -/
def insP (p : P2) : List P2 → List P2
  | [] => [p]
  | y :: l => if lessB p y then p :: y :: l else y :: insP p l
def anyP (p : P2) (l : List P2) : Bool := l.any (lessB p)
theorem insP_none (p : P2) : ∀ l, anyP p l = false → insP p l = l ++ [p]
  | [], _ => rfl
  | y :: l, h => by
    have h1 : lessB p y = false ∧ anyP p l = false := by simpa [anyP] using h
    simp only [insP, h1.1, Bool.false_eq_true, if_false, insP_none p l h1.2, List.cons_append]
theorem insP_first (p x : P2) : ∀ l, anyP p l = false → lessB p x = true → insP p (l ++ [x]) = l ++ [p, x]
  | [], _, hx => by simp [insP, hx]
  | y :: l, h, hx => by
    have h1 : lessB p y = false ∧ anyP p l = false := by simpa [anyP] using h
    simp only [List.cons_append, insP, h1.1, Bool.false_eq_true, if_false, insP_first p x l h1.2 hx]
theorem insP_snoc (p x : P2) : ∀ l, anyP p l = true → insP p (l ++ [x]) = insP p l ++ [x]
  | [], h => by simp [anyP] at h
  | y :: l, h => by
    by_cases h0 : lessB p y = true
    · simp only [List.cons_append, insP, h0, if_true]
    · have h1 : anyP p l = true := by
        unfold anyP at *
        rw [List.any_cons, Bool.or_eq_true] at h
        exact h.resolve_left h0
      simp only [List.cons_append, insP, h0, if_false, insP_snoc p x l h1]
      simp [h0]
theorem anyP_snoc (p x : P2) (l : List P2) : anyP p (l ++ [x]) = (anyP p l || lessB p x) := by simp [anyP]
theorem mem_ins (p x : P2) : ∀ l, x ∈ insP p l ↔ x = p ∨ x ∈ l
  | [] => by simp [insP]
  | y :: l => by
    unfold insP
    split
    · simp
    · rw [List.mem_cons, mem_ins p x l, List.mem_cons]
      constructor
      · rintro (h | h | h)
        · exact .inr (.inl h)
        · exact .inl h
        · exact .inr (.inr h)
      · rintro (h | h | h)
        · exact .inr (.inl h)
        · exact .inl h
        · exact .inr (.inr h)
theorem ins_rise (p : P2) : ∀ l, l.Pairwise Lt → p ∉ l → (insP p l).Pairwise Lt
  | [], _, _ => by simp [insP]
  | y :: l, h, hp => by
    have hy := (List.pairwise_cons.1 h)
    unfold insP
    split
    · rename_i hl
      have hl := (lt_iff p y).1 hl
      refine List.pairwise_cons.2 ⟨fun z hz => ?_, h⟩
      rcases List.mem_cons.1 hz with rfl | hz
      · exact hl
      · exact lt_trans hl (hy.1 z hz)
    · rename_i hl
      have hl : ¬ Lt p y := fun e => hl ((lt_iff p y).2 e)
      have hyp : Lt y p := by
        rcases lt_tri p y with h1 | h1 | h1
        · exact absurd h1 hl
        · exact absurd (by rw [h1]; simp) hp
        · exact h1
      refine List.pairwise_cons.2 ⟨fun z hz => ?_, ins_rise p l hy.2 fun h => hp (by simp [h])⟩
      rcases (mem_ins p z l).1 hz with rfl | hz
      · exact hyp
      · exact hy.1 z hz
theorem ins_len (p : P2) : ∀ l, (insP p l).length = l.length + 1
  | [] => rfl
  | y :: l => by
    unfold insP
    split
    · rfl
    · rw [List.length_cons, ins_len p l]; rfl
/-- The document's row behind so many of l's. -/
def nxP (x : P2) (l : List P2) : List P2 := if anyP x l then insP x l else l
theorem nxP_end (x : P2) (l : List P2) : insP x l = if anyP x l then nxP x l else nxP x l ++ [x] := by
  unfold nxP
  cases h : anyP x l
  · simp [insP_none x l h]
  · simp
theorem nxP_step (x y : P2) (l : List P2) : nxP x (l ++ [y]) = (if !anyP x l && lessB x y then nxP x l ++ [x] else nxP x l) ++ [y] := by
  unfold nxP
  rw [anyP_snoc]
  cases h : anyP x l
  · cases hy : lessB x y
    · simp
    · simp [insP_first x y l h hy]
  · simp [insP_snoc x y l h]
theorem nxP_len (x : P2) (l : List P2) : (nxP x l).length ≤ l.length + 1 := by
  unfold nxP; split
  · rw [ins_len]; omega
  · omega
def hasP (l : List P2) (p : P2) : Bool := l.any fun x => (x.f == p.f) && (x.t == p.t)
theorem hasP_iff (l : List P2) (p : P2) : hasP l p = true ↔ p ∈ l := by
  unfold hasP
  rw [List.any_eq_true]
  constructor
  · rintro ⟨x, hx, he⟩
    rw [← (eqB2_iff x p).1 he]; exact hx
  · intro h
    exact ⟨p, h, (eqB2_iff p p).2 rfl⟩
def putP (p : P2) (l : List P2) : List P2 := if hasP l p then l else insP p l
theorem mem_put (p x : P2) (l : List P2) : x ∈ putP p l ↔ x = p ∨ x ∈ l := by
  unfold putP
  split
  · rename_i h
    have := (hasP_iff l p).1 h
    constructor
    · exact .inr
    · rintro (rfl | h)
      · exact this
      · exact h
  · exact mem_ins p x l
theorem put_rise (p : P2) {l : List P2} (h : l.Pairwise Lt) : (putP p l).Pairwise Lt := by
  unfold putP
  split
  · exact h
  · rename_i hh
    exact ins_rise p l h fun e => hh ((hasP_iff l p).2 e)
theorem put_len (p : P2) (l : List P2) : l.length ≤ (putP p l).length ∧ (putP p l).length ≤ l.length + 1 := by
  unfold putP
  split
  · omega
  · rw [ins_len]; omega
/-- The document's order. -/
def srtD (l : List P2) : List P2 := l.foldl (fun o x => putP x o) []
theorem srtD_snoc (l : List P2) (x : P2) : srtD (l ++ [x]) = putP x (srtD l) := by simp [srtD]
theorem snocP {α : Type} {P : List α → Prop} (h0 : P []) (hs : ∀ l x, P l → P (l ++ [x])) : ∀ l, P l := by
  intro l
  have : ∀ n (l : List α), l.length = n → P l := by
    intro n
    induction n with
    | zero => intro l h; rw [List.eq_nil_of_length_eq_zero h]; exact h0
    | succ n ih =>
      intro l h
      have hne : l ≠ [] := fun e => by rw [e] at h; simp at h
      rw [← List.dropLast_concat_getLast hne]
      exact hs _ _ (ih _ (by rw [List.length_dropLast]; omega))
  exact this l.length l rfl
theorem srtD_ord (l : List P2) : Ord l (srtD l) := by
  refine snocP (P := fun l => Ord l (srtD l)) ⟨List.Pairwise.nil, fun x => by simp [srtD]⟩ (fun l x h => ?_) l
  rw [srtD_snoc]
  refine ⟨put_rise x h.rise, fun y => ?_⟩
  rw [mem_put, h.mem y, List.mem_append, List.mem_singleton]
  exact or_comm
/-- A row of pairs that rise, each of which can be reached. -/
structure Good (l N : List P2) : Prop where
  rise : N.Pairwise Lt
  conn : ∀ x ∈ N, Conn l x.f x.t
theorem Good.len {l N : List P2} (h : Good l N) : N.length ≤ l.length * l.length := conn_len h.rise h.conn
def stepQ (p : P2) (N : List P2) (q : P2) : List P2 := if p.t = q.f then putP ⟨p.f, q.t⟩ N else N
theorem good_step {l N : List P2} {p q : P2} (h : Good l N) (hp : Conn l p.f p.t) (hq : Conn l q.f q.t) : Good l (stepQ p N q) := by
  unfold stepQ
  split
  · rename_i e
    refine ⟨put_rise _ h.rise, fun x hx => ?_⟩
    rcases (mem_put _ _ _).1 hx with rfl | hx
    · rw [e] at hp; exact hp.trans hq
    · exact h.conn x hx
  · exact h
def rowQ (p : P2) (L N : List P2) : List P2 := L.foldl (stepQ p) N
def allQ (L M N : List P2) : List P2 := M.foldl (fun N p => rowQ p L N) N
theorem rowQ_snoc (p q : P2) (L N : List P2) : rowQ p (L ++ [q]) N = stepQ p (rowQ p L N) q := by simp [rowQ]
theorem allQ_snoc (p : P2) (L M N : List P2) : allQ L (M ++ [p]) N = rowQ p L (allQ L M N) := by simp [allQ]
theorem step_sub (p q : P2) (N : List P2) : ∀ x ∈ N, x ∈ stepQ p N q := fun x hx => by
  unfold stepQ
  split
  · exact (mem_put _ _ _).2 (.inr hx)
  · exact hx
theorem good_row {l N : List P2} {p : P2} (h : Good l N) (hp : Conn l p.f p.t) (L : List P2) (hL : ∀ q ∈ L, Conn l q.f q.t) : Good l (rowQ p L N) := by
  revert hL
  refine snocP (P := fun L => (∀ q ∈ L, Conn l q.f q.t) → Good l (rowQ p L N)) (fun _ => h) (fun L q ih hL => ?_) L
  rw [rowQ_snoc]
  exact good_step (ih fun x hx => hL x (by simp [hx])) hp (hL q (by simp))
theorem row_sub (p : P2) (N L : List P2) : ∀ x ∈ N, x ∈ rowQ p L N := by
  refine snocP (P := fun L => ∀ x ∈ N, x ∈ rowQ p L N) (fun x hx => hx) (fun L q ih x hx => ?_) L
  rw [rowQ_snoc]
  exact step_sub _ _ _ x (ih x hx)
theorem row_has (p : P2) (N L : List P2) : ∀ q ∈ L, p.t = q.f → (⟨p.f, q.t⟩ : P2) ∈ rowQ p L N := by
  refine snocP (P := fun L => ∀ q ∈ L, p.t = q.f → (⟨p.f, q.t⟩ : P2) ∈ rowQ p L N) (fun q h => by simp at h) (fun L r ih q hq he => ?_) L
  rw [rowQ_snoc]
  rcases List.mem_append.1 hq with hq | hq
  · exact step_sub _ _ _ _ (ih q hq he)
  · obtain rfl := List.mem_singleton.1 hq
    unfold stepQ
    rw [if_pos he]
    exact (mem_put _ _ _).2 (.inl rfl)
theorem good_all {l N L : List P2} (h : Good l N) (hL : ∀ q ∈ L, Conn l q.f q.t) (M : List P2) (hM : ∀ q ∈ M, Conn l q.f q.t) : Good l (allQ L M N) := by
  revert hM
  refine snocP (P := fun M => (∀ q ∈ M, Conn l q.f q.t) → Good l (allQ L M N)) (fun _ => h) (fun M p ih hM => ?_) M
  rw [allQ_snoc]
  exact good_row (ih fun x hx => hM x (by simp [hx])) (hM p (by simp)) L hL
theorem all_sub (L N M : List P2) : ∀ x ∈ N, x ∈ allQ L M N := by
  refine snocP (P := fun M => ∀ x ∈ N, x ∈ allQ L M N) (fun x hx => hx) (fun M p ih x hx => ?_) M
  rw [allQ_snoc]
  exact row_sub _ _ _ x (ih x hx)
theorem all_has (L N M : List P2) : ∀ p ∈ M, ∀ q ∈ L, p.t = q.f → (⟨p.f, q.t⟩ : P2) ∈ allQ L M N := by
  refine snocP (P := fun M => ∀ p ∈ M, ∀ q ∈ L, p.t = q.f → (⟨p.f, q.t⟩ : P2) ∈ allQ L M N) (fun p h => by simp at h) (fun M r ih p hp q hq he => ?_) M
  rw [allQ_snoc]
  rcases List.mem_append.1 hp with hp | hp
  · exact row_sub _ _ _ _ (ih p hp q hq he)
  · obtain rfl := List.mem_singleton.1 hp
    exact row_has _ _ _ q hq he
def sqQ (L : List P2) : List P2 := allQ L L L
theorem good_sq {l L : List P2} (h : Good l L) : Good l (sqQ L) := good_all h h.conn L h.conn
theorem sq_len {l L : List P2} (h : Good l L) : L.length ≤ (sqQ L).length := sub_len2 h.rise (all_sub L L L)
theorem sub_eq : ∀ {L M : List P2}, L.Pairwise Lt → M.Pairwise Lt → (∀ x ∈ L, x ∈ M) → M.length = L.length → ∀ x ∈ M, x ∈ L := by
  intro L M hL hM hs hl x hx
  refine Classical.byContradiction fun hn => ?_
  have h1 : (x :: L).length ≤ M.length := @sub_len P2 decP2 (x :: L) M (List.nodup_cons.2 ⟨hn, lt_nodup hL⟩) fun y hy => by
    rcases List.mem_cons.1 hy with rfl | hy
    · exact hx
    · exact hs y hy
  simp at h1
  omega
theorem sq_done {l L : List P2} (h : Good l L) (hl : ∀ x ∈ l, x ∈ L) (he : (sqQ L).length = L.length) : Clo l L := by
  refine ⟨h.rise, fun x => ⟨h.conn x, fun hc => ?_⟩⟩
  have htr : ∀ {a b c : Int}, (⟨a, b⟩ : P2) ∈ L → (⟨b, c⟩ : P2) ∈ L → (⟨a, c⟩ : P2) ∈ L := fun {a b c} h1 h2 =>
    sub_eq h.rise (good_sq h).rise (all_sub L L L) he _ (all_has L L L ⟨a, b⟩ h1 ⟨b, c⟩ h2 rfl)
  have : ∀ {a b : Int}, Conn l a b → (⟨a, b⟩ : P2) ∈ L := by
    intro a b hc
    induction hc with
    | one h1 => exact hl _ h1
    | more _ h1 ih => exact htr ih (hl _ h1)
  exact this hc
theorem good_srt {l C : List P2} (h : Ord l C) : Good l C := ⟨h.rise, fun x hx => .one ((h.mem x).1 hx)⟩
/-- Pairs closed, id by id: of the first k pairs' ids all that they reach. -/
structure Acc (C : List P2) (k : Nat) (A : List P2) : Prop where
  rise : A.Pairwise Lt
  mem : ∀ x : P2, x ∈ A ↔ (∃ p ∈ C.take k, p.f = x.f) ∧ Conn C x.f x.t
theorem Acc.start (C : List P2) : Acc C 0 [] := ⟨List.Pairwise.nil, fun x => by simp⟩
theorem Acc.stay {C A : List P2} {k : Nat} {p q : P2} (h : Acc C (k + 1) A) (hp : C[k]? = some p) (hq : C[k + 1]? = some q) (he : p.f = q.f) : Acc C (k + 1 + 1) A := by
  refine ⟨h.rise, fun x => ?_⟩
  rw [h.mem x]
  have e : C.take (k + 1 + 1) = C.take (k + 1) ++ [q] := by rw [List.take_add_one, hq]; rfl
  have hpm : p ∈ C.take (k + 1) := by rw [List.take_add_one, hp]; simp
  constructor
  · rintro ⟨⟨r, hr, hf⟩, hc⟩
    exact ⟨⟨r, by rw [e]; simp [hr], hf⟩, hc⟩
  · rintro ⟨⟨r, hr, hf⟩, hc⟩
    rw [e] at hr
    rcases List.mem_append.1 hr with hr | hr
    · exact ⟨⟨r, hr, hf⟩, hc⟩
    · obtain rfl := List.mem_singleton.1 hr
      exact ⟨⟨p, hpm, he.trans hf⟩, hc⟩
theorem Acc.more {C A : List P2} {k : Nat} {q : P2} {R : List Int} (h : Acc C k A) (hC : C.Pairwise Lt) (hq : C[k]? = some q) (hk : ∀ p, k ≠ 0 → C[k - 1]? = some p → p.f ≠ q.f) (hR : Rch C q.f R) : Acc C (k + 1) (A ++ R.map fun t => ⟨q.f, t⟩) := by
  have e : C.take (k + 1) = C.take k ++ [q] := by rw [List.take_add_one, hq]; rfl
  have hlt : ∀ r ∈ C.take k, r.f < q.f := by
    intro r hr
    obtain ⟨i, hi, rfl⟩ := List.mem_iff_getElem.1 hr
    rw [List.length_take] at hi
    have hil : i < C.length := by omega
    have hkl := (List.getElem?_eq_some_iff.1 hq).1
    have hqe := (List.getElem?_eq_some_iff.1 hq).2
    rw [List.getElem_take]
    have hl := List.pairwise_iff_getElem.1 hC
    have h1 : Lt C[i] q := by rw [← hqe]; exact hl i k hil hkl (by omega)
    have h0 : C[k - 1].f ≠ q.f := hk _ (by omega) (List.getElem?_eq_getElem (by omega))
    have h2 : Lt C[k - 1] q := by have := hl (k - 1) k (by omega) hkl (by omega); rw [hqe] at this; exact this
    have h3 : C[i].f ≤ C[k - 1].f := by
      rcases Nat.lt_or_ge i (k - 1) with hh | hh
      · have := hl i (k - 1) hil (by omega) hh
        unfold Lt at this; omega
      · have : i = k - 1 := by omega
        subst this; omega
    unfold Lt at h2
    omega
  refine ⟨?_, fun x => ?_⟩
  · rw [List.pairwise_append]
    refine ⟨h.rise, ?_, fun a ha b hb => ?_⟩
    · rw [List.pairwise_map]
      exact hR.rise.imp fun {a b} h => by unfold Lt; simp; omega
    · obtain ⟨t, _, rfl⟩ := List.mem_map.1 hb
      obtain ⟨⟨r, hr, hf⟩, _⟩ := (h.mem a).1 ha
      have := hlt r hr
      unfold Lt; simp; omega
  · rw [List.mem_append, h.mem x, e]
    constructor
    · rintro (⟨⟨r, hr, hf⟩, hc⟩ | hx)
      · exact ⟨⟨r, by simp [hr], hf⟩, hc⟩
      · obtain ⟨t, ht, rfl⟩ := List.mem_map.1 hx
        exact ⟨⟨q, by simp, rfl⟩, (hR.mem t).1 ht⟩
    · rintro ⟨⟨r, hr, hf⟩, hc⟩
      rcases List.mem_append.1 hr with hr | hr
      · exact .inl ⟨⟨r, hr, hf⟩, hc⟩
      · obtain rfl := List.mem_singleton.1 hr
        refine .inr (List.mem_map.2 ⟨x.t, (hR.mem _).2 (by rw [hf]; exact hc), p2_ext hf rfl⟩)
theorem Acc.clo {l C A : List P2} (h : Acc C C.length A) (ho : Ord l C) : Clo l A := by
  refine ⟨h.rise, fun x => ?_⟩
  rw [h.mem x, List.take_length, ho.conn]
  constructor
  · exact fun h => h.2
  · intro hc
    have hd := ((ho.conn _ _).2 hc).dom.1
    obtain ⟨p, hp, he⟩ := List.mem_map.1 hd
    exact ⟨⟨p, hp, he⟩, hc⟩
theorem Acc.len {C A : List P2} {k : Nat} (h : Acc C k A) : A.length ≤ C.length * C.length := conn_len h.rise fun x hx => ((h.mem x).1 hx).2
end Go.Proofs.Ytnngldkpkhabeaa.Pai
