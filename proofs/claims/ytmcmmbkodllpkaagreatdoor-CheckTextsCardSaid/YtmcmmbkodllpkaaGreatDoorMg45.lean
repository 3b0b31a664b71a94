/- Modules that came in; the ids of both sides are one; what class a wrong has; the chapter's example. Condition: the variables hold the codes' values. -/
import Derived.Test.YtmcmmbkodllpkaaGreatDoorMg44
import Derived.Test.YtmcmmbkodllpkaaGreatDoorMg26
import Derived.Test.YtmcmmbkodllpkaaGreatDoorMg25
import Derived.Test.YtmcmmbkodllpkaaGreatDoorMg05
namespace Go.Proofs.YtmcmmbkodllpkaaGreatDoor.Chk

open Go.RowKit Go.PlainAid Go.Proofs.YtmcmmbkodllpkaaGreatDoor.Args Go.Proofs.YtmcmmbkodllpkaaGreatDoor.Flt Go.Proofs.YtmcmmbkodllpkaaGreatDoor.Rdr

open Go.Proofs.YtmcmmbkodllpkaaGreatDoor.Cel (own_slice own_keep own_base)

open Go.Proofs.YtmcmmbkodllpkaaGreatDoor.Prt (PT PartsAt parts_of)

open Go.Proofs.YtmcmmbkodllpkaaGreatDoor.Scd (SC ScdAt ScdAt.kept WideS)

open Go.Proofs.YtmcmmbkodllpkaaGreatDoor.Pai (P2 PairsAt PairsAt.kept pairs_of)

open Go.Proofs.YtmcmmbkodllpkaaGreatDoor.Act (A3 ActsAt ActsAt.kept I64 Wide acts_of)

open Go.Proofs.YtmcmmbkodllpkaaGreatDoor.Lat (LP LS LPAt LSAt MAt cparts_any cscheds_any rscheds_any rparts_any PidPost IdsPost ZAt ZAt.kept zat_own mod_in list_of)

set_option linter.unusedVariables false

set_option linter.unusedSimpArgs false

theorem rows3_of {w : World} {a : Option Addr} {len cap : Nat} (h : IsRecs w a len cap [.int .i64, .int .i64, .int .i64]) : ∃ l : List A3, l.length = len ∧ ActsAt w a l ∧ (∀ x ∈ l, Wide x) ∧ (a = none → cap = 0) ∧ len ≤ cap ∧ cap ≤ maxLen := by
  obtain ⟨l, h1, h2, h3, h4, h5⟩ := acts_of h
  refine ⟨l, h1, h2, h3, ?_, h4, h5⟩
  rcases h with ⟨rfl, rfl, rfl⟩ | ⟨y, rfl, _⟩
  · exact fun _ => rfl
  · exact fun h => by cases h
theorem scheds_of {w : World} {a : Option Addr} {len cap : Nat} (h : IsRows w a len cap [.one (.int .i64), .one (.int .i64), .recs [.int .i64, .int .i64, .int .i64], .recs [.int .i64, .int .i64, .int .i64]]) : ∃ l : List SC, l.length = len ∧ ScdAt w a l ∧ (∀ x ∈ l, WideS x) ∧ len ≤ cap ∧ cap ≤ maxLen := by
  rcases h with ⟨rfl, rfl, rfl⟩ | ⟨y, rfl, hlc, hcm, hcell⟩
  · exact ⟨[], rfl, fun i x hx => by simp at hx, by simp, Nat.le_refl _, Nat.zero_le _⟩
  · obtain ⟨l, hl, hp⟩ := list_of (fun i (x : SC) => (∃ B cb C cc, w.cell? (y.add (i * 4)) = some (.int .i64 x.id) ∧ w.cell? ⟨(y.add (i * 4)).block, (y.add (i * 4)).off + 1, none⟩ = some (.int .i64 x.fr) ∧ w.cell? ⟨(y.add (i * 4)).block, (y.add (i * 4)).off + 2, none⟩ = some (.slice B x.ws.length cb) ∧ w.cell? ⟨(y.add (i * 4)).block, (y.add (i * 4)).off + 3, none⟩ = some (.slice C x.ns.length cc) ∧
        ActsAt w B x.ws ∧ (B = none → cb = 0) ∧ x.ws.length ≤ cb ∧ cb ≤ maxLen ∧ ActsAt w C x.ns ∧ (C = none → cc = 0) ∧ x.ns.length ≤ cc ∧ cc ≤ maxLen) ∧ WideS x) len (by
      intro i hi
      obtain ⟨_, c0, s, rfl, hs⟩ := hcell i hi 0 _ rfl
      obtain ⟨_, c1, f, rfl, hf⟩ := hcell i hi 1 _ rfl
      obtain ⟨_, c2, B, bl, bc, rfl, hr⟩ := hcell i hi 2 _ rfl
      obtain ⟨_, c3, C, cl, cc, rfl, hr2⟩ := hcell i hi 3 _ rfl
      obtain ⟨ws, w1, w2, w3, w4, w5, w6⟩ := rows3_of hr
      obtain ⟨ns, n1, n2, n3, n4, n5, n6⟩ := rows3_of hr2
      subst w1 n1
      exact ⟨⟨s, f, ws, ns⟩, ⟨B, bc, C, cc, c0, c1, c2, c3, w2, w4, w5, w6, n2, n4, n5, n6⟩, bounds_i64 hs, w3, n3⟩)
    refine ⟨l, hl, fun i x hx => ?_, fun x hx => ?_, hlc, hcm⟩
    · obtain ⟨⟨B, cb, C, cc, h⟩, _⟩ := hp i x hx
      exact ⟨y, B, cb, C, cc, rfl, h⟩
    · obtain ⟨i, hi, rfl⟩ := List.mem_iff_getElem.1 hx
      exact (hp i _ (List.getElem?_eq_getElem hi)).2

/-- A module that came in, whole. -/
theorem bmod_in {w : World} {aj : Array Value} (h : IsMod w modK aj) : ∃ (e f : Int) (PA SA QA AA : Option Addr) (np pc ns sc nq qc na acp : Nat) (ps : List PT) (ss : List SC) (qs : List P2) (av : List A3) (lp : List LP) (ls : List LS) (lq : List Go.Proofs.YtmcmmbkodllpkaaGreatDoor.Lat.P2),
    aj = #[.int .u64 e, .int .i64 f, .slice PA np pc, .slice SA ns sc, .slice QA nq qc, .slice AA na acp] ∧ BMod w PA SA QA AA np ns nq na ps ss qs av ∧ MAt w PA SA QA np ns nq lp ls lq ∧ na ≤ maxLen := by
  obtain ⟨e, f, PA, SA, QA, AA, np, pc, ns, sc, nq, qc, na, acp, lp, ls, lq, haj, hm, hna, _⟩ := mod_in h
  obtain ⟨hsz, hk⟩ := h
  subst haj
  obtain ⟨v2, h2, PA', np', pc', hp, hpr⟩ := hk 2 _ rfl
  obtain ⟨v3, h3, SA', ns', sc', hs, hsr⟩ := hk 3 _ rfl
  obtain ⟨v4, h4, QA', nq', qc', hq, hqr⟩ := hk 4 _ rfl
  obtain ⟨v5, h5, AA', na', acp', ha, har⟩ := hk 5 _ rfl
  subst hp hs hq ha
  cases h2; cases h3; cases h4; cases h5
  obtain ⟨ps, p1, p2, p3, _⟩ := parts_of hpr
  obtain ⟨ss, s1, s2, s3, _⟩ := scheds_of hsr
  obtain ⟨qs, q1, q2, q3, _⟩ := pairs_of hqr
  obtain ⟨av, a1, a2, a3, _⟩ := acts_of har
  exact ⟨e, f, _, _, _, _, _, _, _, _, _, _, _, _, ps, ss, qs, av, lp, ls, lq, rfl, ⟨p2, s2, q2, a2, p1, s1, q1, a1, fun x hx => (p3 x hx).1, s3, q3, a3⟩, hm, hna⟩
theorem below_n (w : World) (n : Nat) : Below w.heap.size w (w.drewN n) := ⟨rfl, rfl, rfl, Nat.le_refl _, fun _ _ => rfl⟩
theorem i_ext {l m : List Int} {n : Nat} (h1 : l.length = n) (h2 : m.length = n) (h : ∀ (j : Nat) (x y : Int), j < n → l[j]? = some x → m[j]? = some y → x = y) : l = m := by
  apply List.ext_getElem?
  intro j
  rcases Nat.lt_or_ge j n with hj | hj
  · have e1 : l[j]? = some l[j] := List.getElem?_eq_getElem (by omega)
    have e2 : m[j]? = some m[j] := List.getElem?_eq_getElem (by omega)
    rw [e1, e2, h j _ _ hj e1 e2]
  · rw [List.getElem?_eq_none (by omega), List.getElem?_eq_none (by omega)]
set_option maxRecDepth 4000 in
set_option maxHeartbeats 1600000 in
theorem same10_any (A D : Option Addr) (ca cd a b : Nat) (l m : List Int) (w : World) (h1 : ZAt w A l) (h2 : ZAt w D m) (ha : l.length = a) (hb : m.length = b) (hl : a ≤ 1000000) (hm : b ≤ 1000000) :
    Calls Tryz.prog 11 #[.slice A a ca, .slice D b cd] w fun e w' => e = .returned (.bool (decide (l = m))) ∧ Below w.heap.size w w' := by
  by_cases hab : a = b
  · subst hab
    have HA := Lib.hid ha
    have HB := Lib.hid hb
    have H1 := Lib.hid h1
    have H2 := Lib.hid h2
    have HL : Hid (a ≤ 1000000) := hl
    obtain ⟨z, hz⟩ : ∃ z, decide (l = m) = z := ⟨_, rfl⟩
    rw [hz]
    have HZ := Lib.hid hz
    clear h1 h2 ha hb hz hl hm
    have tne : ((a : Int) != (a : Int)) = false := by simp
    go_enter Tryz.func11, Tryz.ntmps11
    go_wp2
    go_loopw [5] (fun i wr => ∃ k n : Nat, k ≤ a ∧ i = .int .i64 k ∧ wr = w.drewN n ∧ ∀ (j : Nat) x y, j < k → l[j]? = some x → m[j]? = some y → x = y) (fun i _ => a - (intOf i).toNat)
    case atStart => exact ⟨0, 0, Nat.zero_le _, rfl, rfl, fun j x y h => absurd h (by omega)⟩
    case round =>
      obtain ⟨k, n, hk, rfl, hw, hall⟩ := hrel
      have HALL := Lib.hid hall
      have HW := Lib.hid hw
      by_cases hlt : k < a
      · obtain ⟨x, hx⟩ : ∃ x, l[k]? = some x := ⟨_, List.getElem?_eq_getElem (by rw [HA.out]; exact hlt)⟩
        obtain ⟨y, hy⟩ : ∃ y, m[k]? = some y := ⟨_, List.getElem?_eq_getElem (by rw [HB.out]; exact hlt)⟩
        obtain ⟨ax, rfl, c1⟩ := H1.out k x hx
        obtain ⟨ay, rfl, c2⟩ := H2.out k y hy
        have c1' : wr.cell? (ax.add k) = some (.int .i64 x) := by rw [hw]; exact c1
        have c2' : wr.cell? (ay.add k) = some (.int .i64 y) := by rw [hw]; exact c2
        have HX := Lib.hid hx
        have HY := Lib.hid hy
        have hki : (0 : Int) ≤ k := by omega
        have hka : (k : Int) < a := by omega
        have hk1 : IntKind.i64.wrap ((k : Int) + 1) = (k : Int) + 1 := IntWalk.i64_in _ (by have := HL.out; omega)
        clear hall hw hx hy c1 c2 H1 H2
        by_cases hq : x = y
        · have HQ := Lib.hid hq
          have tb : (x != y) = false := by simp [hq]
          clear hq
          go_wp2
          go_quiet (fail)
          go_wp2
          go_roundw
          case rel => exact ⟨k + 1, n + nq, by omega, by go_num, by rw [HW.out, World.drewN_drewN], fun j x' y' hj h3 h4 => by
            rcases (show j < k ∨ j = k by omega) with h | rfl
            · exact HALL.out j x' y' h h3 h4
            · obtain rfl : x = x' := Option.some.inj (HX.out.symm.trans h3)
              obtain rfl : y = y' := Option.some.inj (HY.out.symm.trans h4)
              exact HQ.out⟩
          case measure => simp [intOf]; omega
        · have HQ : Hid (¬ x = y) := hq
          have tb : (x != y) = true := by simp [hq]
          clear hq
          have hzf : z = false := by
            rw [← HZ.out]
            exact decide_eq_false fun e => HQ.out (Option.some.inj (HX.out.symm.trans ((by rw [e] : l[k]? = m[k]?).trans HY.out)))
          subst hzf
          go_wp2
          go_quiet (fail)
          have HBQ : Hid (Below w.heap.size w (wr.drewN nq)) := by rw [HW.out]; exact (below_n w n).trans ((below_n (w.drewN n) nq))
          go_wp2
          go_ret
          exact ⟨rfl, HBQ.out⟩
      · obtain rfl : k = a := by omega
        have hzt : z = true := by rw [← HZ.out]; exact decide_eq_true (i_ext HA.out HB.out HALL.out)
        subst hzt
        have HBQ : Hid (Below w.heap.size w wr) := by rw [HW.out]; exact below_n w n
        clear hall hw
        go_wp2
        go_ret
        exact ⟨rfl, HBQ.out⟩
  · have tne : ((a : Int) != (b : Int)) = true := by simp; omega
    have hz : decide (l = m) = false := decide_eq_false fun e => hab (by rw [← ha, ← hb, e])
    rw [hz]
    clear h1 h2 ha hb hz hab
    go_enter Tryz.func11, Tryz.ntmps11
    go_wp2
    go_ret
    exact ⟨rfl, Below.refl _ _⟩

/-- Two rows of the same numbers. -/
theorem same_own (zs : List Int) (V V' : Value) (n B B' : Nat) (w : World) (ho : w.ownsRow B 3 1 V n (zs.map (Value.int .i64))) (ho' : w.ownsRow B' 3 1 V' n (zs.map (Value.int .i64))) (hl : n ≤ 1000000) :
    Calls Tryz.prog 11 #[V, V'] w fun e w' => e = .returned (.bool true) ∧ Below w.heap.size w w' := by
  obtain ⟨A, c, rfl⟩ := own_slice ho
  obtain ⟨A', c', rfl⟩ := own_slice ho'
  have hn : zs.length = n := by have := ho.1; rw [List.length_map] at this; omega
  have h := same10_any A A' c c' n n zs zs w (zat_own ho) (zat_own ho') hn hn hl hl
  rw [decide_eq_true (show zs = zs from rfl)] at h
  exact h
/-! ### Wraps are few -/

def FewW (n : Nat) (q : KW) : Prop := q.2.length ≤ n
theorem few_fbw {α : Type} {f : List α → α → KW} {n : Nat} (hf : ∀ pre x, FewW n (f pre x)) : ∀ (l pre : List α), FewW (n + 1) (fbw f pre l)
  | [], _ => by unfold fbw FewW; simp
  | x :: l, pre => by
    unfold fbw
    split
    · exact few_fbw hf l _
    · have := hf pre x
      unfold FewW at this ⊢
      show _ + 1 ≤ _
      omega
theorem few_many (a b c : Nat) : FewW 0 (manyM a b c) := by unfold manyM; split <;> exact Nat.zero_le _
theorem few_le {n m : Nat} {q : KW} (h : FewW n q) (hm : n ≤ m) : FewW m q := Nat.le_trans h hm
theorem few_in {n : Nat} {q r : KW} (k : Int) (h : FewW n q) (hr : FewW (n + 1) r) : FewW (n + 1) (inS k q r) := by
  unfold inS
  split
  · exact hr
  · show _ + 1 ≤ _
    have : q.2.length ≤ n := h
    omega
theorem few_one (ids : List Int) (last : Int) (x : SC) : FewW 1 (oneS ids last x) := by
  unfold oneS FewW
  split
  · split
    · simp
    · split <;> simp
  · simp
theorem few_mod (f : Int) (ps : List PT) (ss : List SC) (qs : List P2) (av : List A3) : (modM f ps ss qs av).2.length ≤ 1000000 := by
  have h : FewW 3 (modM f ps ss qs av) := by
    unfold modM
    refine few_in 1 (by split <;> exact Nat.zero_le _) (few_in 2 ?_ (few_in 3 ?_ (few_in 4 ?_ (few_in 5 ?_ (Nat.zero_le _)))))
    · unfold secPt; split
      · exact few_le (few_many _ _ _) (by omega)
      · exact few_le (few_fbw (n := 0) (fun _ _ => Nat.le_refl _) _ _) (by omega)
    · unfold secSc; split
      · exact few_le (few_many _ _ _) (by omega)
      · exact few_fbw (n := 1) (fun _ x => few_one _ _ x) _ _
    · unfold secPr; split
      · exact few_le (few_many _ _ _) (by omega)
      · show 1 ≤ 2; omega
    · unfold secAc; split
      · exact few_le (few_many _ _ _) (by omega)
      · exact few_le (few_fbw (n := 0) (fun _ _ => Nat.le_refl _) _ _) (by omega)
  exact Nat.le_trans h (by omega)
/-- What an error of a module tells. -/
theorem of_K {w : World} {x : Value} {q : KW} (h : WrongK w x q) (hl : q.2.length ≤ 1000000) (h0 : q.1 = 0 → q = (0, [])) :
    Calls Tryz.prog 9 #[x] w fun e w' => e = .returned (fV q) ∧ Below w.heap.size w w' := by
  rcases h with ⟨h, rfl⟩ | ⟨_, _, h⟩
  · rw [h0 h]; exact of_nil w
  · exact of_any x q.2 q.1 w h hl
theorem field_0 (a b c : Int) (w : World) : (Instr.field 36 (.agg #[.int .i64 a, .int .i64 b, .int .i64 c]) 0).run Tryz.prog w = .ok (.int .i64 a) w := by kernel_rfl
set_option maxRecDepth 4000 in
theorem class_K {w : World} {x : Value} {q : KW} (h : WrongK w x q) (hl : q.2.length ≤ 1000000) (h0 : q.1 = 0 → q = (0, [])) :
    Calls Tryz.prog 10 #[x] w fun e w' => e = .returned (.int .i64 (q.1 : Int)) ∧ Below w.heap.size w w' := by
  have HO : Hid (Calls Tryz.prog 9 #[x] w fun e w' => e = .returned (.agg #[.int .i64 (q.1 : Int), .int .i64 (secOf q.2), .int .i64 (atOf q.2)]) ∧ Below w.heap.size w w') := of_K h hl h0
  obtain ⟨a, ha⟩ : ∃ a : Int, (q.1 : Int) = a := ⟨_, rfl⟩
  obtain ⟨b, hb⟩ : ∃ a : Int, secOf q.2 = a := ⟨_, rfl⟩
  obtain ⟨c, hc⟩ : ∃ a : Int, atOf q.2 = a := ⟨_, rfl⟩
  rw [ha, hb, hc] at HO
  rw [ha]
  clear h hl h0 ha hb hc
  go_enter Tryz.func10, Tryz.ntmps10
  go_wp2_with fail
  refine HO.out.mono ?_
  rintro e w1 ⟨rfl, hb⟩
  have hf : ∀ wx : World, (Instr.field 36 (.agg #[.int .i64 a, .int .i64 b, .int .i64 c]) 0).run Tryz.prog wx = .ok (.int .i64 a) wx := field_0 a b c
  go_wp2
  go_ret
  exact ⟨rfl, hb⟩
theorem inS_z {n : Int} {q r : KW} (h : (inS n q r).1 = 0) : inS n q r = r := by
  unfold inS at h ⊢
  split
  · rfl
  · rename_i hq
    rw [if_neg hq] at h
    exact absurd h hq
theorem mod_zero (f : Int) (ps : List PT) (ss : List SC) (qs : List P2) (av : List A3) (h : (modM f ps ss qs av).1 = 0) : modM f ps ss qs av = (0, []) := by
  unfold modM at h ⊢
  have e1 := inS_z h; rw [e1] at h ⊢
  have e2 := inS_z h; rw [e2] at h ⊢
  have e3 := inS_z h; rw [e3] at h ⊢
  have e4 := inS_z h; rw [e4] at h ⊢
  exact inS_z h
theorem awk_mod {W : World} {p s : Nat} (x0 : W.heap[p]? = some (.cells #[.int .i64 0, .string ⟨#[65]⟩, .bool false, .slice none 0 0] 52 (0, 0))) (x1 : W.heap[s]? = some (.cells #[.int .i64 0, .int .i64 5, .slice none 0 0, .slice none 0 0] 49 (0, 0))) :
    BMod W (some ⟨p, 0, none⟩) (some ⟨s, 0, none⟩) none none 1 1 0 0 [⟨0, ⟨#[65]⟩, false, []⟩] [⟨0, 5, [], []⟩] [] [] ∧ MAt W (some ⟨p, 0, none⟩) (some ⟨s, 0, none⟩) none 1 1 0 [⟨0, ⟨#[65]⟩, false, none, 0, 0⟩] [⟨0, 5, none, 0, 0, none, 0, 0⟩] [] := by
  have p0 := cell_of_row _ _ 0 _ _ _ x0
  have p1 := cell_of_row _ _ 1 _ _ _ x0
  have p2 := cell_of_row _ _ 2 _ _ _ x0
  have p3 := cell_of_row _ _ 3 _ _ _ x0
  have s0 := cell_of_row _ _ 0 _ _ _ x1
  have s1 := cell_of_row _ _ 1 _ _ _ x1
  have s2 := cell_of_row _ _ 2 _ _ _ x1
  have s3 := cell_of_row _ _ 3 _ _ _ x1
  simp only [List.getElem?_toArray, List.getElem?_cons_zero, List.getElem?_cons_succ] at p0 p1 p2 p3 s0 s1 s2 s3
  have h0 : (⟨p, 0, none⟩ : Addr).add (0 * 4) = ⟨p, 0, none⟩ := by simp [Addr.add]
  have h1 : (⟨s, 0, none⟩ : Addr).add (0 * 4) = ⟨s, 0, none⟩ := by simp [Addr.add]
  have na : ∀ A, ActsAt W A [] := fun A i x hx => by simp at hx
  refine ⟨⟨?_, ?_, fun i x hx => by simp at hx, na _, rfl, rfl, rfl, rfl, ?_, ?_, fun x hx => by simp at hx, fun x hx => by simp at hx⟩, ⟨?_, ?_, fun i x hx => by simp at hx, rfl, rfl, rfl, ?_, ?_, fun x hx => by simp at hx, by unfold maxLen; omega, by unfold maxLen; omega, by unfold maxLen; omega⟩⟩
  · intro i x hx
    match i, hx with
    | 0, hx =>
      obtain rfl := Option.some.inj hx
      refine ⟨_, none, 0, rfl, ?_⟩
      rw [h0]
      exact ⟨p0, p1, p2, p3, fun i x hx => by simp at hx, fun _ => rfl, Nat.le_refl _, Nat.zero_le _⟩
    | i + 1, hx => simp at hx
  · intro i x hx
    match i, hx with
    | 0, hx =>
      obtain rfl := Option.some.inj hx
      refine ⟨_, none, 0, none, 0, rfl, ?_⟩
      rw [h1]
      exact ⟨s0, s1, s2, s3, na _, fun _ => rfl, Nat.le_refl _, Nat.zero_le _, na _, fun _ => rfl, Nat.le_refl _, Nat.zero_le _⟩
    | i + 1, hx => simp at hx
  · intro x hx
    obtain rfl := List.mem_singleton.1 hx
    exact ⟨⟨by show (_ : Int) ≤ 0; omega, by show (0 : Int) ≤ _; omega⟩, by show 1 ≤ _; unfold maxLen; omega⟩
  · intro x hx
    obtain rfl := List.mem_singleton.1 hx
    exact ⟨⟨by show (_ : Int) ≤ 0; omega, by show (0 : Int) ≤ _; omega⟩, fun x hx => by simp at hx, fun x hx => by simp at hx⟩
  · intro i x hx
    match i, hx with
    | 0, hx =>
      obtain rfl := Option.some.inj hx
      refine ⟨_, rfl, ?_⟩
      rw [h0]
      exact ⟨p0, p1, p2, p3⟩
    | i + 1, hx => simp at hx
  · intro i x hx
    match i, hx with
    | 0, hx =>
      obtain rfl := Option.some.inj hx
      refine ⟨_, rfl, ?_⟩
      rw [h1]
      exact ⟨s0, s1, s2, s3⟩
    | i + 1, hx => simp at hx
  · intro x hx
    obtain rfl := List.mem_singleton.1 hx
    exact ⟨by show (_ : Int) ≤ 0; omega, by show (0 : Int) ≤ _; omega⟩
  · intro x hx
    obtain rfl := List.mem_singleton.1 hx
    exact ⟨by show (_ : Int) ≤ 0; omega, by show (0 : Int) ≤ _; omega⟩
def awkP : PT := ⟨0, ⟨#[65]⟩, false, []⟩
def awkS : SC := ⟨0, 5, [], []⟩
theorem awk_modM : modM 1 [awkP] [awkS] [] [] = (10, [(true, 1)]) := mod_first (by rfl)
set_option maxRecDepth 8000 in
set_option maxHeartbeats 3200000 in
/-- The chapter's example. -/
theorem awake16 (w : World) (hn : Names w) :
    Calls Tryz.prog 6 #[] w fun e w' => e = .returned (.bool true) ∧ Below w.heap.size w w' := by
  have hb0 : Below w.heap.size w ((w.alloc (.cells #[.int .i64 0, .string ⟨#[65]⟩, .bool false, .slice none 0 0] 52)).alloc (.cells #[.int .i64 0, .int .i64 5, .slice none 0 0, .slice none 0 0] 49)) := ((Below.refl _ _).alloc (Nat.le_refl _) _).alloc (by simp) _
  have x0 : ((w.alloc (.cells #[.int .i64 0, .string ⟨#[65]⟩, .bool false, .slice none 0 0] 52)).alloc (.cells #[.int .i64 0, .int .i64 5, .slice none 0 0, .slice none 0 0] 49)).heap[w.heap.size]? = some (.cells #[.int .i64 0, .string ⟨#[65]⟩, .bool false, .slice none 0 0] 52 (0, 0)) := (heap_alloc_old _ _ (by simp)).trans (heap_alloc_new _ _)
  have x1 : ((w.alloc (.cells #[.int .i64 0, .string ⟨#[65]⟩, .bool false, .slice none 0 0] 52)).alloc (.cells #[.int .i64 0, .int .i64 5, .slice none 0 0, .slice none 0 0] 49)).heap[w.heap.size + 1]? = some (.cells #[.int .i64 0, .int .i64 5, .slice none 0 0, .slice none 0 0] 49 (0, 0)) := by
    have := heap_alloc_new (w.alloc (.cells #[.int .i64 0, .string ⟨#[65]⟩, .bool false, .slice none 0 0] 52)) (.cells #[.int .i64 0, .int .i64 5, .slice none 0 0, .slice none 0 0] 49)
    simpa using this
  have HMA := Lib.hid (module_any (e := 0) (f := 1) (pc := 1) (sc := 1) (qc := 0) (acp := 0) (hn.kept hb0) (awk_mod x0 x1).1 (awk_mod x0 x1).2 (by omega) (by omega) (by omega) (by omega) (by intro x hx; obtain rfl := List.mem_singleton.1 hx; exact ⟨Nat.zero_le _, Nat.zero_le _⟩))
  have HB0 := Lib.hid hb0
  clear hn hb0 x0 x1
  go_enter Tryz.func6, Tryz.ntmps6
  go_wp2_with fail
  refine HMA.out.mono ?_
  rintro e W1 ⟨x, rfl, hx, hb1⟩
  have hx : WrongK W1 x (10, [(true, 1)]) := hx
  have HB1 := Lib.hid (HB0.out.trans (hb1.mono HB0.out.size))
  have HOF : Hid (Calls Tryz.prog 9 #[x] W1 fun e w' => e = .returned (.agg #[.int .i64 10, .int .i64 1, .int .i64 0]) ∧ Below W1.heap.size W1 w') := of_K hx (by show 1 ≤ 1000000; omega) (fun h => by cases h)
  have HCL : Hid (∀ W, Below W1.heap.size W1 W → Calls Tryz.prog 10 #[x] W fun e w' => e = .returned (.int .i64 10) ∧ Below W.heap.size W w') := fun W b => class_K (hx.kept b) (by show 1 ≤ 1000000; omega) (fun h => by cases h)
  have heq : ∀ wx : World, (Op.equalIn 10000 36 (.agg #[.int .i64 10, .int .i64 1, .int .i64 0]) (.agg #[.int .i64 10, .int .i64 1, .int .i64 0])).run Tryz.prog wx = .ok true wx := fun wx => eq_flt 10 1 0 wx
  clear hx hb1 HMA HB0
  go_wp2_with (first
    | (go_at_call 9; refine HOF.out.mono ?_; rintro e W2 ⟨rfl, hb2⟩; have HB2 := Lib.hid hb2; clear hb2)
    | (go_at_call 10; refine (HCL.out _ HB2.out).mono ?_; rintro e W3 ⟨rfl, hb3⟩; have HB3 := Lib.hid (HB1.out.trans ((HB2.out.trans (hb3.mono HB2.out.size)).mono HB1.out.size)); clear hb3))
  go_ret
  exact ⟨rfl, HB3.out⟩
end Go.Proofs.YtmcmmbkodllpkaaGreatDoor.Chk
