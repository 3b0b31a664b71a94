
/- The document's crew: rows of its partitions; where an id stands; another partition in the place of one. Condition: at most a thousand partitions. -/

import Derived.Test.YtjdgpbjjhgfikaaCrL

import Derived.Test.YtjdgpbjjhgfikaaPtD

import Derived.Laws.AppendOwnNone

namespace Go.Proofs.Ytjdgpbjjhgfikaa.Crw

open Go.RowKit Go.PlainAid Go.Proofs.Ytjdgpbjjhgfikaa.Args Go.Proofs.Ytjdgpbjjhgfikaa.Cel Go.Proofs.Ytjdgpbjjhgfikaa.Pt Go.Proofs.Ytjdgpbjjhgfikaa.Mpv

set_option linter.unusedVariables false

set_option linter.unusedSimpArgs false

/-- A partition of the document's, and where its rows lie. -/
structure RX where
  s : PK
  B : Option Addr
  bc : Nat
  m : Int
  st : Int
  ca : Int
  N : Option Addr
  nc : Nat
  ns : List Nat
  wr : Int
def RX.blk (r : RX) : List Value := [.int .i64 r.s.id, .string r.s.nm, .bool r.s.may, .slice r.B r.s.n r.bc, .int .i64 r.m, .int .i64 r.st, .int .i64 r.ca, .slice r.B r.s.n r.bc, .slice r.N r.s.n r.nc, .int .i64 r.wr]
def RX.q (r : RX) : QS := ⟨r.s, r.m, r.st, r.ca, r.ns, r.wr⟩
def RX.ok (r : RX) (w : World) : Prop := NumsAt w r.N r.ns ∧ r.ns.length = r.s.n ∧ CellsAt w r.B r.s.fs ∧ r.s.fs.length = r.s.n ∧ r.s.n ≤ 1000
theorem RX.ok.kept {r : RX} {w w' : World} (h : r.ok w) (b : Below w.heap.size w w') : r.ok w' := ⟨h.1.kept b, h.2.1, h.2.2.1.kept b, h.2.2.2⟩
def flR (l : List RX) : List Value := (l.map RX.blk).flatten
theorem blkR_all (l : List RX) : ∀ x ∈ l.map RX.blk, x.length = 10 := fun x hx => by obtain ⟨s, _, rfl⟩ := List.mem_map.1 hx; rfl
theorem flR_len (l : List RX) : (flR l).length = l.length * 10 := by
  unfold flR
  rw [flat_len 10 _ (blkR_all l), List.length_map]
theorem flR_get {l : List RX} {i : Nat} {r : RX} (h : l[i]? = some r) (j : Nat) (hj : j < 10) : (flR l)[i * 10 + j]? = r.blk[j]? :=
  flat_get 10 _ i r.blk (blkR_all l) (by rw [List.getElem?_map, h]; rfl) j hj
theorem flR_snoc (l : List RX) (r : RX) : flR (l ++ [r]) = flR l ++ r.blk := by unfold flR; simp
theorem flR_one (l : List RX) : ∀ u ∈ flR l, u.oneCell' = true := by
  intro u hu
  unfold flR at hu
  obtain ⟨b, hb, hub⟩ := List.mem_flatten.1 hu
  obtain ⟨s, _, rfl⟩ := List.mem_map.1 hb
  simp only [RX.blk, List.mem_cons, List.not_mem_nil, or_false] at hub
  rcases hub with rfl | rfl | rfl | rfl | rfl | rfl | rfl | rfl | rfl | rfl <;> rfl
/-- A row of the document's partitions, of the call's own: block g (where it isn't empty). -/
def RRow (w : World) (B : Nat) (V : Value) (l : List RX) : Prop := w.ownsRow B 51 10 V l.length (flR l) ∧ ∀ r ∈ l, r.ok w
theorem RRow.keep {w w' : World} {B : Nat} {V : Value} {l : List RX} (h : RRow w B V l) (b : Below w.heap.size w w') : RRow w' B V l := ⟨own_keep h.1 b, fun r hr => (h.2 r hr).kept b⟩
/-- The ten cells of one. -/
theorem RRow.cells {w : World} {B : Nat} {V : Value} {l : List RX} (h : RRow w B V l) {i : Nat} {r : RX} (hi : l[i]? = some r) :
    ∃ g c, V = .slice (some ⟨g, 0, none⟩) l.length c ∧ ∀ j, j < 10 → w.cell? ⟨g, i * 10 + j, none⟩ = r.blk[j]? := by
  have hl := (List.getElem?_eq_some_iff.1 hi).1
  rcases h.1.2 with ⟨e, h0⟩ | ⟨g, cap, cur, e, _⟩
  · omega
  · have h1 := h.1
    rw [e] at h1
    exact ⟨g, cap, e, fun j hj => (h1.cellAt (i * 10 + j) (by omega)).trans (flR_get hi j hj)⟩
def atR (l : List RX) (id : Int) : Int := match l.findIdx? (fun r => r.s.id == id) with | some k => (k : Int) | none => -1
def AtRel (l : List RX) (id : Int) (n : Nat) (w : World) (i : Value) (W : World) : Prop :=
  ∃ k : Nat, k ≤ n ∧ i = .int .i64 (k : Int) ∧ (∀ r ∈ l.take k, r.s.id ≠ id) ∧ Below w.heap.size w W
theorem idx_here {l : List RX} {id : Int} {k : Nat} {r : RX} (h : l[k]? = some r) (hid : r.s.id = id) (hb : ∀ z ∈ l.take k, z.s.id ≠ id) : atR l id = (k : Int) := by
  have hk := (List.getElem?_eq_some_iff.1 h).1
  have : l.findIdx? (fun r => r.s.id == id) = some k := by
    rw [List.findIdx?_eq_some_iff_getElem]
    refine ⟨hk, by rw [(List.getElem?_eq_some_iff.1 h).2]; simp [hid], fun j hj => ?_⟩
    have hjl : j < l.length := by omega
    have : l[j] ∈ l.take k := List.mem_of_getElem? (i := j) (by rw [List.getElem?_take_of_lt hj]; exact List.getElem?_eq_getElem hjl)
    have := hb _ this
    simpa using this
  unfold atR
  rw [this]
theorem idx_none {l : List RX} {id : Int} (hb : ∀ z ∈ l, z.s.id ≠ id) : atR l id = -1 := by
  have : l.findIdx? (fun r => r.s.id == id) = none := by
    rw [List.findIdx?_eq_none_iff]
    intro z hz
    simpa using hb z hz
  unfold atR
  rw [this]
set_option maxRecDepth 4000 in
set_option maxHeartbeats 1600000 in
theorem rat_any {w : World} {B : Nat} {V : Value} {l : List RX} (h : RRow w B V l) (hl : l.length ≤ 1000) (id : Int) :
    Calls Try.prog 13 #[V, .int .i64 id] w fun e w' => e = .returned (.int .i64 (atR l id)) ∧ Below w.heap.size w w' := by
  obtain ⟨A, c, rfl⟩ := own_slice h.1
  obtain ⟨n, hn⟩ : ∃ n, l.length = n := ⟨_, rfl⟩
  obtain ⟨v, hv⟩ : ∃ v, atR l id = v := ⟨_, rfl⟩
  have HN := Lib.hid hn
  have HR := Lib.hid h
  have HV := Lib.hid hv
  have HL : Hid (n ≤ 1000) := by show _ ≤ _; omega
  rw [hn] at HR ⊢
  rw [hv]
  clear h hl hn hv
  go_enter Try.func13, Try.ntmps13
  go_wp2_with fail
  go_loopw [5] (fun i W => AtRel l id n w i W) (fun i _ => n - (intOf i).toNat)
  case atStart => exact ⟨0, Nat.zero_le _, rfl, fun r hr => by simp at hr, Below.refl _ _⟩
  case round =>
    rename World => W
    obtain ⟨k, hk, rfl, hno, hb⟩ := hrel
    have HNO := Lib.hid hno
    have HB := Lib.hid hb
    clear hno hb
    by_cases hlt : k < n
    · obtain ⟨r, hr⟩ : ∃ r, l[k]? = some r := ⟨_, List.getElem?_eq_getElem (by rw [HN.out]; exact hlt)⟩
      obtain ⟨g, c', hv, hc⟩ := (HR.out.keep HB.out).cells hr
      injection hv with hv1 hv2 hv3
      subst hv1
      have c0 : W.cell? ⟨g, k * 10, none⟩ = some (.int .i64 r.s.id) := hc 0 (by omega)
      have HRR := Lib.hid hr
      have HLT := Lib.hid hlt
      have hkb : (k : Int) < n := by omega
      have hki : (0 : Int) ≤ k := by omega
      have hk1 : IntKind.i64.wrap ((k : Int) + 1) = (k : Int) + 1 := IntWalk.i64_in _ (by have := HL.out; omega)
      clear hr hc hv2 hv3 hlt hk
      by_cases hid : r.s.id = id
      · have t0 : (r.s.id == id) = true := by simp [hid]
        have HE : Hid (v = (k : Int)) := by show _ = _; rw [← HV.out]; exact idx_here HRR.out hid HNO.out
        clear hid
        go_wp2
        go_ret
        exact ⟨by rw [HE.out]; rfl, HB.out⟩
      · have t0 : (r.s.id == id) = false := by simp [hid]
        have HE : Hid (∀ z ∈ l.take (k + 1), z.s.id ≠ id) := fun z hz => by
          rw [List.take_add_one, HRR.out] at hz
          rcases List.mem_append.1 hz with hz | hz
          · exact HNO.out z hz
          · have : z = r := by simpa using hz
            rw [this]; exact hid
        clear hid
        go_wp2
        go_roundw
        case rel => exact ⟨k + 1, HLT.out, by go_num, HE.out, HB.out⟩
        case measure => have := HLT.out; simp [intOf]; omega
    · obtain rfl : n = k := by omega
      have HE : Hid (v = -1) := by
        show _ = _
        have h := HNO.out
        rw [List.take_of_length_le (by rw [HN.out]; exact Nat.le_refl _)] at h
        rw [← HV.out]; exact idx_none h
      clear hlt hk
      go_wp2
      go_ret
      exact ⟨by rw [HE.out]; rfl, HB.out⟩
end Go.Proofs.Ytjdgpbjjhgfikaa.Crw
