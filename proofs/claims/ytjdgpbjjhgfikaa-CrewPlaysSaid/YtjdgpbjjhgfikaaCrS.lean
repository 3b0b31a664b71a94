
/- What a schedule does to the document's crew (Change): what is told, what a round keeps; the walk is open. Condition: at most a thousand partitions of a thousand cells each that started at most a million times, at most a million acts. -/

import Derived.Test.YtjdgpbjjhgfikaaCrP

import Derived.Test.YtjdgpbjjhgfikaaCrD

namespace Go.Proofs.Ytjdgpbjjhgfikaa.Crw

open Go.RowKit Go.PlainAid Go.Proofs.Ytjdgpbjjhgfikaa.Args Go.Proofs.Ytjdgpbjjhgfikaa.Cel Go.Proofs.Ytjdgpbjjhgfikaa.Pt Go.Proofs.Ytjdgpbjjhgfikaa.Mpv

open Go.Proofs.Ytjdgpbjjhgfikaa.Mod (askN startN setM setS actN actM actS)

open Go.Proofs.Ytjdgpbjjhgfikaa.Srt (AcS AcS.kept A3 forN rfor_any)

set_option linter.unusedVariables false

set_option linter.unusedSimpArgs false

/-- The document's partition behind an act. -/
def actQ (f : Int → Int) (q : QS) : QS := ⟨q.s, actM q.m (f q.s.id), goN (actS q.m (f q.s.id)) q.st, goC (actS q.m (f q.s.id)) 2 q.ca, goL (actS q.m (f q.s.id)) q.s.fs q.ns, goW (actS q.m (f q.s.id)) q.wr⟩
def didQ (f : Int → Int) (q : QS) : Bool := goes (actS q.m (f q.s.id))
theorem infoBool : (Try.prog.info? 4).map (fun i => (i.zero, i.size, i.bytes)) = some (some (.bool false), 1, 1) := by kernel_rfl
def RchRel (f : Int → Int) (l : List RX) (w : World) (n : Nat) (V U i : Value) (W : World) : Prop :=
  ∃ k out, k ≤ n ∧ i = .int .i64 ((k : Nat) : Int) ∧ ROut W w.heap.size V out ∧ out.map RX.q = (l.take k).map (fun r => actQ f r.q) ∧ out.map (fun r => (r.B, r.bc)) = (l.take k).map (fun r => (r.B, r.bc)) ∧
    W.ownsRow w.heap.size 4 1 U k ((l.take k).map fun r => Value.bool (didQ f r.q)) ∧ (∀ j, U.ownBlock = some j → V.ownBlock ≠ some j ∧ ∀ r ∈ out, r.ns ≠ [] → ∀ y, r.N = some y → j ≠ y.block) ∧ (∀ r' ∈ out, r'.ns ≠ [] → ∀ y, r'.N = some y → w.heap.size ≤ y.block ∨ ∃ r ∈ l, r.ns ≠ [] ∧ r.N = some y) ∧ Below w.heap.size w W
def RcPost (f : Int → Int) (r : RX) (W0 : World) (p d : Value) (W : World) : Prop :=
  ∃ (N' : Option Addr) (nc X : Nat), p = .pointer (some ⟨X, 0, none⟩) ∧ d = .bool (didQ f r.q) ∧ W0.heap.size ≤ X ∧ W.heap[X]? = some (.cells #[.int .i64 r.s.id, .string r.s.nm, .bool r.s.may, .slice r.B r.s.n r.bc, .int .i64 (actM r.m (f r.s.id)), .int .i64 (goN (actS r.m (f r.s.id)) r.st), .int .i64 (goC (actS r.m (f r.s.id)) 2 r.ca), .slice r.B r.s.n r.bc, .slice N' r.s.n nc, .int .i64 (goW (actS r.m (f r.s.id)) r.wr)] 51 (0, 0)) ∧
    NumsAt W N' (goL (actS r.m (f r.s.id)) r.s.fs r.ns) ∧ (∀ y, N' = some y → W0.heap.size ≤ y.block ∨ r.N = some y) ∧ Below W0.heap.size W0 W
abbrev zR : Array Value := #[.int .i64 0, .string ⟨#[]⟩, .bool false, .slice none 0 0, .int .i64 0, .int .i64 0, .int .i64 0, .slice none 0 0, .slice none 0 0, .int .i64 0]
/-- The box that was made, behind its store. -/
theorem box_stored {W : World} {X : Nat} (c : Array Value) (hc : c.size = 10) (h1 : c.all (·.oneCell') = true) (h : W.heap[X]? = some (.cells zR 51 (0, 0))) :
    Sem.run Try.prog (storeVar 51 ⟨X, 0, none⟩ (.agg c)) W = .ok () (W.setRow X c) ∧ (W.setRow X c).heap[X]? = some (.cells c 51 (0, 0)) := by
  have hr := Srt.run_storeVar_at (P := Try.prog) W X 0 _ 51 zR c h (by rw [hc]; exact size_rp) (by rw [hc]; decide) h1
  have h9 : c.toList.length = 10 := Array.length_toList.trans hc
  have e : splice zR.toList 0 c.toList = c.toList := by
    unfold splice
    rw [List.take_zero, List.nil_append, Nat.zero_add, List.drop_of_length_le (by rw [h9]; exact Nat.le_refl 10), List.append_nil]
  rw [e, Array.toArray_toList] at hr
  exact ⟨hr, setRow_heap _ _ _ _ _ _ h⟩
theorem rc_done {f : Int → Int} {r : RX} {W Wx : World} {X : Nat} {N' : Option Addr} {nc : Nat} (hX : W.heap.size ≤ X) (hx : Wx.heap[X]? = some (.cells zR 51 (0, 0))) (hb : Below W.heap.size W Wx) (hn : NumsAt Wx N' (goL (actS r.m (f r.s.id)) r.s.fs r.ns))
    (hne : goL (actS r.m (f r.s.id)) r.s.fs r.ns ≠ [] → ∀ y, N' = some y → y.block ≠ X) (hnb : ∀ y, N' = some y → W.heap.size ≤ y.block ∨ r.N = some y) :
    Sem.run Try.prog (storeVar 51 ⟨X, 0, none⟩ (.agg #[.int .i64 r.s.id, .string r.s.nm, .bool r.s.may, .slice r.B r.s.n r.bc, .int .i64 (actM r.m (f r.s.id)), .int .i64 (goN (actS r.m (f r.s.id)) r.st), .int .i64 (goC (actS r.m (f r.s.id)) 2 r.ca), .slice r.B r.s.n r.bc, .slice N' r.s.n nc, .int .i64 (goW (actS r.m (f r.s.id)) r.wr)])) Wx = .ok () (Wx.setRow X #[.int .i64 r.s.id, .string r.s.nm, .bool r.s.may, .slice r.B r.s.n r.bc, .int .i64 (actM r.m (f r.s.id)), .int .i64 (goN (actS r.m (f r.s.id)) r.st), .int .i64 (goC (actS r.m (f r.s.id)) 2 r.ca), .slice r.B r.s.n r.bc, .slice N' r.s.n nc, .int .i64 (goW (actS r.m (f r.s.id)) r.wr)]) ∧ RcPost f r W (.pointer (some ⟨X, 0, none⟩)) (.bool (didQ f r.q)) (Wx.setRow X #[.int .i64 r.s.id, .string r.s.nm, .bool r.s.may, .slice r.B r.s.n r.bc, .int .i64 (actM r.m (f r.s.id)), .int .i64 (goN (actS r.m (f r.s.id)) r.st), .int .i64 (goC (actS r.m (f r.s.id)) 2 r.ca), .slice r.B r.s.n r.bc, .slice N' r.s.n nc, .int .i64 (goW (actS r.m (f r.s.id)) r.wr)]) ∧ Below W.heap.size W (Wx.setRow X #[.int .i64 r.s.id, .string r.s.nm, .bool r.s.may, .slice r.B r.s.n r.bc, .int .i64 (actM r.m (f r.s.id)), .int .i64 (goN (actS r.m (f r.s.id)) r.st), .int .i64 (goC (actS r.m (f r.s.id)) 2 r.ca), .slice r.B r.s.n r.bc, .slice N' r.s.n nc, .int .i64 (goW (actS r.m (f r.s.id)) r.wr)]) := by
  have h1 := box_stored (W := Wx) (X := X) #[.int .i64 r.s.id, .string r.s.nm, .bool r.s.may, .slice r.B r.s.n r.bc, .int .i64 (actM r.m (f r.s.id)), .int .i64 (goN (actS r.m (f r.s.id)) r.st), .int .i64 (goC (actS r.m (f r.s.id)) 2 r.ca), .slice r.B r.s.n r.bc, .slice N' r.s.n nc, .int .i64 (goW (actS r.m (f r.s.id)) r.wr)] rfl (by simp [Value.oneCell']) hx
  have hb5 := Rng.below hb (rng_setRow Wx X #[.int .i64 r.s.id, .string r.s.nm, .bool r.s.may, .slice r.B r.s.n r.bc, .int .i64 (actM r.m (f r.s.id)), .int .i64 (goN (actS r.m (f r.s.id)) r.st), .int .i64 (goC (actS r.m (f r.s.id)) 2 r.ca), .slice r.B r.s.n r.bc, .slice N' r.s.n nc, .int .i64 (goW (actS r.m (f r.s.id)) r.wr)]) hb.size hX
  exact ⟨h1.1, ⟨N', nc, X, rfl, rfl, hX, h1.2, nums_row hn X _ hne, hnb, hb5⟩, hb5⟩
/-- Another row grew: none that these have to do with. -/
theorem ROut.other {W W' : World} {B : Nat} {V : Value} {out : List RX} {R : Option Nat} (h : ROut W B V out) (hg : W.grownBy W' R) (hd : ∀ j, R = some j → V.ownBlock ≠ some j ∧ ∀ r ∈ out, r.ns ≠ [] → ∀ y, r.N = some y → j ≠ y.block) (hoc : ∀ o ∈ out, CellsAt W' o.B o.s.fs) : ROut W' B V out := by
  refine ⟨⟨h.1.1.kept hg ?_, fun o hm => ?_⟩, h.2⟩
  · rcases R with _ | j
    · rcases V.ownBlock with _ | i
      · exact .inl rfl
      · exact .inr (fun e => by cases e)
    · exact .inr (hd j rfl).1
  · have h1 := h.1.2 o hm
    refine ⟨nums_grownE h1.1 hg (fun hne y hy e => ?_), h1.2.1, hoc o hm, h1.2.2.2⟩
    exact (hd _ e).2 o hm hne y hy rfl
theorem rch_dis {w W : World} {S : Nat} {V U V8 : Value} {out : List RX} {r' : RX} (hdis : ∀ j, U.ownBlock = some j → V.ownBlock ≠ some j ∧ ∀ r ∈ out, r.ns ≠ [] → ∀ y, r.N = some y → j ≠ y.block) (hlt : ∀ j, U.ownBlock = some j → w.heap.size ≤ j ∧ j < W.heap.size)
    (hat : V8.ownBlock = V.ownBlock ∨ V8.ownBlock = some S) (hS : W.heap.size ≤ S) (hr : r'.ns ≠ [] → ∀ y, r'.N = some y → W.heap.size ≤ y.block ∨ y.block < w.heap.size) : ∀ j, U.ownBlock = some j → V8.ownBlock ≠ some j ∧ ∀ r ∈ out ++ [r'], r.ns ≠ [] → ∀ y, r.N = some y → j ≠ y.block := by
  intro j hj
  have h1 := hlt j hj
  refine ⟨fun e => ?_, fun o hm hne y hy => ?_⟩
  · rcases hat with h | h
    · exact (hdis j hj).1 (h.symm.trans e)
    · have := Option.some.inj (h.symm.trans e); omega
  · rcases List.mem_append.1 hm with hm | hm
    · exact (hdis j hj).2 o hm hne y hy
    · obtain rfl := List.mem_singleton.1 hm
      have := hr hne y hy
      omega
theorem rch_next {B : Nat} {W8 W9 W10 : World} {V8 U U10 : Value} {out : List RX} (hO : ROut W8 B V8 out) (hd : ∀ j, U.ownBlock = some j → V8.ownBlock ≠ some j ∧ ∀ o ∈ out, o.ns ≠ [] → ∀ y, o.N = some y → j ≠ y.block)
    (hb : Below W8.heap.size W8 W9) (hg : W9.grownBy W10 U.ownBlock) (hat : U10.ownBlock = U.ownBlock ∨ U10.ownBlock = some W9.heap.size) (hoc : ∀ o ∈ out, CellsAt W10 o.B o.s.fs) :
    ROut W10 B V8 out ∧ ∀ j, U10.ownBlock = some j → V8.ownBlock ≠ some j ∧ ∀ o ∈ out, o.ns ≠ [] → ∀ y, o.N = some y → j ≠ y.block := by
  refine ⟨(hO.keep hb).other hg hd hoc, fun j hj => ?_⟩
  rcases hat with h | h
  · exact hd j (h.symm.trans hj)
  · have e : W9.heap.size = j := Option.some.inj (h.symm.trans hj)
    have hs := hb.size
    refine ⟨fun e1 => ?_, fun o hm hne y hy => ?_⟩
    · have := (hO.1.1.lt j e1).2; omega
    · have := NumsAt.lt (hO.1.2 o hm).1 hne y hy; omega
/-- Each of a row of changed ones has its cells where they were. -/
theorem rch_from {f : Int → Int} {l out : List RX} {k : Nat} (h1 : out.map RX.q = (l.take k).map (fun r => actQ f r.q)) (h2 : out.map (fun r => (r.B, r.bc)) = (l.take k).map (fun r => (r.B, r.bc))) : ∀ o ∈ out, ∃ z ∈ l, z.B = o.B ∧ z.s = o.s := by
  intro o ho
  obtain ⟨i, hi, hio⟩ := List.mem_iff_getElem.1 ho
  have g1 : (out.map RX.q)[i]? = some o.q := by rw [List.getElem?_map, List.getElem?_eq_getElem hi, hio]; rfl
  have g2 : (out.map fun r => (r.B, r.bc))[i]? = some (o.B, o.bc) := by rw [List.getElem?_map, List.getElem?_eq_getElem hi, hio]; rfl
  rw [h1, List.getElem?_map] at g1
  rw [h2, List.getElem?_map] at g2
  obtain ⟨z, hz, hzq⟩ := Option.map_eq_some_iff.1 g1
  rw [hz] at g2
  have e1 : z.s = o.s := congrArg QS.s hzq
  have e2 : (z.B, z.bc) = (o.B, o.bc) := by simpa using g2
  injection e2 with e3 e4
  exact ⟨z, List.mem_of_mem_take (List.mem_of_getElem? hz), e3, e1⟩
theorem goL_lenC {how : Int} {fs : List C2} {ns : List Nat} (h : fs.length = ns.length) : (goL how fs ns).length = ns.length := by
  unfold goL; split; exact startL_len _ _ _ h; split; exact startL_len _ _ _ h; rfl
def RchPost (f : Int → Int) (l : List RX) (w : World) (e : Ending) (w' : World) : Prop :=
  ∃ V out U, e = .returned (.tuple #[V, U]) ∧ RRow w' w.heap.size V out ∧ out.map RX.q = l.map (fun r => actQ f r.q) ∧ out.map (fun r => (r.B, r.bc)) = l.map (fun r => (r.B, r.bc)) ∧ w'.ownsRow w.heap.size 4 1 U l.length (l.map fun r => Value.bool (didQ f r.q)) ∧ (∀ r' ∈ out, r'.ns ≠ [] → ∀ y, r'.N = some y → w.heap.size ≤ y.block ∨ ∃ r ∈ l, r.ns ≠ [] ∧ r.N = some y) ∧ Below w.heap.size w w'
attribute [-go_sem] storeVar
set_option maxRecDepth 8000 in
set_option maxHeartbeats 3200000 in
theorem rchange_any {w : World} {B : Nat} {V : Value} {l : List RX} (h : RRow w B V l) (hl : l.length ≤ 1000) (hst : ∀ r ∈ l, 0 ≤ r.st ∧ r.st ≤ 1000000) (A : Option Addr) (cap : Nat) (al : List A3) (s : Int) (ha : AcS w A al) (hal : al.length ≤ 1000000) :
    Calls Try.prog 19 #[V, .slice A al.length cap, .int .i64 s] w (RchPost (forN al s) l w) := by
  obtain ⟨A0, c0, rfl⟩ := own_slice h.1
  obtain ⟨n, hn⟩ : ∃ n, l.length = n := ⟨_, rfl⟩
  have HR := Lib.hid h
  have HN := Lib.hid hn
  have HL : Hid (n ≤ 1000) := by show _ ≤ _; omega
  have HST := Lib.hid hst
  have HFO := Lib.hid (fun (W : World) (b : Below w.heap.size w W) (p : Int) => rfor_any A cap al s p W (ha.kept b) hal)
  obtain ⟨f, hf⟩ : ∃ f, forN al s = f := ⟨_, rfl⟩
  rw [hf] at HFO ⊢
  obtain ⟨ln, hln⟩ : ∃ k, al.length = k := ⟨_, rfl⟩
  rw [hln] at HFO ⊢
  rw [hn]
  have hb1 : Below w.heap.size w (w.alloc (.cells #[] 51)) := (Below.refl _ _).alloc (Nat.le_refl _) _
  have how : (w.alloc (.cells #[] 51)).ownsRow w.heap.size 51 10 (.slice (some ⟨w.heap.size, 0, none⟩) 0 0) 0 [] := World.ownsRow_lit w #[] 0 (Nat.le_refl _) (by unfold maxLen; omega) rfl
  have hs1 : (w.alloc (.cells #[] 51)).heap.size = w.heap.size + 1 := by simp
  obtain ⟨W1, hW1⟩ : ∃ W, w.alloc (.cells #[] 51) = W := ⟨_, rfl⟩
  rw [hW1] at hb1 how hs1
  have hb2 : Below W1.heap.size W1 (W1.alloc (.cells #[] 4)) := (Below.refl _ _).alloc (Nat.le_refl _) _
  have hou : (W1.alloc (.cells #[] 4)).ownsRow w.heap.size 4 1 (.slice (some ⟨W1.heap.size, 0, none⟩) 0 0) 0 [] := World.ownsRow_lit W1 #[] 0 hb1.size (by unfold maxLen; omega) rfl
  have HW1 := Lib.hid hW1
  have HS0 : Hid (RchRel f l w n (.slice (some ⟨w.heap.size, 0, none⟩) 0 0) (.slice (some ⟨W1.heap.size, 0, none⟩) 0 0) (.int .i64 0) (W1.alloc (.cells #[] 4))) :=
    ⟨0, [], Nat.zero_le _, rfl, ⟨⟨own_keep how hb2, fun r hr => by simp at hr⟩, fun r hr => by simp at hr⟩, rfl, rfl, hou, fun j hj => ⟨by
      have e1 : W1.heap.size = j := Option.some.inj hj
      intro e
      have e2 : w.heap.size = j := Option.some.inj e
      omega, fun r hr => by simp at hr⟩, fun r hr => by simp at hr, hb1.trans (hb2.mono hb1.size)⟩
  clear h hl hst ha hal hn hf hln hb1 how hs1 hW1 hb2 hou
  go_enter Try.func19, Try.ntmps19
  go_upto_region 2 with fail
  rw [HW1.out]
  go_wp2_with fail
  go_loopw [8, 9, 10] (fun V U i W => RchRel f l w n V U i W) (fun _ _ i _ => n - (intOf i).toNat)
  case atStart => exact HS0.out
  case round =>
    rename World => W
    obtain ⟨k, out, hk, rfl, hout, hq, hbc, hou, hdis, hnn, hb⟩ := hrel
    have HNN := Lib.hid hnn
    obtain ⟨AO, cO, rfl⟩ := own_slice hout.1.1
    obtain ⟨AU, cU, rfl⟩ := own_slice hou
    have hol : out.length = k := by
      have := congrArg List.length hq
      rw [List.length_map, List.length_map, List.length_take] at this
      have := HN.out; omega
    have HOUT := Lib.hid hout
    have HQ := Lib.hid hq
    have HBC := Lib.hid hbc
    have HOU := Lib.hid hou
    have HDI := Lib.hid hdis
    have HB := Lib.hid hb
    have HOL := Lib.hid hol
    rw [hol]
    clear hout hq hbc hou hdis hnn hb hol HS0
    by_cases hlt : k < n
    · obtain ⟨r, hr⟩ : ∃ r, l[k]? = some r := ⟨_, List.getElem?_eq_getElem (by rw [HN.out]; exact hlt)⟩
      have HRK := Lib.hid hr
      have hrm := List.mem_of_getElem? hr
      have HROK := Lib.hid (HR.out.2 r hrm)
      have HRST := Lib.hid (HST.out r hrm)
      have HCS : Hid (∀ W', Below w.heap.size w W' → ∃ gg cc, (Value.slice A0 n c0 : Value) = .slice (some ⟨gg, 0, none⟩) n cc ∧ ∀ j, j < 10 → W'.cell? ⟨gg, k * 10 + j, none⟩ = r.blk[j]?) := fun W' b => by
        obtain ⟨gg, cc, hv, hc⟩ := (HR.out.keep b).cells hr
        rw [HN.out] at hv
        exact ⟨gg, cc, hv, hc⟩
      obtain ⟨gg, cc, hv, -⟩ := HCS.out W HB.out
      injection hv with hv1 hv2 hv3
      subst hv1
      clear hv2 hv3
      have HCL : Hid (∀ W', Below w.heap.size w W' → ∀ j, j < 10 → W'.cell? ⟨gg, k * 10 + j, none⟩ = r.blk[j]?) := fun W' b => by
        obtain ⟨g2, c2, hv, hc⟩ := HCS.out W' b
        injection hv with hv1 _ _
        have hgg : gg = g2 := by have := Option.some.inj hv1; injection this
        rw [hgg]
        exact hc
      have HSS : Hid (∀ W', Below w.heap.size w W' → W'.cell? ⟨gg, k * 10, none⟩ = some (.int .i64 r.s.id) ∧ W'.cell? ⟨gg, k * 10 + 1, none⟩ = some (.string r.s.nm) ∧ W'.cell? ⟨gg, k * 10 + 2, none⟩ = some (.bool r.s.may) ∧ W'.cell? ⟨gg, k * 10 + 3, none⟩ = some (.slice r.B r.s.n r.bc) ∧ W'.cell? ⟨gg, k * 10 + 4, none⟩ = some (.int .i64 r.m) ∧ W'.cell? ⟨gg, k * 10 + 5, none⟩ = some (.int .i64 r.st) ∧ W'.cell? ⟨gg, k * 10 + 6, none⟩ = some (.int .i64 r.ca) ∧ W'.cell? ⟨gg, k * 10 + 7, none⟩ = some (.slice r.B r.s.n r.bc) ∧ W'.cell? ⟨gg, k * 10 + 8, none⟩ = some (.slice r.N r.s.n r.nc) ∧ W'.cell? ⟨gg, k * 10 + 9, none⟩ = some (.int .i64 r.wr)) := fun W' b =>
        ⟨HCL.out W' b 0 (by omega), HCL.out W' b 1 (by omega), HCL.out W' b 2 (by omega), HCL.out W' b 3 (by omega), HCL.out W' b 4 (by omega), HCL.out W' b 5 (by omega), HCL.out W' b 6 (by omega), HCL.out W' b 7 (by omega), HCL.out W' b 8 (by omega), HCL.out W' b 9 (by omega)⟩
      have hkb : (k : Int) < n := by omega
      have hki : (0 : Int) ≤ k := by omega
      have HLT := Lib.hid hlt
      have hbd : Below w.heap.size w W.drew := HB.out.drew
      have hba : Below w.heap.size w (W.drew.alloc (.cells zR 51)) := hbd.alloc hbd.size _
      have HD0 := Lib.hid hbd
      have HD1 := Lib.hid hba
      have HA0 := Lib.hid (HSS.out _ hbd)
      have HA1 := Lib.hid (HSS.out _ hba)
      obtain ⟨f0, f1, f2, f3, f4, f5, f6, f7, f8, f9⟩ := HA0.out
      clear hr hrm hlt hk hbd hba HCS HCL
      go_wp2_with fail
      have HE0 : Hid (Below W.heap.size W W.drew) := ⟨rfl, rfl, rfl, Nat.le_refl _, fun _ _ => rfl⟩
      have HE1 : Hid (Below W.heap.size W (W.drew.alloc (.cells zR 51))) := (HE0.out).alloc (Nat.le_refl _) _
      have HACT := Lib.hid (fun (W' : World) (b : Below W.heap.size W W') => ract_any (s := r.s) (a := r.B) (cap := r.bc) (N := r.N) (nc := r.nc) (m := r.m) (st := r.st) (ca := r.ca) (ns := r.ns) (wr := r.wr) W' ((HROK.out.1.kept HB.out).kept b) HROK.out.2.1 HROK.out.2.2.2.2 HROK.out.2.2.2.1 ((HROK.out.2.2.1.kept HB.out).kept b) HRST.out (f r.s.id))
      have HXA : Hid ((W.drew.alloc (.cells zR 51)).heap[W.heap.size]? = some (.cells zR 51 (0, 0))) := heap_alloc_new W.drew _
      have HBT : Hid (∀ W', Below W.heap.size W W' → Below w.heap.size w W') := fun W' b => HB.out.trans (b.mono HB.out.size)
      have hNl : r.ns ≠ [] → ∀ y, r.N = some y → y.block < W.heap.size := fun h y hy => NumsAt.lt (HROK.out.1.kept HB.out) h y hy
      have HNE2 : Hid (∀ (X S : Nat), W.heap.size ≤ X → X < S → r.ns ≠ [] → ∀ (y : Addr), (S ≤ y.block ∨ r.N = some y) → y.block ≠ X) := fun X S h0 h1 h2 y h3 => by
        rcases h3 with h3 | h3
        · omega
        · have := hNl h2 y h3; omega
      have HNE : Hid (∀ (X S : Nat), W.heap.size < S → r.ns ≠ [] → ∀ (y : Addr), (S ≤ y.block ∨ r.N = some y) → y.block ≠ W.heap.size) := fun _ S h1 h2 y h3 => HNE2.out W.heap.size S (Nat.le_refl _) h1 h2 y h3
      clear hNl
      unfold zR at HD1 HA1
      go_cut [11, 12] from 21 to 37 (fun p d wx => RcPost f r W p d wx)
      case first =>
        go_region_held3 (fun wx => wx.cell? ⟨gg, k * 10, none⟩ = some (.int .i64 r.s.id) ∧ wx.cell? ⟨gg, k * 10 + 1, none⟩ = some (.string r.s.nm) ∧ wx.cell? ⟨gg, k * 10 + 2, none⟩ = some (.bool r.s.may) ∧ wx.cell? ⟨gg, k * 10 + 3, none⟩ = some (.slice r.B r.s.n r.bc) ∧ wx.cell? ⟨gg, k * 10 + 4, none⟩ = some (.int .i64 r.m) ∧ wx.cell? ⟨gg, k * 10 + 5, none⟩ = some (.int .i64 r.st) ∧ wx.cell? ⟨gg, k * 10 + 6, none⟩ = some (.int .i64 r.ca) ∧ wx.cell? ⟨gg, k * 10 + 7, none⟩ = some (.slice r.B r.s.n r.bc) ∧ wx.cell? ⟨gg, k * 10 + 8, none⟩ = some (.slice r.N r.s.n r.nc) ∧ wx.cell? ⟨gg, k * 10 + 9, none⟩ = some (.int .i64 r.wr))
          (first | assumption | exact HA0.out | exact HA1.out | exact HA3.out | exact HA3a.out | exact HA4.out | exact HA4a.out | exact HA5.out | exact HA5a.out | (go_keep; done))
          (first
            | (go_at_call 21; refine (HFO.out _ HD0.out r.s.id).mono ?_; rintro e W3 ⟨rfl, hb3⟩; have HB3 : Hid (Below W.heap.size W W3) := HE0.out.trans hb3; have HA3 := Lib.hid (HSS.out W3 (HBT.out _ HB3.out)); have HA3a := Lib.hid (HSS.out (W3.alloc (.cells zR 51)) (HBT.out _ (HB3.out.alloc HB3.out.size _))); unfold zR at HA3a; clear hb3)
            | (go_at_call 21; refine (HFO.out _ HD1.out r.s.id).mono ?_; rintro e W3 ⟨rfl, hb3⟩; have HB3 : Hid (Below W.heap.size W W3) := HE1.out.trans (hb3.mono HE1.out.size); have HX3 : Hid (W3.heap[W.heap.size]? = some (.cells zR 51 (0, 0))) := (hb3.block _ (lt_of_block HXA.out)).trans HXA.out; have HA3 := Lib.hid (HSS.out W3 (HBT.out _ HB3.out)); clear hb3)
            | (go_at_call 43; refine (HACT.out W3 HB3.out).mono ?_; rintro e W4 ⟨N', nc, rfl, hnum, hnb, hb4⟩; have HB4 : Hid (Below W.heap.size W W4) := HB3.out.trans (hb4.mono HB3.out.size); have HX4 : Hid (W4.heap[W.heap.size]? = some (.cells zR 51 (0, 0))) := (hb4.block _ (lt_of_block HX3.out)).trans HX3.out; have HA4 := Lib.hid (HSS.out W4 (HBT.out _ HB4.out)); have HRC := Lib.hid (rc_done (f := f) (nc := nc) (Nat.le_refl _) HX4.out HB4.out hnum (fun h y hy => HNE.out 0 _ (lt_of_block HX3.out) (goL_ne h) y (hnb y hy)) (fun y hy => (hnb y hy).imp (Nat.le_trans HB3.out.size) id)); have hst4 := HRC.out.1; have HA5 := Lib.hid (HSS.out _ (HBT.out _ HRC.out.2.2)); clear hnum hnb hb4)
            | (go_at_call 43; refine (HACT.out W3 HB3.out).mono ?_; rintro e W4 ⟨N', nc, rfl, hnum, hnb, hb4⟩; have HB4 : Hid (Below W.heap.size W W4) := HB3.out.trans (hb4.mono HB3.out.size); have HA4 := Lib.hid (HSS.out W4 (HBT.out _ HB4.out)); have hb5 := HB4.out.alloc HB4.out.size (.cells zR 51); have HA4a := Lib.hid (HSS.out (W4.alloc (.cells zR 51)) (HBT.out _ hb5)); have HRC := Lib.hid (rc_done (f := f) (nc := nc) (X := W4.heap.size) HB4.out.size (heap_alloc_new W4 _) hb5 (hnum.kept ((Below.refl _ _).alloc (Nat.le_refl _) _)) (fun h y hy => Nat.ne_of_lt (NumsAt.lt hnum h y hy)) (fun y hy => (hnb y hy).imp (Nat.le_trans HB3.out.size) id)); have hst4 := HRC.out.1; have HA5 := Lib.hid (HSS.out _ (HBT.out _ HRC.out.2.2)); unfold zR at HA4a hst4 HA5; clear hnum hnb hb4 hb5)
            | (go_at_call 43; refine (HACT.out (W3.alloc (.cells zR 51)) (HB3.out.alloc HB3.out.size _)).mono ?_; rintro e W4 ⟨N', nc, rfl, hnum, hnb, hb4⟩; have hb3a := HB3.out.alloc HB3.out.size (.cells zR 51); have HB4 : Hid (Below W.heap.size W W4) := hb3a.trans (hb4.mono hb3a.size); have hx3 : (W3.alloc (.cells zR 51)).heap[W3.heap.size]? = some (.cells zR 51 (0, 0)) := heap_alloc_new W3 _; have HX4 : Hid (W4.heap[W3.heap.size]? = some (.cells zR 51 (0, 0))) := (hb4.block _ (lt_of_block hx3)).trans hx3; have HA4 := Lib.hid (HSS.out W4 (HBT.out _ HB4.out)); have HRC := Lib.hid (rc_done (f := f) (nc := nc) HB3.out.size HX4.out HB4.out hnum (fun h y hy => HNE2.out _ _ HB3.out.size (lt_of_block hx3) (goL_ne h) y (hnb y hy)) (fun y hy => (hnb y hy).imp (Nat.le_trans hb3a.size) id)); have hst4 := HRC.out.1; have HA5 := Lib.hid (HSS.out _ (HBT.out _ HRC.out.2.2)); clear hnum hnb hb4 hb3a hx3))
        all_goals
          clear HA0 HA1
          go_wp2
          go_meet
          case rel => exact HRC.out.2.1
      case rest =>
      rename World => W6
      obtain ⟨N', nc, X, rfl, rfl, hX, hx, hnum, hnb, hb6⟩ := hcut
      have HX6 := Lib.hid hx
      have HB6 := Lib.hid hb6
      have hro := HOUT.out.keep hb6
      have HNU := Lib.hid hnum
      have hb7 : Below W6.heap.size W6 (W6.alloc (.cells #[.int .i64 r.s.id, .string r.s.nm, .bool r.s.may, .slice r.B r.s.n r.bc, .int .i64 (actM r.m (f r.s.id)), .int .i64 (goN (actS r.m (f r.s.id)) r.st), .int .i64 (goC (actS r.m (f r.s.id)) 2 r.ca), .slice r.B r.s.n r.bc, .slice N' r.s.n nc, .int .i64 (goW (actS r.m (f r.s.id)) r.wr)] 51)) := (Below.refl _ _).alloc (Nat.le_refl _) _
      have HR7 := Lib.hid (hro.keep hb7)
      have HOW7 : Hid ((W6.alloc (.cells #[.int .i64 r.s.id, .string r.s.nm, .bool r.s.may, .slice r.B r.s.n r.bc, .int .i64 (actM r.m (f r.s.id)), .int .i64 (goN (actS r.m (f r.s.id)) r.st), .int .i64 (goC (actS r.m (f r.s.id)) 2 r.ca), .slice r.B r.s.n r.bc, .slice N' r.s.n nc, .int .i64 (goW (actS r.m (f r.s.id)) r.wr)] 51)).ownsRow w.heap.size 51 10 (.slice AO k cO) k (flR out)) := by
        have := HR7.out.1.1
        rw [HOL.out] at this
        exact this
      have HB7 := Lib.hid ((HB.out.trans (hb6.mono HB.out.size)).trans (hb7.mono (Nat.le_trans HB.out.size hb6.size)))
      have HWS : Hid (w.heap.size ≤ W6.heap.size + 1) := by show _ ≤ _; have := Nat.le_trans HB.out.size hb6.size; omega
      obtain ⟨i1, hi1, hy0, hy1, hy2⟩ := info_parts infoBool
      obtain ⟨i0, hi0, hz0, hz1, hz2⟩ := info_parts infoPart
      have hk1 : IntKind.i64.wrap ((k : Int) + 1) = (k : Int) + 1 := IntWalk.i64_in _ (by have := HL.out; have := HLT.out; omega)
      clear hx hb6 hro hnum hb7 HA0 HA1 HD0 HD1 HE0 HE1 HACT HXA HNE HNE2 f0 f1 f2 f3 f4 f5 f6 f7 f8 f9 HSS HFO
      go_wp2_with (first
        | ((with_reducible show wpList _ _ _ _ _ _); refine wpList_load_row rfl 51 (.tmp 11) rfl X rfl 51 _ (0, 0) _ HX6.out Try.underlying51 rfl size_rp ?_)
        | (at_builtin; refine wpList_append_own_at _ rfl _ _ 31 rfl w.heap.size 51 i0 _ 10 136 Try.underlying31 hi0 hz0 hz1 hz2 rfl (by decide) _ k (flR out) rfl HOW7.out ⟨W6.heap.size, 0, none⟩ 1 1 [.int .i64 r.s.id, .string r.s.nm, .bool r.s.may, .slice r.B r.s.n r.bc, .int .i64 (actM r.m (f r.s.id)), .int .i64 (goN (actS r.m (f r.s.id)) r.st), .int .i64 (goC (actS r.m (f r.s.id)) 2 r.ca), .slice r.B r.s.n r.bc, .slice N' r.s.n nc, .int .i64 (goW (actS r.m (f r.s.id)) r.wr)] rfl rfl ?c1 ?c2 ?c3 ?c4 ?c5 ?_))
      case c1 =>
        intro j u hj
        have hrow := heap_alloc_new W6 (.cells #[.int .i64 r.s.id, .string r.s.nm, .bool r.s.may, .slice r.B r.s.n r.bc, .int .i64 (actM r.m (f r.s.id)), .int .i64 (goN (actS r.m (f r.s.id)) r.st), .int .i64 (goC (actS r.m (f r.s.id)) 2 r.ca), .slice r.B r.s.n r.bc, .slice N' r.s.n nc, .int .i64 (goW (actS r.m (f r.s.id)) r.wr)] 51)
        rw [add_blk, cell_of_row _ _ _ _ _ _ hrow, ← hj]
        simp
      case c2 => intro u hu; simp at hu; rcases hu with rfl | rfl | rfl | rfl | rfl | rfl | rfl | rfl | rfl | rfl <;> rfl
      case c3 => have := HL.out; have := HLT.out; unfold maxLen; omega
      case c4 => have := HL.out; have := HLT.out; omega
      case c5 => have := HWS.out; simp; omega
      intro V8 W8 ho8 hg8 _ hat8
      have HLTU : Hid (∀ j, (Value.slice AU k cU).ownBlock = some j → w.heap.size ≤ j ∧ j < W.heap.size) := fun j hj => by have := HOU.out.lt j hj; exact this
      have HR' : Hid (ROut W8 w.heap.size V8 (out ++ [(⟨r.s, r.B, r.bc, actM r.m (f r.s.id), goN (actS r.m (f r.s.id)) r.st, goC (actS r.m (f r.s.id)) 2 r.ca, N', nc, goL (actS r.m (f r.s.id)) r.s.fs r.ns, goW (actS r.m (f r.s.id)) r.wr⟩ : RX)])) := by
        have HB8 := HB7.out.grown hg8 HB7.out.size (fun j hj => (HOW7.out.lt j hj).1)
        refine HR7.out.grown (V := .slice AO out.length cO) (V' := V8) ?_ ?_ ?_ ?_ ?_ ?_ ?_
        · exact ⟨HNU.out.kept ((Below.refl _ _).alloc (Nat.le_refl _) _), by show (goL _ _ _).length = r.s.n; rw [goL_lenC (by rw [HROK.out.2.1, HROK.out.2.2.2.1])]; exact HROK.out.2.1, HROK.out.2.2.1.kept HB7.out, HROK.out.2.2.2⟩
        · intro hne y' hy' e
          have h2 := (HOUT.out.1.1.lt y'.block e)
          rcases hnb y' hy' with h1 | h1
          · omega
          · have := NumsAt.lt HROK.out.1 (goL_ne hne) y' h1; omega
        · exact HROK.out.2.2.1.kept HB8
        · intro o ho
          obtain ⟨z, hz, e1, e2⟩ := rch_from HQ.out HBC.out o ho
          rw [← e1, ← e2]
          exact (HR.out.2 z hz).2.2.1.kept HB8
        · rw [HOL.out]; exact ho8
        · rw [HOL.out]; exact hg8
        · rw [HOL.out]; simpa using hat8
      have HB8 := Lib.hid (HB7.out.grown hg8 HB7.out.size (fun j hj => (HOW7.out.lt j hj).1))
      have HDI8 := Lib.hid (rch_dis (w := w) (W := W) (V8 := V8) (r' := (⟨r.s, r.B, r.bc, actM r.m (f r.s.id), goN (actS r.m (f r.s.id)) r.st, goC (actS r.m (f r.s.id)) 2 r.ca, N', nc, goL (actS r.m (f r.s.id)) r.s.fs r.ns, goW (actS r.m (f r.s.id)) r.wr⟩ : RX)) HDI.out HLTU.out (by rw [HOL.out]; exact hat8) (by have := HB6.out.size; omega) (fun hne y hy => (hnb y hy).imp id (fun h => NumsAt.lt HROK.out.1 (goL_ne hne) y h)))
      have HOU8 : Hid (W8.ownsRow w.heap.size 4 1 (.slice AU k cU) k ((l.take k).map fun r => Value.bool (didQ f r.q))) := by
        have h1 := (own_keep (own_keep HOU.out HB6.out) ((Below.refl _ _).alloc (Nat.le_refl _) (.cells #[.int .i64 r.s.id, .string r.s.nm, .bool r.s.may, .slice r.B r.s.n r.bc, .int .i64 (actM r.m (f r.s.id)), .int .i64 (goN (actS r.m (f r.s.id)) r.st), .int .i64 (goC (actS r.m (f r.s.id)) 2 r.ca), .slice r.B r.s.n r.bc, .slice N' r.s.n nc, .int .i64 (goW (actS r.m (f r.s.id)) r.wr)] 51)))
        refine h1.kept hg8 ?_
        rcases hu : (Value.slice AU k cU).ownBlock with _ | j
        · exact .inl rfl
        · refine .inr (fun e => (HDI.out j hu).1 ?_)
          rw [HOL.out]
          exact e.symm
      have hb9 : Below W8.heap.size W8 (W8.alloc (.cells #[.bool (didQ f r.q)] 4)) := (Below.refl _ _).alloc (Nat.le_refl _) _
      have HB9 := Lib.hid hb9
      have HOU9 := Lib.hid (own_keep HOU8.out hb9)
      have HWS9 : Hid (w.heap.size ≤ W8.heap.size + 1) := by show _ ≤ _; have := HB8.out.size; omega
      have HNNA : Hid (∀ r' ∈ out ++ [(⟨r.s, r.B, r.bc, actM r.m (f r.s.id), goN (actS r.m (f r.s.id)) r.st, goC (actS r.m (f r.s.id)) 2 r.ca, N', nc, goL (actS r.m (f r.s.id)) r.s.fs r.ns, goW (actS r.m (f r.s.id)) r.wr⟩ : RX)], r'.ns ≠ [] → ∀ y, r'.N = some y → w.heap.size ≤ y.block ∨ ∃ r ∈ l, r.ns ≠ [] ∧ r.N = some y) := fun r' hr' hne y hy => by
        rcases List.mem_append.1 hr' with hr' | hr'
        · exact HNN.out r' hr' hne y hy
        · obtain rfl := List.mem_singleton.1 hr'
          rcases hnb y hy with h | h
          · exact .inl (Nat.le_trans HB.out.size h)
          · exact .inr ⟨r, List.mem_of_getElem? HRK.out, goL_ne hne, h⟩
      clear ho8 hg8 hat8 hnb hb9 HOW7 HR7 HOUT HDI HOU HLTU HNU HB6 HB7 HWS HX6 HOU8
      go_wp2_with (at_builtin; refine wpList_append_own_at _ rfl _ _ 64 rfl w.heap.size 4 i1 _ 1 1 Try.underlying64 hi1 hy0 hy1 hy2 rfl (by decide) _ k ((l.take k).map fun (r : RX) => Value.bool (didQ f r.q)) rfl HOU9.out ⟨W8.heap.size, 0, none⟩ 1 1 [.bool (didQ f r.q)] rfl rfl ?d1 ?d2 ?d3 ?d4 ?d5 ?_)
      case d1 => exact cell_one_new _ _ _
      case d2 => intro u hu; simp at hu; rw [hu]; rfl
      case d3 => have := HL.out; have := HLT.out; unfold maxLen; omega
      case d4 => have := HL.out; have := HLT.out; omega
      case d5 => have := HWS9.out; simp; omega
      intro UA WA hoA hgA _ hatA
      have HBA := Lib.hid ((HB8.out.trans (HB9.out.mono HB8.out.size)).grown hgA (Nat.le_trans HB8.out.size HB9.out.size) (fun j hj => (HOU9.out.lt j hj).1))
      have HNX := Lib.hid (rch_next (U10 := UA) HR'.out HDI8.out HB9.out hgA (by simpa using hatA) (fun o ho => by
        rcases List.mem_append.1 ho with ho | ho
        · obtain ⟨z, hz, e1, e2⟩ := rch_from HQ.out HBC.out o ho
          rw [← e1, ← e2]
          exact (HR.out.2 z hz).2.2.1.kept HBA.out
        · obtain rfl := List.mem_singleton.1 ho
          exact HROK.out.2.2.1.kept HBA.out))
      have HE1 : Hid (l.take (k + 1) = l.take k ++ [r]) := by show _ = _; rw [List.take_add_one, HRK.out]; rfl
      have HOA : Hid (WA.ownsRow w.heap.size 4 1 UA (k + 1) ((l.take (k + 1)).map fun r => Value.bool (didQ f r.q))) := by
        show World.ownsRow _ _ _ _ _ _ _
        rw [HE1.out, List.map_append, List.map_take]
        exact hoA
      clear hoA hgA hatA HR' HDI8 HB9 HOU9
      go_wp2
      go_roundw
      case rel => exact ⟨k + 1, _, HLT.out, by go_num, HNX.out.1, by rw [List.map_append, HQ.out, HE1.out, List.map_append]; rfl, by rw [List.map_append, HBC.out, HE1.out, List.map_append]; rfl, HOA.out, HNX.out.2, HNNA.out, HBA.out⟩
      case measure => have := HLT.out; simp [intOf]; omega
    · obtain rfl : n = k := by omega
      have e1 := HQ.out
      have e2 := HBC.out
      have e3 := HOU.out
      rw [List.take_of_length_le (by rw [HN.out]; exact Nat.le_refl _)] at e1 e2 e3
      have HE1 := Lib.hid e1
      have HE2 := Lib.hid e2
      have HE3 := Lib.hid e3
      have HLN : Hid (out.length = l.length) := by show _ = _; rw [HOL.out, HN.out]
      have HRR : Hid (RRow W w.heap.size (.slice AO n cO) out) := by
        have := HOUT.out.1
        rw [HOL.out] at this
        exact this
      clear e1 e2 e3 hlt hk
      go_wp2
      go_ret2
      exact ⟨_, _, _, rfl, HRR.out, HE1.out, HE2.out, by rw [HN.out]; exact HE3.out, HNN.out, HB.out⟩
end Go.Proofs.Ytjdgpbjjhgfikaa.Crw
