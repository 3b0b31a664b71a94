/- What fault's outermost does: of nil nothing, of a class or a wrap that itself; nothing that was there has changed. Condition: the error is one of these. What package fault's parts does at a fault: its wraps, the outermost first, in memory of its own, and its class; nothing that was there has changed. Condition: there are at most a million wraps. What package fault's Of tells of a fault: its class, the outermost section and the outermost place; of nil nothing; and First, of errors. Condition: there are at most a million wraps. -/
import Derived.Test.YtpjillclladjaaaDoorMg02
import Derived.Test.YtpjillclladjaaaDoorMg03
namespace Go.Proofs.YtpjillclladjaaaDoor.Flt

open Go.RowKit Go.PlainAid

theorem catch_idle (p : Addr) (w : World) :
    CallsD Tryd.prog 78 #[.pointer (some p)] .returning w fun e u' w' => e = .returned (.tuple #[]) ∧ u' = .returning ∧ w' = w := by
  refine callsD_of_wpS Tryd.func78 rfl fun c₀ cs hu => ?_
  apply wpS_seq
  apply wpS_region
  simp [wpOpsS, go_sem, recoverD, hu, Tryd.ntmps78, Exit.thenS]
  refine wpS_cond (t := false) (by simp [Act.eval, Array.replicate]) ?_
  simp only [Bool.false_eq_true, if_false]
  refine wpS_of_wp (wp_skip ?_)
  cases c₀
  simp_all [bodyPostS, results, Tryd.results78]

theorem chain_below (w : World) (o1 o2 o3 o4 o5 : Obj) : Below w.heap.size w (((((w.alloc o5).alloc o1).alloc o2).alloc o3).alloc o4) :=
  Below.alloc (Below.alloc (Below.alloc (Below.alloc (Below.alloc (Below.refl _ _) (Nat.le_refl _) _) (by simp) _) (by simp; omega) _) (by simp; omega) _) (by simp; omega) _

theorem outer_nil (w : World) :
    Calls Tryd.prog 60 #[.nilIface] w fun e w' => e = .returned .nilIface ∧ Below w.heap.size w w' := by
  have hmf : ∀ (fn : Fn) (first cap : Array Value) (w : World), (Instr.makeFunc fn first cap).run Tryd.prog w = .ok (.func fn first cap) w := fun _ _ _ _ => rfl
  go_enter_defers Tryd.func60, Tryd.ntmps60
  go_wp2_with (go_at_call 79; refine (as_nil _ _).mono ?_; rintro e w' ⟨rfl, rfl⟩)
  refine leaves_cons (f := 78) (args := #[.pointer (some ⟨w.heap.size, 0, none⟩)]) (by simp) (by simp [go_sem]) ?_
  refine (catch_idle ⟨w.heap.size, 0, none⟩ _).mono ?_
  rintro e u' w'' ⟨rfl, rfl, rfl⟩
  simp [Leaves, settle, results, Tryd.results60, go_sem]
  exact (Below.refl _ _).alloc (Nat.le_refl _) _
theorem outer_class (k : Int) (w : World) :
    Calls Tryd.prog 60 #[.iface 94 (.int .i64 k)] w fun e w' => e = .returned (.iface 94 (.int .i64 k)) ∧ Below w.heap.size w w' := by
  have hmf : ∀ (fn : Fn) (first cap : Array Value) (w : World), (Instr.makeFunc fn first cap).run Tryd.prog w = .ok (.func fn first cap) w := fun _ _ _ _ => rfl
  go_enter_defers Tryd.func60, Tryd.ntmps60
  go_wp2_with (go_at_call 79; refine (as_class k _ .nilIface _ (by simp) (by simp)).mono ?_; rintro e w' ⟨rfl, o1, o2, o3, o4, rfl⟩)
  refine leaves_cons (f := 78) (args := #[.pointer (some ⟨w.heap.size, 0, none⟩)]) (by simp) (by simp [go_sem]) ?_
  refine (catch_idle ⟨w.heap.size, 0, none⟩ _).mono ?_
  rintro e u' w'' ⟨rfl, rfl, rfl⟩
  simp [Leaves, settle, results, Tryd.results60, go_sem]
  exact chain_below w _ _ _ _ _
theorem outer_wrap (e : Addr) (w : World) :
    Calls Tryd.prog 60 #[.iface 80 (.pointer (some e))] w fun r w' => r = .returned (.iface 80 (.pointer (some e))) ∧ Below w.heap.size w w' := by
  have hmf : ∀ (fn : Fn) (first cap : Array Value) (w : World), (Instr.makeFunc fn first cap).run Tryd.prog w = .ok (.func fn first cap) w := fun _ _ _ _ => rfl
  go_enter_defers Tryd.func60, Tryd.ntmps60
  go_wp2_with (go_at_call 79; refine (as_wrap e _ .nilIface _ (by simp) (by simp)).mono ?_; rintro r w' ⟨rfl, o1, o2, o3, o4, rfl⟩)
  refine leaves_cons (f := 78) (args := #[.pointer (some ⟨w.heap.size, 0, none⟩)]) (by simp) (by simp [go_sem]) ?_
  refine (catch_idle ⟨w.heap.size, 0, none⟩ _).mono ?_
  rintro r u' w'' ⟨rfl, rfl, rfl⟩
  simp [Leaves, settle, results, Tryd.results60, go_sem]
  exact chain_below w _ _ _ _ _
end Go.Proofs.YtpjillclladjaaaDoor.Flt

namespace Go.Proofs.YtpjillclladjaaaDoor.Flt

open Go.RowKit Go.PlainAid

/-- The blocks gs are the wraps ws. -/
def WrapsAt (w : World) : List Nat → List (Bool × Int) → Prop
  | [], [] => True
  | g :: gs, (b, n) :: ws => (∃ y, w.heap[g]? = some (.cells #[.bool b, .int .i64 n, y] 79 (0, 0))) ∧ WrapsAt w gs ws
  | _, _ => False
theorem WrapsAt.snoc {w : World} : ∀ {gs : List Nat} {ws : List (Bool × Int)} (_ : WrapsAt w gs ws) {g : Nat} {b : Bool} {n : Int} (_ : ∃ y, w.heap[g]? = some (.cells #[.bool b, .int .i64 n, y] 79 (0, 0))), WrapsAt w (gs ++ [g]) (ws ++ [(b, n)])
  | [], [], _, _, _, _, h => ⟨h, trivial⟩
  | _ :: _, (_, _) :: _, ⟨h1, h2⟩, _, _, _, h => ⟨h1, h2.snoc h⟩
  | [], _ :: _, h, _, _, _, _ => h.elim
  | _ :: _, [], h, _, _, _, _ => h.elim
theorem WrapsAt.length {w : World} : ∀ {gs : List Nat} {ws : List (Bool × Int)}, WrapsAt w gs ws → gs.length = ws.length
  | [], [], _ => rfl
  | _ :: _, (_, _) :: _, ⟨_, h⟩ => by simp [h.length]
  | [], _ :: _, h => h.elim
  | _ :: _, [], h => h.elim
theorem WrapsAt.get {w : World} : ∀ {gs : List Nat} {ws : List (Bool × Int)} (_ : WrapsAt w gs ws) (i : Nat) (hi : i < ws.length) (hg : i < gs.length), ∃ y, w.heap[gs[i]]? = some (.cells #[.bool ws[i].1, .int .i64 ws[i].2, y] 79 (0, 0))
  | _ :: _, (_, _) :: _, ⟨h, _⟩, 0, _, _ => h
  | _ :: _, (_, _) :: _, ⟨_, h⟩, i + 1, hi, hg => h.get i (by simpa using hi) (by simpa using hg)
  | [], [], _, _, hi, _ => by simp at hi
  | [], _ :: _, h, _, _, _ => h.elim
  | _ :: _, [], h, _, _, _ => h.elim
theorem WrapsAt.kept {w w' : World} (b : Below w.heap.size w w') : ∀ {gs : List Nat} {ws : List (Bool × Int)}, WrapsAt w gs ws → WrapsAt w' gs ws
  | [], [], h => h
  | _ :: _, (_, _) :: _, ⟨⟨y, hy⟩, h⟩ => ⟨⟨y, (b.block _ (lt_of_block hy)).trans hy⟩, h.kept b⟩
  | [], _ :: _, h => h.elim
  | _ :: _, [], h => h.elim

def ptrs (gs : List Nat) : List Value := gs.map fun g => .pointer (some ⟨g, 0, none⟩)
def PartsPost (w : World) (ws : List (Bool × Int)) (k : Int) (e : Ending) (w' : World) : Prop :=
  ∃ (l : Value) (gs : List Nat), e = .returned (.tuple #[l, .int .i64 k]) ∧ WrapsAt w gs ws ∧ w'.ownsRow w.heap.size 80 1 l gs.length (ptrs gs) ∧ Below w.heap.size w w'
def lenOf : Value → Nat
  | .slice _ n _ => n
  | _ => 0
theorem owns_len {w : World} {B e n : Nat} {v : Value} {xs : List Value} (h : w.ownsRow B e 1 v n xs) : lenOf v = n := by
  rcases h.2 with ⟨rfl, rfl⟩ | ⟨g, cap, cur, rfl, _⟩ <;> rfl

theorem owns_kept {w w' : World} {B e size n : Nat} {v : Value} {xs : List Value} (h : w.ownsRow B e size v n xs) (b : Below w.heap.size w w') : w'.ownsRow B e size v n xs := by
  refine ⟨h.1, ?_⟩
  rcases h.2 with h | ⟨g, cap, cur, h1, h2, h3, h4⟩
  · exact .inl h
  · exact .inr ⟨g, cap, cur, h1, h2, (b.block g (lt_of_block h3)).trans h3, h4⟩
theorem assertC1 (v : Value) (w : World) : (Instr.typeAssert (.iface 94 v) 96 80 true).run Tryd.prog w = .ok (.tuple #[.pointer none, .bool false]) w := by kernel_rfl
theorem assertC2 (v : Value) (w : World) : (Instr.typeAssert (.iface 94 v) 96 94 true).run Tryd.prog w = .ok (.tuple #[v, .bool true]) w := by kernel_rfl
theorem assertW1 (v : Value) (w : World) : (Instr.typeAssert (.iface 80 v) 96 80 true).run Tryd.prog w = .ok (.tuple #[v, .bool true]) w := by kernel_rfl
/-- Where the method (number 150) is called of a pointer, none of the kind that is nil stands ahead. -/
theorem nilAheadW (a : Addr) (w : World) : (nilAhead 312 80 (.pointer (some a)) "countwheel/fault.within").run Tryd.prog w = .ok (some false) w := by kernel_rfl
theorem methodW (a : Addr) (w : World) : (Go.method 312 80 (.pointer (some a)) "countwheel/fault.within").run Tryd.prog w = .ok (150, .pointer (some a)) w := by kernel_rfl
theorem within_any (g : Nat) (b : Bool) (n : Int) (y : Value) (w : World) (h : w.heap[g]? = some (.cells #[.bool b, .int .i64 n, y] 79 (0, 0))) :
    Calls Tryd.prog 150 #[.pointer (some ⟨g, 0, none⟩)] w fun e w' => e = .returned y ∧ w = w' := by
  have hc : w.cell? ⟨g, 2, none⟩ = some y := by rw [cell_of_row w _ _ _ _ _ h]; rfl
  clear h
  go_enter Tryd.func150, Tryd.ntmps150
  go_wp2
  go_ret
  exact ⟨rfl, rfl⟩
theorem outer_any {w0 : World} {x : Value} {ws : List (Bool × Int)} {k : Int} (h : IsFault w0 x ws k) (w : World) :
    Calls Tryd.prog 60 #[x] w fun e w' => e = .returned x ∧ Below w.heap.size w w' := by
  cases ws with
  | nil => obtain rfl := h; exact outer_class k w
  | cons a ws => obtain ⟨g, y, rfl, _⟩ := h; exact outer_wrap _ w
theorem infoW : (Tryd.prog.info? 80).map (fun i => (i.zero, i.size, i.bytes)) = some (some (.pointer none), 1, 8) := by kernel_rfl

def PRel (w : World) (ws : List (Bool × Int)) (k : Int) (l p : Value) (wr : World) : Prop :=
  ∃ (gs : List Nat) (done rest : List (Bool × Int)), done ++ rest = ws ∧ WrapsAt w gs done ∧ IsFault w p rest k ∧ wr.ownsRow w.heap.size 80 1 l gs.length (ptrs gs) ∧ Below w.heap.size w wr
set_option maxRecDepth 4000 in
set_option maxHeartbeats 1600000 in
theorem parts_any (x : Value) (ws : List (Bool × Int)) (k : Int) (w : World) (h : IsFault w x ws k) (hw : ws.length ≤ 1000000) :
    Calls Tryd.prog 41 #[x] w (PartsPost w ws k) := by
  obtain ⟨i0, hi, hz0, hz1, hz2⟩ := info_parts infoW
  have H := Lib.hid h
  have HW := Lib.hid hw
  clear h hw
  go_enter Tryd.func41, Tryd.ntmps41
  go_wp2_with fail
  refine (outer_any H.out _).mono ?_
  rintro e w1 ⟨rfl, hb1⟩
  go_wp2_with fail
  go_loopw [4, 5] (fun l p wr => PRel w ws k l p wr) (fun l _ _ => ws.length + 1 - lenOf l)
  case atStart => exact ⟨[], [], ws, rfl, trivial, H.out, World.ownsRow_nil _ _ _ _, hb1⟩
  case round =>
    obtain ⟨gs, done, rest, hdr, hgs, hp, hown, hbel⟩ := hrel
    have hlen : gs.length = done.length := hgs.length
    have HDR := Lib.hid hdr
    have HGS := Lib.hid hgs
    have HP := Lib.hid hp
    have HLO := Lib.hid (owns_len hown)
    clear hdr hgs hp
    cases rest with
    | nil =>
      obtain rfl : _ = _ := HP.out
      have a1 := assertC1
      have a2 := assertC2
      have hd : done = ws := by have := HDR.out; simpa using this
      subst hd
      go_wp2
      go_ret2
      exact ⟨_, gs, rfl, HGS.out, hown, hbel⟩
    | cons a rest =>
      obtain ⟨b, n⟩ := a
      obtain ⟨g, y, rfl, hg, hy⟩ := HP.out
      have HG := Lib.hid hg
      have HY := Lib.hid hy
      have HGR : Hid (∀ wr : World, Below w.heap.size w wr → wr.heap[g]? = some (.cells #[.bool b, .int .i64 n, y] 79 (0, 0))) := fun wr hb => (hb.block g (lt_of_block hg)).trans hg
      clear hg hy
      have a1 := assertW1
      have hlt : Hid (gs.length < ws.length) := by
        show _ < _
        have := congrArg List.length HDR.out
        simp at this
        omega
      clear hlen
      go_wp2_with (at_builtin; refine wpList_append_own _ rfl _ _ 75 rfl w.heap.size 80 i0 (.pointer none) 1 8 Tryd.underlying75 hi hz0 hz1 hz2 rfl (by decide) _ _ _ rfl (hown.alloc _) ⟨wr.heap.size, 0, none⟩ 1 1 [.pointer (some ⟨g, 0, none⟩)] rfl rfl ?c1 ?c2 ?c3 ?c4 ?c5 ?_)
      case c1 =>
        intro j u hj
        match j, hj with
        | 0, hj => simp at hj; subst hj; simp [Addr.add]
      case c2 => intro u hu; simp at hu; subst hu; rfl
      case c3 => have := hlt.out; have := HW.out; unfold maxLen; omega
      case c4 => have := hlt.out; have := HW.out; omega
      case c5 => have := hbel.size; simp; omega
      intro l2 w2 hown2 hgrow2 _
      have hbel2 : Below w.heap.size w w2 := (hbel.alloc hbel.size _).grown hgrow2 (by have := hbel.size; simp; omega) (fun j hj => (hown.lt j hj).1)
      have HO : Hid (w2.ownsRow w.heap.size 80 1 l2 (gs ++ [g]).length (ptrs (gs ++ [g]))) := by
        show World.ownsRow _ _ _ _ _ _ _
        simpa [ptrs] using hown2
      have hgw2 := HGR.out w2 hbel2
      clear hown hbel hown2 hgrow2
      have na := nilAheadW
      have ma := methodW
      go_wp2_with fail
      refine (within_any g b n y _ hgw2).mono ?_
      rintro e w3 ⟨rfl, rfl⟩
      go_wp2_with fail
      refine (outer_any HY.out _).mono ?_
      rintro e w3 ⟨rfl, hb3⟩
      have HO3 : Hid (w3.ownsRow w.heap.size 80 1 l2 (gs ++ [g]).length (ptrs (gs ++ [g]))) := owns_kept HO.out hb3
      have hbel3 : Below w.heap.size w w3 := hbel2.trans (hb3.mono hbel2.size)
      clear hbel2 hb3 hgw2 HO
      go_wp2
      go_roundw
      case rel => exact ⟨gs ++ [g], done ++ [(b, n)], rest, by have := HDR.out; simpa using this, HGS.out.snoc ⟨y, HGR.out w (Below.refl _ _)⟩, HY.out, HO3.out, hbel3⟩
      case measure =>
        have h1 := HLO.out
        have h2 := owns_len HO3.out
        have h3 := hlt.out
        rw [h1, h2]; simp; omega
end Go.Proofs.YtpjillclladjaaaDoor.Flt

namespace Go.Proofs.YtpjillclladjaaaDoor.Flt

open Go.RowKit Go.PlainAid

/-- The outermost section, the outermost place. -/
def secOf : List (Bool × Int) → Int
  | [] => 0
  | (true, n) :: _ => n
  | (false, _) :: r => secOf r
def atOf : List (Bool × Int) → Int
  | [] => 0
  | (false, n) :: _ => n
  | (true, _) :: r => atOf r
def fltV (k s a : Int) : Value := .agg #[.int .i64 k, .int .i64 s, .int .i64 a]

/-- A slice of pointers that reads as the blocks gs. -/
def IsPtrs (w : World) (A : Option Addr) (gs : List Nat) : Prop := ∀ i (h : i < gs.length), ∃ r, A = some ⟨r, 0, none⟩ ∧ w.cell? ⟨r, i, none⟩ = some (.pointer (some ⟨gs[i], 0, none⟩))
theorem owns_ptrs {w : World} {B : Nat} {l : Value} {gs : List Nat} (h : w.ownsRow B 80 1 l gs.length (ptrs gs)) : ∃ A cap, l = .slice A gs.length cap ∧ gs.length ≤ cap ∧ IsPtrs w A gs := by
  rcases h.2 with ⟨rfl, h0⟩ | ⟨g, cap, cur, rfl, _, h3, h4, _, _, h5⟩
  · exact ⟨none, 0, by rw [h0], by omega, fun i hi => by omega⟩
  · refine ⟨_, cap, rfl, h4, fun i hi => ⟨g, rfl, ?_⟩⟩
    rw [cell_of_row w _ _ _ _ _ h3]
    have e : (cur.toList.take (gs.length * 1))[i]? = (ptrs gs)[i]? := by rw [h5]
    rw [List.getElem?_take_of_lt (by omega)] at e
    rw [← Array.getElem?_toList, e]
    simp [ptrs, hi]
theorem IsPtrs.kept {w w' : World} {A : Option Addr} {gs : List Nat} (h : IsPtrs w A gs) (b : Below w.heap.size w w') : IsPtrs w' A gs := by
  intro i hi
  obtain ⟨r, e, hc⟩ := h i hi
  exact ⟨r, e, (b.cell (Go.block_lt_of_cell hc)).trans hc⟩
theorem sec_drop (ws : List (Bool × Int)) (j : Nat) (h : j < ws.length) : secOf (ws.drop j) = if ws[j].1 then ws[j].2 else secOf (ws.drop (j + 1)) := by
  rw [List.drop_eq_getElem_cons h]
  rcases ws[j] with ⟨b, n⟩
  cases b <;> rfl
theorem at_drop (ws : List (Bool × Int)) (j : Nat) (h : j < ws.length) : atOf (ws.drop j) = if ws[j].1 then atOf (ws.drop (j + 1)) else ws[j].2 := by
  rw [List.drop_eq_getElem_cons h]
  rcases ws[j] with ⟨b, n⟩
  cases b <;> rfl
def fltCells (k s a : Int) : Array Value := #[.int .i64 k, .int .i64 s, .int .i64 a]
theorem size_flt : (Tryd.prog.info? 40).map (·.size) = some 3 := by kernel_rfl

theorem one_flt (k s a : Int) : (#[Value.int .i64 k, .int .i64 s, .int .i64 a]).all (·.oneCell') = true := by simp [Value.oneCell']

theorem of_nil (w : World) : Calls Tryd.prog 12 #[.nilIface] w fun e w' => e = .returned (fltV 0 0 0) ∧ Below w.heap.size w w' := by
  go_enter Tryd.func12, Tryd.ntmps12
  go_wp2
  simp [bodyPost, results, Tryd.results12, go_sem]
  exact ⟨rfl, (Below.refl _ _).alloc (Nat.le_refl _) _⟩

def ORel (ws : List (Bool × Int)) (k : Int) (w1 : World) (i : Value) (wr : World) : Prop :=
  ∃ j : Nat, j ≤ ws.length ∧ i = .int .i64 ((j : Int) - 1) ∧ wr.heap[w1.heap.size]? = some (.cells #[.int .i64 k, .int .i64 (secOf (ws.drop j)), .int .i64 (atOf (ws.drop j))] 40 (0, 0)) ∧ Below w1.heap.size w1 wr
set_option maxRecDepth 4000 in
set_option maxHeartbeats 1600000 in
theorem of_any (x : Value) (ws : List (Bool × Int)) (k : Int) (w : World) (h : IsFault w x ws k) (hw : ws.length ≤ 1000000) :
    Calls Tryd.prog 12 #[x] w fun e w' => e = .returned (fltV k (secOf ws) (atOf ws)) ∧ Below w.heap.size w w' := by
  obtain ⟨u, y, rfl⟩ : ∃ u y, x = .iface u y := by
    cases ws with
    | nil => exact ⟨_, _, h⟩
    | cons a ws => obtain ⟨g, y, e, _⟩ := h; exact ⟨_, _, e⟩
  have hb0 : Below w.heap.size w (w.alloc (.cells #[.int .i64 0, .int .i64 0, .int .i64 0] 40)) := (Below.refl _ _).alloc (Nat.le_refl _) _
  have H := Lib.hid (h.kept hb0)
  have HW := Lib.hid hw
  clear h hw
  go_enter Tryd.func12, Tryd.ntmps12
  go_wp2_with fail
  refine (parts_any _ ws k _ H.out HW.out).mono ?_
  rintro e w1 ⟨l, gs, rfl, hgs, hown, hb1⟩
  obtain ⟨A, cap, rfl, hcap, hptr⟩ := owns_ptrs hown
  have hlen := hgs.length
  have hB : Hid (w1.heap[w.heap.size]? = some (.cells #[.int .i64 0, .int .i64 0, .int .i64 0] 40 (0, 0))) := (hb1.block _ (by simp)).trans (heap_alloc_new _ _)
  have hsz : w.heap.size < w1.heap.size := lt_of_block hB.out
  have HSZ := Lib.hid hsz
  have hbel : Below w.heap.size w w1 := hb0.trans (hb1.mono hb0.size)
  have HGS := Lib.hid (hgs.kept hb1)
  have HP := Lib.hid hptr
  have HL := Lib.hid hlen
  have hn9 : ((gs.length : Nat) : Int) ≤ 1000000 := by have := HW.out; omega
  clear hgs hown hb1 hptr hlen hb0 H hsz
  go_wp2_with fail
  go_loopw [6] (fun i wr => ORel ws k w1 i wr) (fun i _ => (intOf i + 1).toNat)
  case atStart =>
    refine ⟨ws.length, Nat.le_refl _, by rw [HL.out], ?_, (Below.refl _ _).alloc (Nat.le_refl _) _⟩
    rw [List.drop_length]; exact heap_alloc_new _ _
  case round =>
    obtain ⟨j, hj, rfl, hF, hbr⟩ := hrel
    cases j with
    | zero =>
      have hB2 : Hid (wr.heap[w.heap.size]? = some (.cells #[.int .i64 0, .int .i64 0, .int .i64 0] 40 (0, 0))) := (hbr.block _ HSZ.out).trans hB.out
      have HF : Hid (wr.heap[w1.heap.size]? = some (.cells #[.int .i64 k, .int .i64 (secOf ws), .int .i64 (atOf ws)] 40 (0, 0))) := by show _ = _; simpa using hF
      clear hF hj hn9 hcap
      go_wp2_with (first
        | ((with_reducible show wpList _ _ _ _ _ _); refine wpList_load_row rfl 40 (.tmp 5) rfl w1.heap.size rfl 40 _ (0, 0) _ HF.out Tryd.underlying40 rfl (by rw [size_flt]; rfl) ?_)
        | ((with_reducible show wpList _ _ _ _ _ _); (refine wpList_store_row rfl 40 (.tmp 2) (.tmp 47) rfl w.heap.size #[.int .i64 k, .int .i64 (secOf ws), .int .i64 (atOf ws)] rfl rfl 40 #[.int .i64 0, .int .i64 0, .int .i64 0] hB2.out (by rw [size_flt]; rfl) rfl (one_flt _ _ _) ?_)))
      refine bodyPost_ret (v := fltV k (secOf ws) (atOf ws)) (results_cell_row (by rfl) _ _ w.heap.size 40 _ (0, 0) _ rfl (setRow_heap _ _ _ _ _ _ hB2.out) Tryd.underlying40 rfl (by rw [size_flt]; rfl)) rfl ⟨rfl, ?_⟩
      exact hbel.trans ((hbr.mono hbel.size).trans ⟨rfl, rfl, rfl, by simp, fun b hb => setRow_other _ _ _ _ (by omega)⟩)
    | succ m =>
      have e0 : (((m + 1 : Nat) : Int) - 1) = (m : Int) := by omega
      rw [e0]
      have hml : m < gs.length := by have := HL.out; omega
      obtain ⟨r, hA, hc0⟩ := HP.out m hml
      subst hA
      obtain ⟨yy, hg0⟩ := HGS.out.get m (by omega) hml
      obtain ⟨g, hgg⟩ : ∃ g, gs[m] = g := ⟨_, rfl⟩
      obtain ⟨b, hbb⟩ : ∃ b, (ws[m]'(by omega)).1 = b := ⟨_, rfl⟩
      obtain ⟨n, hnn⟩ : ∃ n, (ws[m]'(by omega)).2 = n := ⟨_, rfl⟩
      have hs0 := sec_drop ws m (by omega)
      have ha0 := at_drop ws m (by omega)
      rw [hgg, hbb, hnn] at hg0
      rw [hgg] at hc0
      rw [hbb, hnn] at hs0 ha0
      have hc1 : wr.cell? ⟨r, m, none⟩ = some (.pointer (some ⟨g, 0, none⟩)) := (hbr.cell (Go.block_lt_of_cell hc0)).trans hc0
      have hg1 : wr.heap[g]? = some (.cells #[.bool b, .int .i64 n, yy] 79 (0, 0)) := (hbr.block _ (lt_of_block hg0)).trans hg0
      have hc2 : wr.cell? ⟨g, 0, none⟩ = some (.bool b) := by rw [cell_of_row wr _ _ _ _ _ hg1]; rfl
      have hc3 : wr.cell? ⟨g, 1, none⟩ = some (.int .i64 n) := by rw [cell_of_row wr _ _ _ _ _ hg1]; rfl
      obtain ⟨S, hS⟩ : ∃ S, secOf (ws.drop (m + 1)) = S := ⟨_, rfl⟩
      obtain ⟨T, hT⟩ : ∃ T, atOf (ws.drop (m + 1)) = T := ⟨_, rfl⟩
      rw [hS, hT] at hF
      rw [hS] at hs0
      rw [hT] at ha0
      have hf1 : wr.frozen? ⟨w1.heap.size, 1, none⟩ = false := frozen_of_row wr _ _ _ _ hF
      have hf2 : wr.frozen? ⟨w1.heap.size, 2, none⟩ = false := frozen_of_row wr _ _ _ _ hF
      have hd1 : wr.cell? ⟨w1.heap.size, 1, none⟩ = some (.int .i64 S) := by rw [cell_of_row wr _ _ _ _ _ hF]; rfl
      have hd2 : wr.cell? ⟨w1.heap.size, 2, none⟩ = some (.int .i64 T) := by rw [cell_of_row wr _ _ _ _ _ hF]; rfl
      have hmn : (m : Int) < (gs.length : Int) := by omega
      have hm9 : (m : Int) ≤ 1000000 := by omega
      have HS := Lib.hid hs0
      have HT := Lib.hid ha0
      have HJ := Lib.hid hj
      have HF1 : Hid ((wr.setCell ⟨w1.heap.size, 1, none⟩ (.int .i64 n)).heap[w1.heap.size]? = some (.cells #[.int .i64 k, .int .i64 n, .int .i64 T] 40 (0, 0))) := by
        show _ = _; rw [heap_setCell_same wr _ _ _ _ _ hF]; rfl
      have HF2 : Hid ((wr.setCell ⟨w1.heap.size, 2, none⟩ (.int .i64 n)).heap[w1.heap.size]? = some (.cells #[.int .i64 k, .int .i64 S, .int .i64 n] 40 (0, 0))) := by
        show _ = _; rw [heap_setCell_same wr _ _ _ _ _ hF]; rfl
      have HB1 : ∀ v, Below w1.heap.size w1 (wr.setCell ⟨w1.heap.size, 1, none⟩ v) := fun v => hbr.setCell (Nat.le_refl _) v
      have HB2 : ∀ v, Below w1.heap.size w1 (wr.setCell ⟨w1.heap.size, 2, none⟩ v) := fun v => hbr.setCell (Nat.le_refl _) v
      have HBB1 := Lib.hid HB1
      have HBB2 := Lib.hid HB2
      clear hs0 ha0 hgg hbb hnn hS hT hc0 hg0 hg1 hF hj HB1 HB2 hbr
      cases b with
      | true =>
        go_wp2
        go_roundw
        case rel => exact ⟨m, by have := HJ.out; omega, by go_num, by rw [HS.out, HT.out]; exact HF1.out, HBB1.out _⟩
        case measure => simp [intOf]
      | false =>
        go_wp2
        go_roundw
        case rel => exact ⟨m, by have := HJ.out; omega, by go_num, by rw [HS.out, HT.out]; exact HF2.out, HBB2.out _⟩
        case measure => simp [intOf]
end Go.Proofs.YtpjillclladjaaaDoor.Flt
