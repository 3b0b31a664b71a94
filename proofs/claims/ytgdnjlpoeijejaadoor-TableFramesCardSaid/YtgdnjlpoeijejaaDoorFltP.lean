
/- What package fault's parts does at a fault: its wraps, the outermost first, in memory of its own, and its class; nothing that was there has changed. Condition: there are at most a million wraps. -/

import Derived.Test.YtgdnjlpoeijejaaDoorFltB

import Derived.Test.YtgdnjlpoeijejaaDoorFltO

namespace Go.Proofs.YtgdnjlpoeijejaaDoor.Flt

open Go.RowKit Go.PlainAid

/-- The blocks gs are the wraps ws. -/
def WrapsAt (w : World) : List Nat → List (Bool × Int) → Prop
  | [], [] => True
  | g :: gs, (b, n) :: ws => (∃ y, w.heap[g]? = some (.cells #[.bool b, .int .i64 n, y] 67 (0, 0))) ∧ WrapsAt w gs ws
  | _, _ => False
theorem WrapsAt.snoc {w : World} : ∀ {gs : List Nat} {ws : List (Bool × Int)} (_ : WrapsAt w gs ws) {g : Nat} {b : Bool} {n : Int} (_ : ∃ y, w.heap[g]? = some (.cells #[.bool b, .int .i64 n, y] 67 (0, 0))), WrapsAt w (gs ++ [g]) (ws ++ [(b, n)])
  | [], [], _, _, _, _, h => ⟨h, trivial⟩
  | _ :: _, (_, _) :: _, ⟨h1, h2⟩, _, _, _, h => ⟨h1, h2.snoc h⟩
  | [], _ :: _, h, _, _, _, _ => h.elim
  | _ :: _, [], h, _, _, _, _ => h.elim
theorem WrapsAt.length {w : World} : ∀ {gs : List Nat} {ws : List (Bool × Int)}, WrapsAt w gs ws → gs.length = ws.length
  | [], [], _ => rfl
  | _ :: _, (_, _) :: _, ⟨_, h⟩ => by simp [h.length]
  | [], _ :: _, h => h.elim
  | _ :: _, [], h => h.elim
theorem WrapsAt.get {w : World} : ∀ {gs : List Nat} {ws : List (Bool × Int)} (_ : WrapsAt w gs ws) (i : Nat) (hi : i < ws.length) (hg : i < gs.length), ∃ y, w.heap[gs[i]]? = some (.cells #[.bool ws[i].1, .int .i64 ws[i].2, y] 67 (0, 0))
  | _ :: _, (_, _) :: _, ⟨h, _⟩, 0, _, _ => h
  | _ :: _, (_, _) :: _, ⟨_, h⟩, i + 1, hi, hg => h.get i (by simpa using hi) (by simpa using hg)
  | [], [], _, _, hi, _ => by simp at hi
  | [], _ :: _, h, _, _, _ => h.elim
  | _ :: _, [], h, _, _, _ => h.elim
theorem WrapsAt.kept {w w' : World} (b : Below w.heap.size w w') : ∀ {gs : List Nat} {ws : List (Bool × Int)}, WrapsAt w gs ws → WrapsAt w' gs ws
  | [], [], h => h
  | _ :: _, (_, _) :: _, ⟨⟨y, hy⟩, h⟩ => ⟨⟨y, (b.block _ (lt_of_block hy)).trans hy⟩, h.kept b⟩
  | [], _ :: _, h => h.elim
  | _ :: _, [], h => h.elim

def ptrs (gs : List Nat) : List Value := gs.map fun g => .pointer (some ⟨g, 0, none⟩)
def PartsPost (w : World) (ws : List (Bool × Int)) (k : Int) (e : Ending) (w' : World) : Prop :=
  ∃ (l : Value) (gs : List Nat), e = .returned (.tuple #[l, .int .i64 k]) ∧ WrapsAt w gs ws ∧ w'.ownsRow w.heap.size 68 1 l gs.length (ptrs gs) ∧ Below w.heap.size w w'
def lenOf : Value → Nat
  | .slice _ n _ => n
  | _ => 0
theorem owns_len {w : World} {B e n : Nat} {v : Value} {xs : List Value} (h : w.ownsRow B e 1 v n xs) : lenOf v = n := by
  rcases h.2 with ⟨rfl, rfl⟩ | ⟨g, cap, cur, rfl, _⟩ <;> rfl

theorem owns_kept {w w' : World} {B e size n : Nat} {v : Value} {xs : List Value} (h : w.ownsRow B e size v n xs) (b : Below w.heap.size w w') : w'.ownsRow B e size v n xs := by
  refine ⟨h.1, ?_⟩
  rcases h.2 with h | ⟨g, cap, cur, h1, h2, h3, h4⟩
  · exact .inl h
  · exact .inr ⟨g, cap, cur, h1, h2, (b.block g (lt_of_block h3)).trans h3, h4⟩
theorem assertC1 (v : Value) (w : World) : (Instr.typeAssert (.iface 78 v) 87 68 true).run Tryd.prog w = .ok (.tuple #[.pointer none, .bool false]) w := by kernel_rfl
theorem assertC2 (v : Value) (w : World) : (Instr.typeAssert (.iface 78 v) 87 78 true).run Tryd.prog w = .ok (.tuple #[v, .bool true]) w := by kernel_rfl
theorem assertW1 (v : Value) (w : World) : (Instr.typeAssert (.iface 68 v) 87 68 true).run Tryd.prog w = .ok (.tuple #[v, .bool true]) w := by kernel_rfl
theorem nilAheadW (a : Addr) (w : World) : (nilAhead 276 68 (.pointer (some a)) "countwheel/fault.within").run Tryd.prog w = .ok (some false) w := by kernel_rfl
theorem methodW (a : Addr) (w : World) : (Go.method 276 68 (.pointer (some a)) "countwheel/fault.within").run Tryd.prog w = .ok (99, .pointer (some a)) w := by kernel_rfl
theorem within_any (g : Nat) (b : Bool) (n : Int) (y : Value) (w : World) (h : w.heap[g]? = some (.cells #[.bool b, .int .i64 n, y] 67 (0, 0))) :
    Calls Tryd.prog 99 #[.pointer (some ⟨g, 0, none⟩)] w fun e w' => e = .returned y ∧ w = w' := by
  have hc : w.cell? ⟨g, 2, none⟩ = some y := by rw [cell_of_row w _ _ _ _ _ h]; rfl
  clear h
  go_enter Tryd.func99, Tryd.ntmps99
  go_wp2
  go_ret
  exact ⟨rfl, rfl⟩
theorem outer_any {w0 : World} {x : Value} {ws : List (Bool × Int)} {k : Int} (h : IsFault w0 x ws k) (w : World) :
    Calls Tryd.prog 39 #[x] w fun e w' => e = .returned x ∧ Below w.heap.size w w' := by
  cases ws with
  | nil => obtain rfl := h; exact outer_class k w
  | cons a ws => obtain ⟨g, y, rfl, _⟩ := h; exact outer_wrap _ w
theorem infoW : (Tryd.prog.info? 68).map (fun i => (i.zero, i.size, i.bytes)) = some (some (.pointer none), 1, 8) := by kernel_rfl

def PRel (w : World) (ws : List (Bool × Int)) (k : Int) (l p : Value) (wr : World) : Prop :=
  ∃ (gs : List Nat) (done rest : List (Bool × Int)), done ++ rest = ws ∧ WrapsAt w gs done ∧ IsFault w p rest k ∧ wr.ownsRow w.heap.size 68 1 l gs.length (ptrs gs) ∧ Below w.heap.size w wr
set_option maxRecDepth 4000 in
set_option maxHeartbeats 1600000 in
theorem parts_any (x : Value) (ws : List (Bool × Int)) (k : Int) (w : World) (h : IsFault w x ws k) (hw : ws.length ≤ 1000000) :
    Calls Tryd.prog 26 #[x] w (PartsPost w ws k) := by
  obtain ⟨i0, hi, hz0, hz1, hz2⟩ := info_parts infoW
  have H := Lib.hid h
  have HW := Lib.hid hw
  clear h hw
  go_enter Tryd.func26, Tryd.ntmps26
  go_wp2_with fail
  refine (outer_any H.out _).mono ?_
  rintro e w1 ⟨rfl, hb1⟩
  go_wp2_with fail
  go_loopw [4, 5] (fun l p wr => PRel w ws k l p wr) (fun l _ _ => ws.length + 1 - lenOf l)
  case atStart => exact ⟨[], [], ws, rfl, trivial, H.out, World.ownsRow_nil _ _ _ _, hb1⟩
  case round =>
    obtain ⟨gs, done, rest, hdr, hgs, hp, hown, hbel⟩ := hrel
    have hlen : gs.length = done.length := hgs.length
    have HDR := Lib.hid hdr
    have HGS := Lib.hid hgs
    have HP := Lib.hid hp
    have HLO := Lib.hid (owns_len hown)
    clear hdr hgs hp
    cases rest with
    | nil =>
      obtain rfl : _ = _ := HP.out
      have a1 := assertC1
      have a2 := assertC2
      have hd : done = ws := by have := HDR.out; simpa using this
      subst hd
      go_wp2
      go_ret2
      exact ⟨_, gs, rfl, HGS.out, hown, hbel⟩
    | cons a rest =>
      obtain ⟨b, n⟩ := a
      obtain ⟨g, y, rfl, hg, hy⟩ := HP.out
      have HG := Lib.hid hg
      have HY := Lib.hid hy
      have HGR : Hid (∀ wr : World, Below w.heap.size w wr → wr.heap[g]? = some (.cells #[.bool b, .int .i64 n, y] 67 (0, 0))) := fun wr hb => (hb.block g (lt_of_block hg)).trans hg
      clear hg hy
      have a1 := assertW1
      have hlt : Hid (gs.length < ws.length) := by
        show _ < _
        have := congrArg List.length HDR.out
        simp at this
        omega
      clear hlen
      go_wp2_with (at_builtin; refine wpList_append_own _ rfl _ _ 63 rfl w.heap.size 68 i0 (.pointer none) 1 8 Tryd.underlying63 hi hz0 hz1 hz2 rfl (by decide) _ _ _ rfl (hown.alloc _) ⟨wr.heap.size, 0, none⟩ 1 1 [.pointer (some ⟨g, 0, none⟩)] rfl rfl ?c1 ?c2 ?c3 ?c4 ?c5 ?_)
      case c1 =>
        intro j u hj
        match j, hj with
        | 0, hj => simp at hj; subst hj; simp [Addr.add]
      case c2 => intro u hu; simp at hu; subst hu; rfl
      case c3 => have := hlt.out; have := HW.out; unfold maxLen; omega
      case c4 => have := hlt.out; have := HW.out; omega
      case c5 => have := hbel.size; simp; omega
      intro l2 w2 hown2 hgrow2 _
      have hbel2 : Below w.heap.size w w2 := (hbel.alloc hbel.size _).grown hgrow2 (by have := hbel.size; simp; omega) (fun j hj => (hown.lt j hj).1)
      have HO : Hid (w2.ownsRow w.heap.size 68 1 l2 (gs ++ [g]).length (ptrs (gs ++ [g]))) := by
        show World.ownsRow _ _ _ _ _ _ _
        simpa [ptrs] using hown2
      have hgw2 := HGR.out w2 hbel2
      clear hown hbel hown2 hgrow2
      have na := nilAheadW
      have ma := methodW
      go_wp2_with fail
      refine (within_any g b n y _ hgw2).mono ?_
      rintro e w3 ⟨rfl, rfl⟩
      go_wp2_with fail
      refine (outer_any HY.out _).mono ?_
      rintro e w3 ⟨rfl, hb3⟩
      have HO3 : Hid (w3.ownsRow w.heap.size 68 1 l2 (gs ++ [g]).length (ptrs (gs ++ [g]))) := owns_kept HO.out hb3
      have hbel3 : Below w.heap.size w w3 := hbel2.trans (hb3.mono hbel2.size)
      clear hbel2 hb3 hgw2 HO
      go_wp2
      go_roundw
      case rel => exact ⟨gs ++ [g], done ++ [(b, n)], rest, by have := HDR.out; simpa using this, HGS.out.snoc ⟨y, HGR.out w (Below.refl _ _)⟩, HY.out, HO3.out, hbel3⟩
      case measure =>
        have h1 := HLO.out
        have h2 := owns_len HO3.out
        have h3 := hlt.out
        rw [h1, h2]; simp; omega
end Go.Proofs.YtgdnjlpoeijejaaDoor.Flt
