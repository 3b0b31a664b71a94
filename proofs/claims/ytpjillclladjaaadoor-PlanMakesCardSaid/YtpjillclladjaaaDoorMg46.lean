/- What package need's Check tells. Condition: the variables hold what the program lays there; at most 1,000 needs, whose numbers may be, and 2 to the power 40 ids; 1 to 1,048,576 ticks. What the document says is wrong first with needs. Condition: at most 1,000 needs, whose numbers may be; 1 to 1,048,576 ticks. -/
import Derived.Test.YtpjillclladjaaaDoorMg44
import Derived.Test.YtpjillclladjaaaDoorMg28
import Derived.Deep.RegionHeld3
import Derived.BigQuiet
import Derived.Deep.Onto
import Derived.Test.YtpjillclladjaaaDoorMg17
import Derived.Test.YtpjillclladjaaaDoorMg45
namespace Go.Proofs.YtpjillclladjaaaDoor.Nee

open Go.RowKit Go.PlainAid Go.Proofs.YtpjillclladjaaaDoor.Oct Go.Proofs.YtpjillclladjaaaDoor.Flt Go.Proofs.YtpjillclladjaaaDoor.Rdr Go.Proofs.YtpjillclladjaaaDoor.Args Go.Proofs.YtpjillclladjaaaDoor.Win

open Go.Proofs.YtpjillclladjaaaDoor.Act (A3 actL flatA ActsAt I64 Wide row_beside)

set_option linter.unusedVariables false

set_option linter.unusedSimpArgs false

def bad1N (ids ws : List Int) (fn i : Nat) (ah x : A3) : Nat := if memB ids x.s = false then 10 else if 0 < i ∧ x.s ≤ ah.s then 9 else if divB x.p fn = false then 13 else if ((lsV x.s x.p ws fn : Nat) : Int) < x.a then 14 else 0
def chkN (ids ws : List Int) (fn : Nat) : A3 → Nat → List A3 → Nat × Int
  | _, _, [] => (0, 0)
  | ah, i, x :: l => if bad1N ids ws fn i ah x = 0 then chkN ids ws fn x (i + 1) l else (bad1N ids ws fn i ah x, i)
theorem bad1N_le (ids ws : List Int) (fn i : Nat) (ah x : A3) : bad1N ids ws fn i ah x ≤ 18 := by
  unfold bad1N
  split
  · omega
  · split
    · omega
    · split
      · omega
      · split <;> omega
/-- Within Check: the schedule's box b, the ids that rise, the word. -/
structure CN (b : Nat) (xs : Array Value) (V : Value) (ids : List Int) (VB n c : Nat) (ws : List Int) (w wr : World) : Prop where
  box : wr.heap[b]? = some (.cells xs 31 (0, 0))
  own : OwnsZ w.heap.size (sortZ ids) V wr
  word : wr.ownsRow w.heap.size 3 1 (.slice (some ⟨VB, 0, none⟩) n c) n (ws.map (Value.int .i64))
  below : Below w.heap.size w wr
theorem CN.keep {b : Nat} {xs : Array Value} {V : Value} {ids : List Int} {VB n c : Nat} {ws : List Int} {w wr w' : World} (f : CN b xs V ids VB n c ws w wr) (k : Below wr.heap.size wr w') : CN b xs V ids VB n c ws w w' :=
  ⟨(k.block _ (lt_of_block f.box)).trans f.box, ⟨owns_kept f.own.1 k, f.own.2⟩, owns_kept f.word k, f.below.trans (k.mono f.below.size)⟩
theorem CN.drewN {b : Nat} {xs : Array Value} {V : Value} {ids : List Int} {VB n c : Nat} {ws : List Int} {w wr : World} (f : CN b xs V ids VB n c ws w wr) (k : Nat) : CN b xs V ids VB n c ws w (wr.drewN k) := f.keep ⟨rfl, rfl, rfl, Nat.le_refl _, fun _ _ => rfl⟩
/-- A need's box beside. -/
structure CX (b X : Nat) (xs : Array Value) (x : A3) (V : Value) (ids : List Int) (VB n c : Nat) (ws : List Int) (w wr : World) : Prop where
  cn : CN b xs V ids VB n c ws w wr
  nd : wr.heap[X]? = some (.cells (winC x) 44 (0, 0))
theorem CX.keep {b X : Nat} {xs : Array Value} {x : A3} {V : Value} {ids : List Int} {VB n c : Nat} {ws : List Int} {w wr w' : World} (f : CX b X xs x V ids VB n c ws w wr) (k : Below wr.heap.size wr w') : CX b X xs x V ids VB n c ws w w' :=
  ⟨f.cn.keep k, (k.block _ (lt_of_block f.nd)).trans f.nd⟩
theorem CX.drewN {b X : Nat} {xs : Array Value} {x : A3} {V : Value} {ids : List Int} {VB n c : Nat} {ws : List Int} {w wr : World} (f : CX b X xs x V ids VB n c ws w wr) (k : Nat) : CX b X xs x V ids VB n c ws w (wr.drewN k) := f.keep ⟨rfl, rfl, rfl, Nat.le_refl _, fun _ _ => rfl⟩
theorem CX.cells {b X : Nat} {c0 c1 c2 c3 : Value} {s p a : Int} {V : Value} {ids : List Int} {VB n c : Nat} {ws : List Int} {w wr : World} (f : CX b X #[c0, c1, c2, c3] ⟨s, p, a⟩ V ids VB n c ws w wr) :
    wr.cell? ⟨b, 1, none⟩ = some c1 ∧ wr.cell? ⟨b, 3, none⟩ = some c3 ∧ wr.cell? ⟨X, 0, none⟩ = some (.int .i64 s) ∧ wr.cell? ⟨X, 1, none⟩ = some (.int .i64 p) ∧ wr.cell? ⟨X, 2, none⟩ = some (.int .i64 a) := by
  refine ⟨?_, ?_, ?_, ?_, ?_⟩
  all_goals first
    | (rw [cell_of_row wr _ _ _ _ _ f.cn.box]; rfl)
    | (rw [cell_of_row wr _ _ _ _ _ f.nd]; rfl)
def CNRel (b : Nat) (xs : Array Value) (V : Value) (ids : List Int) (VB n c : Nat) (ws : List Int) (l : List A3) (q : Nat × Int) (w : World) (i : Value) (wr : World) : Prop :=
  ∃ k : Nat, k ≤ l.length ∧ i = .int .i64 k ∧ q = chkN ids ws n (lastW (l.take k)) k (l.drop k) ∧ CN b xs V ids VB n c ws w wr
set_option maxRecDepth 8000 in
set_option maxHeartbeats 6400000 in
theorem ncheck_any (id : Int) (P : Option Addr) (nl pc : Nat) (l : List A3) (C : Option Addr) (cc : Nat) (I : Option Addr) (li ci : Nat) (ids ws : List Int) (n : Nat) (w : World) (hn : Names w) (hI : IntsBelow w.heap.size w (.slice I li ci) ids)
    (h1 : ActsAt w C l) (hnum : ∀ x ∈ l, Num x) (hl : l.length ≤ 9223372036854775807) (hids : ids.length ≤ 1099511627776) (hw : WordAt #[.int .i64 id, .int .i64 (n : Int), .slice P nl pc, .slice C l.length cc] ws n w) (hwl : ws.length = n) (hn1 : 1 ≤ n) (hn2 : n ≤ 1048576) :
    Calls Tryd.prog 50 #[.agg #[.int .i64 id, .int .i64 (n : Int), .slice P nl pc, .slice C l.length cc], .slice I li ci] w fun e w' => ∃ x, e = .returned x ∧ WrongA w' x (chkN ids ws n ⟨0, 0, 0⟩ 0 l).1 (chkN ids ws n ⟨0, 0, 0⟩ 0 l).2 ∧ Below w.heap.size w w' := by
  obtain ⟨q, hq⟩ : ∃ q, chkN ids ws n ⟨0, 0, 0⟩ 0 l = q := ⟨_, rfl⟩
  have HQ := Lib.hid hq
  rw [hq]
  obtain ⟨a, ha⟩ : ∃ a, l.length = a := ⟨_, rfl⟩
  have HA := Lib.hid ha
  rw [ha] at hl hw
  rw [ha]
  have H1 := Lib.hid h1
  have HN := Lib.hid hn
  have HM := Lib.hid hnum
  have HID : Hid (ids.length ≤ 1099511627776) := hids
  have HWA := Lib.hid hw
  have HWL := Lib.hid hwl
  have HNN : Hid (1 ≤ n ∧ n ≤ 1048576) := ⟨hn1, hn2⟩
  have hb0 : Below w.heap.size w (w.alloc (.cells #[.int .i64 id, .int .i64 (n : Int), .slice P nl pc, .slice C a cc] 31)) := (Below.refl _ _).alloc (Nat.le_refl _) _
  have HB0 := Lib.hid hb0
  have HI := Lib.hid (hI.below hb0)
  clear hq ha h1 hn hw hids hI hb0 hnum hwl hn1 hn2
  go_enter Tryd.func50, Tryd.ntmps50
  go_wp2_with fail
  refine (values_any I li ci _).mono ?_
  rintro e w1 ⟨rfl, rfl⟩
  obtain ⟨W1, hW1⟩ : ∃ W, w.alloc (.cells #[.int .i64 id, .int .i64 (n : Int), .slice P nl pc, .slice C a cc] 31) = W := ⟨_, rfl⟩
  have hbox : W1.heap[w.heap.size]? = some (.cells #[.int .i64 id, .int .i64 (n : Int), .slice P nl pc, .slice C a cc] 31 (0, 0)) := by rw [← hW1]; exact heap_alloc_new _ _
  rw [hW1] at HB0 HI
  rw [hW1]
  have hb2 : Below W1.heap.size W1 (W1.alloc (.cells #[.slice I li ci] 24)) := (Below.refl _ _).alloc (Nat.le_refl _) _
  have hs := sorted_any W1.heap.size (.slice I li ci) ids (W1.alloc (.cells #[.slice I li ci] 24)) HID.out (by rw [cell_of_row _ _ _ _ _ _ (heap_alloc_new W1 _)]; rfl) ((HI.out.below (hb2.mono HB0.out.size)).mono (by have := HB0.out.size; simp; omega))
  have HS := Lib.hid hs
  have HB2 := Lib.hid (HB0.out.trans (hb2.mono HB0.out.size))
  have HBX := Lib.hid ((hb2.block _ (lt_of_block hbox)).trans hbox)
  clear hW1 hbox hb2 hs HI HB0
  go_wp2_with fail
  refine HS.out.mono ?_
  rintro e w3 ⟨V, rfl, ho3, hb3⟩
  obtain ⟨VA, VN, VC, hV⟩ := ho3.slice
  have HB3 := Lib.hid (HB2.out.trans (hb3.mono HB2.out.size))
  have hbx3 := (hb3.block _ (lt_of_block HBX.out)).trans HBX.out
  have HX3 := Lib.hid hbx3
  have HO3 : Hid (OwnsZ w.heap.size (sortZ ids) V w3) := ⟨Go.Proofs.YtpjillclladjaaaDoor.Act.row_base ho3.1 HB2.out.size, ho3.2⟩
  subst hV
  have x0 := cell_of_row _ _ 0 _ _ _ hbx3
  have x1 := cell_of_row _ _ 1 _ _ _ hbx3
  have x2 := cell_of_row _ _ 2 _ _ _ hbx3
  have x3 := cell_of_row _ _ 3 _ _ _ hbx3
  simp only [List.getElem?_toArray, List.getElem?_cons_zero, List.getElem?_cons_succ] at x0 x1 x2 x3
  have HW3 := Lib.hid (HWA.out w3 HB3.out)
  clear ho3 hb3 hbx3 HS HBX HB2 HWA
  go_wp2_with fail
  refine HW3.out.mono ?_
  rintro e w4 ⟨VB, vc, rfl, ho4, hb4⟩
  have HC4 : Hid (CN w.heap.size #[.int .i64 id, .int .i64 (n : Int), .slice P nl pc, .slice C a cc] (.slice VA VN VC) ids VB n vc ws w w4) :=
    ⟨(hb4.block _ (lt_of_block HX3.out)).trans HX3.out, ⟨owns_kept HO3.out.1 hb4, HO3.out.2⟩, ho4.mono HB3.out.size, HB3.out.trans (hb4.mono HB3.out.size)⟩
  have z3 := cell_of_row _ _ 3 _ _ _ HC4.out.box
  simp only [List.getElem?_toArray, List.getElem?_cons_zero, List.getElem?_cons_succ] at z3
  clear ho4 hb4 HW3 HB3 HX3 HO3 x0 x1 x2 x3
  go_wp2_with fail
  clear z3
  go_loopw [20] (fun i wr => CNRel w.heap.size #[.int .i64 id, .int .i64 (n : Int), .slice P nl pc, .slice C a cc] (.slice VA VN VC) ids VB n vc ws l q w i wr) (fun i _ => a - (intOf i).toNat)
  case atStart => exact ⟨0, Nat.zero_le _, rfl, HQ.out.symm, HC4.out⟩
  case round =>
    obtain ⟨k, hk, rfl, hq, hcw⟩ := hrel
    have HCW := Lib.hid hcw
    have HQK := Lib.hid hq
    have hka : k ≤ a := by rw [← HA.out]; exact hk
    clear hk hq hcw HC4
    by_cases hlt : k < a
    · obtain ⟨x, hx⟩ : ∃ x, l[k]? = some x := ⟨_, List.getElem?_eq_getElem (by rw [HA.out]; exact hlt)⟩
      obtain ⟨ax, rfl, c1, c2, c3⟩ := (H1.out.kept HCW.out.below) k x hx
      have HMX := Lib.hid (HM.out x (List.mem_of_getElem? hx))
      have hdr : l.drop k = x :: l.drop (k + 1) := by
        rw [List.drop_eq_getElem_cons (by rw [HA.out]; exact hlt)]
        congr 1
        rw [List.getElem?_eq_getElem (by rw [HA.out]; exact hlt)] at hx
        exact Option.some.inj hx
      have hst := HQK.out
      rw [hdr, chkN] at hst
      have HST := Lib.hid hst
      have HLT := Lib.hid (last_takeW l k x hx)
      have HXK := Lib.hid hx
      obtain ⟨ah, hah⟩ : ∃ ah, lastW (l.take k) = ah := ⟨_, rfl⟩
      rw [hah] at HST
      have HAH := Lib.hid hah
      clear hah hst hdr hx HQK
      have hb5 : Below wr.heap.size wr (wr.alloc (.cells (winC x) 44)) := (Below.refl _ _).alloc (Nat.le_refl _) _
      have HX5 : Hid (CX w.heap.size wr.heap.size #[.int .i64 id, .int .i64 (n : Int), .slice P nl pc, .slice (some ax) a cc] x (.slice VA VN VC) ids VB n vc ws w (wr.alloc (.cells (winC x) 44))) := ⟨HCW.out.keep hb5, heap_alloc_new _ _⟩
      have HSR := Lib.hid (fun W (h : CX w.heap.size wr.heap.size #[.int .i64 id, .int .i64 (n : Int), .slice P nl pc, .slice (some ax) a cc] x (.slice VA VN VC) ids VB n vc ws w W) => search_any w.heap.size (.slice VA VN VC) ids x.s W h.cn.own HID.out)
      have HDV := Lib.hid (fun W => divides_any x.p n (by have := HMX.out; unfold Num at this; unfold I64; omega) HNN.out.2 W)
      have HLS : Hid (divB x.p n = true → ∀ W, CX w.heap.size wr.heap.size #[.int .i64 id, .int .i64 (n : Int), .slice P nl pc, .slice (some ax) a cc] x (.slice VA VN VC) ids VB n vc ws w W → Calls Tryd.prog 75 #[.slice (some ⟨VB, 0, none⟩) n vc, .int .i64 x.s, .int .i64 x.p] W fun e w' => e = .returned (.int .i64 (lsV x.s x.p ws n : Nat)) ∧ Below W.heap.size W w') := fun hd W h => by
        obtain ⟨hq1, hqn⟩ := divB_true hd
        obtain ⟨p, hp⟩ : ∃ p : Nat, x.p = (p : Int) := ⟨x.p.toNat, by omega⟩
        unfold lsV
        rw [if_pos hd, hp, Int.toNat_natCast]
        rw [hp, Int.toNat_natCast] at hqn
        have hK1 : 1 ≤ n / p := by
          rcases Nat.eq_zero_or_pos (n / p) with h | h
          · rw [h] at hqn; have := HNN.out; omega
          · exact h
        have hh := least_any x.s ws ⟨VB, 0, none⟩ p (n / p) vc W (own_zat h.cn.word HWL.out) (h.cn.word.lt VB rfl).2 (by rw [HWL.out, hqn]) (by omega) hK1 (by rw [hqn]; have := HNN.out; omega) (by rw [hqn]; exact (own_cap h.cn.word).1)
        rw [hqn] at hh
        exact hh
      obtain ⟨s1, p1, a1⟩ := x
      unfold winC at HX5
      dsimp only at c1 c2 c3 HX5 HSR HDV HLS
      obtain ⟨r, hr⟩ : ∃ r, bad1N ids ws n k ah ⟨s1, p1, a1⟩ = r := ⟨_, rfl⟩
      have HR := Lib.hid hr
      rw [hr] at HST
      unfold bad1N at hr
      dsimp only at hr
      have hki : (0 : Int) ≤ k := by omega
      have hkb : (k : Int) < a := by omega
      obtain ⟨mb, hmb⟩ : ∃ b, memB ids s1 = b := ⟨_, rfl⟩
      obtain ⟨dv, hdv⟩ : ∃ b, divB p1 n = b := ⟨_, rfl⟩
      obtain ⟨ls, hls⟩ : ∃ m, lsV s1 p1 ws n = m := ⟨_, rfl⟩
      rw [hmb] at HSR hr
      rw [hdv] at HDV HLS hr
      rw [hls] at HLS hr
      have HRR := Lib.hid hr
      have hk1 : IntKind.i64.wrap ((k : Int) + 1) = (k : Int) + 1 := IntWalk.i64_in _ (by omega)
      clear hr hb5 hmb hdv hls
      go_wp2_with fail
      refine (HSR.out _ HX5.out).mono ?_
      rintro e w6 ⟨i6, rfl, nd, rfl⟩
      have hx6 := HX5.out.drewN nd
      obtain ⟨W6, hW6⟩ : ∃ W, (wr.alloc (.cells #[.int .i64 s1, .int .i64 p1, .int .i64 a1] 44)).drewN nd = W := ⟨_, rfl⟩
      obtain ⟨X, hX⟩ : ∃ X, wr.heap.size = X := ⟨_, rfl⟩
      rw [hW6, hX] at hx6
      rw [hX] at HLS
      rw [hW6, hX]
      have HX6 := Lib.hid hx6
      obtain ⟨d1, d3, x0, x1, x2⟩ := hx6.cells
      have ha0 : ¬ a1 < 0 := by have := HMX.out; unfold Num at this; dsimp only at this; omega
      have HT0 : Hid (decide (a1 < 0) = false) := decide_eq_false ha0
      have ta0 := HT0.out
      clear hW6 hX hx6 HX5 HSR c1 c2 c3 HCW
      cases mb with
      | false =>
        obtain rfl : r = 10 := by rw [← HRR.out]; simp
        have hqe : q = (10, (k : Int)) := by rw [HST.out, if_neg (by omega)]
        clear HST HRR HR
        subst hqe
        go_wp2_with (first
          | (go_at_call 39; refine (new_yes 10 (by omega) (by omega) _ (HN.out.kept HX6.out.cn.below)).mono ?_; rintro e w' ⟨rfl, rfl⟩)
          | (go_at_call 38; refine (at_any (k : Int) _ [] 10 _ rfl).mono ?_; rintro e w7 ⟨y, rfl, hy, hb7⟩; have HY := Lib.hid hy; have HB7 := Lib.hid (HX6.out.cn.below.trans (hb7.mono HX6.out.cn.below.size)); clear hy hb7))
        go_ret
        exact ⟨y, rfl, .inr ⟨by omega, by omega, HY.out⟩, HB7.out⟩
      | true =>
        rcases Nat.eq_zero_or_pos k with hz | hz
        · have tkk : decide ((0 : Int) < (k : Int)) = false := decide_eq_false (by omega)
          have tkk2 : decide (0 < k) = false := decide_eq_false (by omega)
          have HZ := Lib.hid hz
          clear hz
          go_wp2
          go_quiet (fail)
          have HX7 := Lib.hid (HX6.out.drewN nq)
          clear d1 d3 x0 x1 x2
          obtain ⟨e1, e2, e3, e4, e5⟩ := HX7.out.cells
          go_wp2_with fail
          refine (HDV.out _).mono ?_
          rintro e w8 ⟨rfl, rfl⟩
          cases dv with
          | false =>
            obtain rfl : r = 13 := by rw [← HRR.out]; simp [HZ.out]
            have hqe : q = (13, (k : Int)) := by rw [HST.out, if_neg (by omega)]
            clear HST HRR HR
            subst hqe
            go_wp2_with (first
              | (go_at_call 39; refine (new_yes 13 (by omega) (by omega) _ (HN.out.kept HX7.out.cn.below)).mono ?_; rintro e w' ⟨rfl, rfl⟩)
              | (go_at_call 38; refine (at_any (k : Int) _ [] 13 _ rfl).mono ?_; rintro e w7 ⟨y, rfl, hy, hb7⟩; have HY := Lib.hid hy; have HB7 := Lib.hid (HX7.out.cn.below.trans (hb7.mono HX7.out.cn.below.size)); clear hy hb7))
            go_ret
            exact ⟨y, rfl, .inr ⟨by omega, by omega, HY.out⟩, HB7.out⟩
          | true =>
            have HLS2 := Lib.hid (HLS.out rfl)
            have HPD : Hid (CX w.heap.size X #[.int .i64 id, .int .i64 (n : Int), .slice P nl pc, .slice (some ax) a cc] ⟨s1, p1, a1⟩ (.slice VA VN VC) ids VB n vc ws w (W6.drewN (nq + 1))) := HX6.out.drewN (nq + 1)
            go_wp2_with fail
            go_region_held3 (fun wx => wx.cell? ⟨w.heap.size, 1, none⟩ = some (.int .i64 (n : Int)) ∧ wx.cell? ⟨w.heap.size, 3, none⟩ = some (.slice (some ax) a cc) ∧ wx.cell? ⟨X, 0, none⟩ = some (.int .i64 s1) ∧ wx.cell? ⟨X, 1, none⟩ = some (.int .i64 p1) ∧ wx.cell? ⟨X, 2, none⟩ = some (.int .i64 a1))
              (first | exact HKP.out | (refine ⟨?_, ?_, ?_, ?_, ?_⟩ <;> assumption) | (go_keep; done))
              (first
                | (go_at_call 75; refine (HLS2.out _ HPD.out).mono ?_; rintro e w9 ⟨rfl, hb9⟩; have HP9 := Lib.hid (HPD.out.keep hb9); have HKP : Hid (w9.cell? ⟨w.heap.size, 1, none⟩ = some (.int .i64 (n : Int)) ∧ w9.cell? ⟨w.heap.size, 3, none⟩ = some (.slice (some ax) a cc) ∧ w9.cell? ⟨X, 0, none⟩ = some (.int .i64 s1) ∧ w9.cell? ⟨X, 1, none⟩ = some (.int .i64 p1) ∧ w9.cell? ⟨X, 2, none⟩ = some (.int .i64 a1)) := HP9.out.cells; clear hb9))
            all_goals
              by_cases hb : (ls : Int) < a1
              · have tb : decide ((ls : Int) < a1) = true := decide_eq_true hb
                obtain rfl : r = 14 := by rw [← HRR.out]; simp [HZ.out, hb]
                have hqe : q = (14, (k : Int)) := by rw [HST.out, if_neg (by omega)]
                clear HST HRR HR
                subst hqe
                go_wp2_with (first
                  | (go_at_call 39; refine (new_yes 14 (by omega) (by omega) _ (HN.out.kept HP9.out.cn.below)).mono ?_; rintro e w' ⟨rfl, rfl⟩)
                  | (go_at_call 38; refine (at_any (k : Int) _ [] 14 _ rfl).mono ?_; rintro e w7 ⟨y, rfl, hy, hb7⟩; have HY := Lib.hid hy; have HB7 := Lib.hid (HP9.out.cn.below.trans (hb7.mono HP9.out.cn.below.size)); clear hy hb7))
                go_ret
                exact ⟨y, rfl, .inr ⟨by omega, by omega, HY.out⟩, HB7.out⟩
              · have tb : decide ((ls : Int) < a1) = false := decide_eq_false hb
                obtain rfl : r = 0 := by rw [← HRR.out]; simp [HZ.out, hb]
                go_wp2
                go_roundw
                case rel =>
                  refine ⟨k + 1, by have := HA.out; omega, by go_num, ?_, HP9.out.cn⟩
                  rw [HLT.out, HST.out, if_pos rfl]
                case measure => simp [intOf]; omega
        · obtain ⟨j, hkj⟩ : ∃ j, k = j + 1 := ⟨k - 1, by omega⟩
          obtain ⟨y, hy⟩ : ∃ y, l[j]? = some y := ⟨_, List.getElem?_eq_getElem (by have := HA.out; omega)⟩
          obtain ⟨ay, hay, e1, _, _⟩ := (H1.out.kept HX6.out.cn.below) j y hy
          obtain rfl := Option.some.inj hay
          have hla : lastW (l.take k) = y := by rw [hkj]; exact last_takeW l j y hy
          obtain rfl : ah = y := by rw [← HAH.out, hla]
          obtain ⟨s2, p2, a2⟩ := ah
          dsimp only at e1 HRR
          have tkk : decide ((0 : Int) < (k : Int)) = true := decide_eq_true (by omega)
          have tkk2 : decide (0 < k) = true := decide_eq_true hz
          have hj1 : IntKind.i64.wrap ((k : Int) - 1) = (j : Int) := by rw [IntKind.wrap_i64]; omega
          have hj0 : (0 : Int) ≤ (j : Int) := by omega
          have hja : (j : Int) < a := by omega
          clear hla hay hy hkj
          by_cases u1 : s1 ≤ s2
          · have tu1 : decide (s1 ≤ s2) = true := decide_eq_true u1
            go_wp2
            go_quiet (fail)
            have HX7 := Lib.hid (HX6.out.drewN nq)
            clear d1 d3 x0 x1 x2
            obtain rfl : r = 9 := by rw [← HRR.out]; simp [hz, u1]
            have hqe : q = (9, (k : Int)) := by rw [HST.out, if_neg (by omega)]
            clear HST HRR HR
            subst hqe
            go_wp2_with (first
              | (go_at_call 39; refine (new_yes 9 (by omega) (by omega) _ (HN.out.kept HX7.out.cn.below)).mono ?_; rintro e w' ⟨rfl, rfl⟩)
              | (go_at_call 38; refine (at_any (k : Int) _ [] 9 _ rfl).mono ?_; rintro e w7 ⟨y, rfl, hy, hb7⟩; have HY := Lib.hid hy; have HB7 := Lib.hid (HX7.out.cn.below.trans (hb7.mono HX7.out.cn.below.size)); clear hy hb7))
            go_ret
            exact ⟨y, rfl, .inr ⟨by omega, by omega, HY.out⟩, HB7.out⟩
          · have tu1 : decide (s1 ≤ s2) = false := decide_eq_false u1
            go_wp2
            go_quiet (fail)
            have HX7 := Lib.hid (HX6.out.drewN nq)
            clear d1 d3 x0 x1 x2 e1
            obtain ⟨e1, e2, e3, e4, e5⟩ := HX7.out.cells
            go_wp2_with fail
            refine (HDV.out _).mono ?_
            rintro e w8 ⟨rfl, rfl⟩
            cases dv with
            | false =>
              obtain rfl : r = 13 := by rw [← HRR.out]; simp [u1]
              have hqe : q = (13, (k : Int)) := by rw [HST.out, if_neg (by omega)]
              clear HST HRR HR
              subst hqe
              go_wp2_with (first
                | (go_at_call 39; refine (new_yes 13 (by omega) (by omega) _ (HN.out.kept HX7.out.cn.below)).mono ?_; rintro e w' ⟨rfl, rfl⟩)
                | (go_at_call 38; refine (at_any (k : Int) _ [] 13 _ rfl).mono ?_; rintro e w7 ⟨y, rfl, hy, hb7⟩; have HY := Lib.hid hy; have HB7 := Lib.hid (HX7.out.cn.below.trans (hb7.mono HX7.out.cn.below.size)); clear hy hb7))
              go_ret
              exact ⟨y, rfl, .inr ⟨by omega, by omega, HY.out⟩, HB7.out⟩
            | true =>
              have HLS2 := Lib.hid (HLS.out rfl)
              have HPD : Hid (CX w.heap.size X #[.int .i64 id, .int .i64 (n : Int), .slice P nl pc, .slice (some ax) a cc] ⟨s1, p1, a1⟩ (.slice VA VN VC) ids VB n vc ws w (W6.drewN (nq + 1))) := HX6.out.drewN (nq + 1)
              go_wp2_with fail
              go_region_held3 (fun wx => wx.cell? ⟨w.heap.size, 1, none⟩ = some (.int .i64 (n : Int)) ∧ wx.cell? ⟨w.heap.size, 3, none⟩ = some (.slice (some ax) a cc) ∧ wx.cell? ⟨X, 0, none⟩ = some (.int .i64 s1) ∧ wx.cell? ⟨X, 1, none⟩ = some (.int .i64 p1) ∧ wx.cell? ⟨X, 2, none⟩ = some (.int .i64 a1))
                (first | exact HKP.out | (refine ⟨?_, ?_, ?_, ?_, ?_⟩ <;> assumption) | (go_keep; done))
                (first
                  | (go_at_call 75; refine (HLS2.out _ HPD.out).mono ?_; rintro e w9 ⟨rfl, hb9⟩; have HP9 := Lib.hid (HPD.out.keep hb9); have HKP : Hid (w9.cell? ⟨w.heap.size, 1, none⟩ = some (.int .i64 (n : Int)) ∧ w9.cell? ⟨w.heap.size, 3, none⟩ = some (.slice (some ax) a cc) ∧ w9.cell? ⟨X, 0, none⟩ = some (.int .i64 s1) ∧ w9.cell? ⟨X, 1, none⟩ = some (.int .i64 p1) ∧ w9.cell? ⟨X, 2, none⟩ = some (.int .i64 a1)) := HP9.out.cells; clear hb9))
              all_goals
                by_cases hb : (ls : Int) < a1
                · have tb : decide ((ls : Int) < a1) = true := decide_eq_true hb
                  obtain rfl : r = 14 := by rw [← HRR.out]; simp [u1, hb]
                  have hqe : q = (14, (k : Int)) := by rw [HST.out, if_neg (by omega)]
                  clear HST HRR HR
                  subst hqe
                  go_wp2_with (first
                    | (go_at_call 39; refine (new_yes 14 (by omega) (by omega) _ (HN.out.kept HP9.out.cn.below)).mono ?_; rintro e w' ⟨rfl, rfl⟩)
                    | (go_at_call 38; refine (at_any (k : Int) _ [] 14 _ rfl).mono ?_; rintro e w7 ⟨y, rfl, hy, hb7⟩; have HY := Lib.hid hy; have HB7 := Lib.hid (HP9.out.cn.below.trans (hb7.mono HP9.out.cn.below.size)); clear hy hb7))
                  go_ret
                  exact ⟨y, rfl, .inr ⟨by omega, by omega, HY.out⟩, HB7.out⟩
                · have tb : decide ((ls : Int) < a1) = false := decide_eq_false hb
                  obtain rfl : r = 0 := by rw [← HRR.out]; simp [u1, hb]
                  go_wp2
                  go_roundw
                  case rel =>
                    refine ⟨k + 1, by have := HA.out; omega, by go_num, ?_, HP9.out.cn⟩
                    rw [HLT.out, HST.out, if_pos rfl]
                  case measure => simp [intOf]; omega
    · obtain rfl : k = a := by omega
      have hqe : q = (0, 0) := by
        rw [HQK.out, List.drop_eq_nil_of_le (by rw [HA.out]; exact Nat.le_refl _)]; rfl
      subst hqe
      have HBE := Lib.hid HCW.out.below
      clear HCW HQK
      go_wp2
      go_ret
      exact ⟨_, rfl, .inl ⟨rfl, rfl, rfl⟩, HBE.out⟩
end Go.Proofs.YtpjillclladjaaaDoor.Nee

namespace Go.Proofs.YtpjillclladjaaaDoor.Nee

open Go.RowKit Go.PlainAid Go.Proofs.YtpjillclladjaaaDoor.Oct Go.Proofs.YtpjillclladjaaaDoor.Flt Go.Proofs.YtpjillclladjaaaDoor.Rdr Go.Proofs.YtpjillclladjaaaDoor.Args Go.Proofs.YtpjillclladjaaaDoor.Win

open Go.Proofs.YtpjillclladjaaaDoor.Act (A3 actL flatA ActsAt I64 Wide)

set_option linter.unusedVariables false

set_option linter.unusedSimpArgs false

theorem in14_any (n₀ : Nat) (I : Option Addr) (li ci : Nat) (ids : List Int) (v : Int) (w : World) (hI : IntsBelow n₀ w (.slice I li ci) ids) (hl : ids.length ≤ 1099511627776) :
    Calls Tryd.prog 45 #[.slice I li ci, .int .i64 v] w fun e w' => e = .returned (.bool (memB ids v)) ∧ w = w' := by
  have hli : li = ids.length := by
    rcases hI with ⟨e, rfl⟩ | ⟨y, cap, e, _, _⟩
    · cases e; rfl
    · cases e; rfl
  have hc : ∀ j, j < li → ∃ y, I = some y ∧ w.cell? (y.add j) = some (.int .i64 (ids[j]?.getD 0)) := by
    rcases hI with ⟨e, rfl⟩ | ⟨y, cap, e, _, hc⟩
    · cases e; intro j hj; omega
    · cases e; exact fun j hj => ⟨y, rfl, hc j hj⟩
  obtain ⟨r, hr⟩ : ∃ r, memB ids v = r := ⟨_, rfl⟩
  have HR := Lib.hid hr
  have HL := Lib.hid hli
  have HC := Lib.hid hc
  rw [hr]
  rw [← hli] at hl
  clear hI hr hli hc
  go_enter Tryd.func45, Tryd.ntmps45
  go_wp2
  go_loop [5] (fun i => ∃ k : Nat, k ≤ li ∧ i = .int .i64 k ∧ memB (ids.take k) v = false) (fun i => li - (intOf i).toNat)
  case atStart => exact ⟨0, Nat.zero_le _, rfl, by simp [memB]⟩
  case round =>
    obtain ⟨k, hk, rfl, hm⟩ := hrel
    have HM := Lib.hid hm
    clear hm
    by_cases hlt : k < li
    · obtain ⟨y, rfl, hcell⟩ := HC.out k hlt
      have hms := mem_snoc ids k (by rw [← HL.out]; exact hlt) v HM.out
      obtain ⟨z, hz⟩ : ∃ z, ids[k]?.getD 0 = z := ⟨_, rfl⟩
      rw [hz] at hcell hms
      have HMS := Lib.hid hms
      have HZ := Lib.hid hz
      clear hms hz
      have hki : (0 : Int) ≤ k := by omega
      have hkb : (k : Int) < li := by omega
      cases hzv : (z == v) with
      | true =>
        have hrt : r = true := by
          rw [← HR.out]
          have h := HMS.out
          rw [hzv] at h
          unfold memB at *
          simp at h ⊢
          exact List.mem_of_mem_take h
        subst hrt
        go_wp2
        go_ret
        exact ⟨rfl, rfl⟩
      | false =>
        go_wp2
        go_round
        case rel => exact ⟨k + 1, by omega, by go_num, by rw [HMS.out, hzv]⟩
        case measure => simp [intOf]; omega
    · obtain rfl : k = li := by omega
      have hrf : r = false := by
        rw [← HR.out]
        have h := HM.out
        rw [HL.out, List.take_length] at h
        exact h
      subst hrf
      go_wp2
      go_ret
      exact ⟨rfl, rfl⟩
/-- What the document's Word hands back. -/
def RWordAt (A : Array Value) (ws : List Int) (n : Nat) (w : World) : Prop :=
  ∀ W, Below w.heap.size w W → Calls Tryd.prog 44 #[.agg A] W fun e w' => ∃ VB c, e = .returned (.slice (some ⟨VB, 0, none⟩) n c) ∧ w'.ownsRow W.heap.size 3 1 (.slice (some ⟨VB, 0, none⟩) n c) n (ws.map (Value.int .i64)) ∧ Below W.heap.size W w'
/-- Within the document's Check: the schedule's box b, the word. -/
structure RN (b : Nat) (xs : Array Value) (VB n c : Nat) (ws : List Int) (w wr : World) : Prop where
  box : wr.heap[b]? = some (.cells xs 31 (0, 0))
  word : wr.ownsRow w.heap.size 3 1 (.slice (some ⟨VB, 0, none⟩) n c) n (ws.map (Value.int .i64))
  below : Below w.heap.size w wr
theorem RN.keep {b : Nat} {xs : Array Value} {VB n c : Nat} {ws : List Int} {w wr w' : World} (f : RN b xs VB n c ws w wr) (k : Below wr.heap.size wr w') : RN b xs VB n c ws w w' :=
  ⟨(k.block _ (lt_of_block f.box)).trans f.box, owns_kept f.word k, f.below.trans (k.mono f.below.size)⟩
theorem RN.drewN {b : Nat} {xs : Array Value} {VB n c : Nat} {ws : List Int} {w wr : World} (f : RN b xs VB n c ws w wr) (k : Nat) : RN b xs VB n c ws w (wr.drewN k) := f.keep ⟨rfl, rfl, rfl, Nat.le_refl _, fun _ _ => rfl⟩
def RNRel (b : Nat) (xs : Array Value) (ids : List Int) (VB n c : Nat) (ws : List Int) (l : List A3) (q : Nat × Int) (w : World) (i : Value) (wr : World) : Prop :=
  ∃ k : Nat, k ≤ l.length ∧ i = .int .i64 k ∧ q = chkN ids ws n (lastW (l.take k)) k (l.drop k) ∧ RN b xs VB n c ws w wr
theorem lsV_le (z p : Int) (ws : List Int) (n : Nat) (hp : 0 ≤ p) : ((lsV z p ws n : Nat) : Int) ≤ p := by
  unfold lsV
  split
  · have := minC_le z ws p.toNat p.toNat (n / p.toNat)
    omega
  · exact hp
set_option maxRecDepth 8000 in
set_option maxHeartbeats 6400000 in
theorem rncheck_any (id : Int) (P : Option Addr) (nl pc : Nat) (l : List A3) (C : Option Addr) (cc : Nat) (I : Option Addr) (li ci : Nat) (ids ws : List Int) (n : Nat) (w : World) (hI : IntsBelow w.heap.size w (.slice I li ci) ids)
    (h1 : ActsAt w C l) (hnum : ∀ x ∈ l, Num x) (hl : l.length ≤ 9223372036854775807) (hids : ids.length ≤ 1099511627776) (hw : RWordAt #[.int .i64 id, .int .i64 (n : Int), .slice P nl pc, .slice C l.length cc] ws n w) (hwl : ws.length = n) (hn1 : 1 ≤ n) (hn2 : n ≤ 1048576) :
    Calls Tryd.prog 20 #[.agg #[.int .i64 id, .int .i64 (n : Int), .slice P nl pc, .slice C l.length cc], .slice I li ci] w fun e w' => e = .returned (.tuple #[.int .i64 (chkN ids ws n ⟨0, 0, 0⟩ 0 l).2, .int .i64 (chkN ids ws n ⟨0, 0, 0⟩ 0 l).1]) ∧ Below w.heap.size w w' := by
  obtain ⟨q, hq⟩ : ∃ q, chkN ids ws n ⟨0, 0, 0⟩ 0 l = q := ⟨_, rfl⟩
  have HQ := Lib.hid hq
  rw [hq]
  obtain ⟨a, ha⟩ : ∃ a, l.length = a := ⟨_, rfl⟩
  have HA := Lib.hid ha
  rw [ha] at hl hw
  rw [ha]
  have H1 := Lib.hid h1
  have HM := Lib.hid hnum
  have HWL := Lib.hid hwl
  have HNN : Hid (1 ≤ n ∧ n ≤ 1048576) := ⟨hn1, hn2⟩
  have HIN : Hid (∀ v W, Below w.heap.size w W → Calls Tryd.prog 45 #[.slice I li ci, .int .i64 v] W fun e w' => e = .returned (.bool (memB ids v)) ∧ W = w') := fun v W b => in14_any w.heap.size I li ci ids v W (hI.below b) hids
  have hb0 : Below w.heap.size w (w.alloc (.cells #[.int .i64 id, .int .i64 (n : Int), .slice P nl pc, .slice C a cc] 31)) := (Below.refl _ _).alloc (Nat.le_refl _) _
  have HB0 := Lib.hid hb0
  have HW0 := Lib.hid (hw _ hb0)
  have HBX := Lib.hid (heap_alloc_new w (.cells #[.int .i64 id, .int .i64 (n : Int), .slice P nl pc, .slice C a cc] 31))
  clear hq ha h1 hw hids hI hb0 hnum hwl hn1 hn2
  go_enter Tryd.func20, Tryd.ntmps20
  go_wp2_with fail
  refine HW0.out.mono ?_
  rintro e w2 ⟨VB, vc, rfl, ho2, hb2⟩
  have HR2 : Hid (RN w.heap.size #[.int .i64 id, .int .i64 (n : Int), .slice P nl pc, .slice C a cc] VB n vc ws w w2) := ⟨(hb2.block _ (lt_of_block HBX.out)).trans HBX.out, ho2.mono HB0.out.size, HB0.out.trans (hb2.mono HB0.out.size)⟩
  clear ho2 hb2 HBX HB0 HW0
  go_wp2_with fail
  go_loopw [7] (fun i wr => RNRel w.heap.size #[.int .i64 id, .int .i64 (n : Int), .slice P nl pc, .slice C a cc] ids VB n vc ws l q w i wr) (fun i _ => a - (intOf i).toNat)
  case atStart => exact ⟨0, Nat.zero_le _, rfl, HQ.out.symm, HR2.out⟩
  case round =>
    obtain ⟨k, hk, rfl, hq, hrn⟩ := hrel
    have HQK := Lib.hid hq
    have HRN := Lib.hid hrn
    have hka : k ≤ a := by rw [← HA.out]; exact hk
    have b3 := cell_of_row _ _ 3 _ _ _ hrn.box
    simp only [List.getElem?_toArray, List.getElem?_cons_zero, List.getElem?_cons_succ] at b3
    clear hk hq hrn HR2
    by_cases hlt : k < a
    · obtain ⟨x, hx⟩ : ∃ x, l[k]? = some x := ⟨_, List.getElem?_eq_getElem (by rw [HA.out]; exact hlt)⟩
      obtain ⟨ax, rfl, c1, c2, c3⟩ := (H1.out.kept HRN.out.below) k x hx
      have HMX := Lib.hid (HM.out x (List.mem_of_getElem? hx))
      have hdr : l.drop k = x :: l.drop (k + 1) := by
        rw [List.drop_eq_getElem_cons (by rw [HA.out]; exact hlt)]
        congr 1
        rw [List.getElem?_eq_getElem (by rw [HA.out]; exact hlt)] at hx
        exact Option.some.inj hx
      have hst := HQK.out
      rw [hdr, chkN] at hst
      have HLT := Lib.hid (last_takeW l k x hx)
      obtain ⟨ah, hah⟩ : ∃ ah, lastW (l.take k) = ah := ⟨_, rfl⟩
      rw [hah] at hst
      have HAH := Lib.hid hah
      have HST := Lib.hid hst
      clear hah hst hdr hx HQK
      have hb5 : Below wr.heap.size wr (wr.alloc (.cells (winC x) 44)) := (Below.refl _ _).alloc (Nat.le_refl _) _
      have HX5 := Lib.hid (heap_alloc_new wr (.cells (winC x) 44))
      have HR5 := Lib.hid (HRN.out.keep hb5)
      have HLS : Hid (divB x.p n = true → ∀ W, RN w.heap.size #[.int .i64 id, .int .i64 (n : Int), .slice P nl pc, .slice (some ax) a cc] VB n vc ws w W → Calls Tryd.prog 21 #[.slice (some ⟨VB, 0, none⟩) n vc, .int .i64 x.s, .int .i64 x.p] W fun e w' => e = .returned (.int .i64 (lsV x.s x.p ws n : Nat)) ∧ W = w') := fun hd W h => by
        obtain ⟨hq1, hqn⟩ := divB_true hd
        obtain ⟨p, hp⟩ : ∃ p : Nat, x.p = (p : Int) := ⟨x.p.toNat, by omega⟩
        unfold lsV
        rw [if_pos hd, hp, Int.toNat_natCast]
        rw [hp, Int.toNat_natCast] at hqn
        have hp3 : p ≤ 1048576 := by have := HMX.out; unfold Num at this; omega
        have hh := rleast_any x.s ws ⟨VB, 0, none⟩ p (n / p) vc W (own_zat h.word HWL.out) (by rw [HWL.out, hqn]) (by omega) (by rw [hqn]; have := HNN.out; omega) (by omega)
        rw [hqn] at hh
        exact hh
      have hbd : bad1N ids ws n k ah x = _ := rfl
      unfold bad1N at hbd
      have hle := lsV_le x.s x.p ws n (by have := HMX.out; unfold Num at this; omega)
      have hdv0 : divB x.p n = _ := rfl
      unfold divB at hdv0
      obtain ⟨s1, p1, a1⟩ := x
      unfold winC at HX5 HR5
      dsimp only at c1 c2 c3 HX5 HR5 HLS hbd hle hdv0
      obtain ⟨mb, hmb⟩ : ∃ b, memB ids s1 = b := ⟨_, rfl⟩
      obtain ⟨dv, hdv⟩ : ∃ b, divB p1 n = b := ⟨_, rfl⟩
      obtain ⟨ls, hls⟩ : ∃ m, lsV s1 p1 ws n = m := ⟨_, rfl⟩
      have HI1 := Lib.hid (HIN.out s1 _ HR5.out.below)
      rw [hmb] at HI1 hbd
      rw [hdv] at hbd HLS
      rw [hls] at hbd HLS hle
      have hbd2 : bad1N ids ws n k ah ⟨s1, p1, a1⟩ = (if mb = false then 10 else if 0 < k ∧ s1 ≤ ah.s then 9 else if dv = false then 13 else if (ls : Int) < a1 then 14 else 0) := by
        unfold bad1N
        dsimp only
        rw [hmb, hdv, hls]
      have HBD := Lib.hid hbd2
      have HDV : Hid (dv = (decide (1 ≤ p1) && ((n : Int) % p1 == 0))) := by show _ = _; rw [← hdv]; rfl
      have HLE := Lib.hid hle
      have hki : (0 : Int) ≤ k := by omega
      have hkb : (k : Int) < a := by omega
      have hk1 : IntKind.i64.wrap ((k : Int) + 1) = (k : Int) + 1 := IntWalk.i64_in _ (by omega)
      clear hb5 hbd hbd2 hdv0 hmb hdv hls hle
      go_wp2_with fail
      refine HI1.out.mono ?_
      rintro e w6 ⟨rfl, rfl⟩
      obtain ⟨W, hW⟩ : ∃ W, wr.alloc (.cells #[.int .i64 s1, .int .i64 p1, .int .i64 a1] 44) = W := ⟨_, rfl⟩
      obtain ⟨X, hX⟩ : ∃ X, wr.heap.size = X := ⟨_, rfl⟩
      rw [hW] at HX5 HR5
      rw [hX] at HX5
      rw [hW, hX]
      have x0 := cell_of_row _ _ 0 _ _ _ HX5.out
      have x1 := cell_of_row _ _ 1 _ _ _ HX5.out
      have x2 := cell_of_row _ _ 2 _ _ _ HX5.out
      have y1 := cell_of_row _ _ 1 _ _ _ HR5.out.box
      have y3 := cell_of_row _ _ 3 _ _ _ HR5.out.box
      simp only [List.getElem?_toArray, List.getElem?_cons_zero, List.getElem?_cons_succ] at x0 x1 x2 y1 y3
      have hmx := HMX.out
      unfold Num at hmx
      dsimp only at hmx
      have ta0 : decide (a1 < 0) = false := decide_eq_false (by omega)
      have ta1 : ¬ a1 < 0 := by omega
      clear c1 c2 c3 b3 hW hX HI1 HRN hmx
      cases mb with
      | false =>
        obtain rfl : q = (10, (k : Int)) := by rw [HST.out, show bad1N ids ws n k ah ⟨s1, p1, a1⟩ = 10 from by rw [HBD.out]; simp, if_neg (by omega)]
        go_wp2
        go_ret2
        exact ⟨rfl, HR5.out.below⟩
      | true =>
        rcases Nat.eq_zero_or_pos k with hz | hz
        · have tkk : decide ((0 : Int) < (k : Int)) = false := decide_eq_false (by omega)
          have tkk2 : decide (0 < k) = false := decide_eq_false (by omega)
          have HZ := Lib.hid hz
          clear hz
          by_cases h1 : p1 < 1
          · have t1 : decide (p1 < 1) = true := decide_eq_true h1
            have HDF : Hid (dv = false) := by show _ = _; rw [HDV.out, decide_eq_false (by omega)]; rfl
            clear h1
            obtain rfl : q = (13, (k : Int)) := by rw [HST.out, show bad1N ids ws n k ah ⟨s1, p1, a1⟩ = 13 from by rw [HBD.out]; simp [HZ.out, HDF.out], if_neg (by omega)]
            go_wp2
            go_quiet (fail)
            go_wp2
            go_ret2
            exact ⟨rfl, (HR5.out.drewN _).below⟩
          · have t1 : decide (p1 < 1) = false := decide_eq_false h1
            obtain ⟨r, hr⟩ : ∃ r : Int, (n : Int) % p1 = r := ⟨_, rfl⟩
            have ht : Int.tmod (n : Int) p1 = r := by rw [← hr]; exact Int.tmod_eq_emod_of_nonneg (by omega)
            have hp1 : ¬ p1 = 0 := by omega
            have hr0 : 0 ≤ r := by rw [← hr]; exact Int.emod_nonneg _ (by omega)
            have hr1 : r ≤ n := by
              obtain ⟨pn, rfl⟩ : ∃ m : Nat, p1 = (m : Int) := ⟨p1.toNat, by omega⟩
              rw [← hr, ← Int.natCast_emod]
              have := Nat.mod_le n pn
              omega
            have hrw : IntKind.i64.wrap r = r := IntWalk.i64_in _ (by have := HNN.out; omega)
            have HDR : Hid (dv = (r == 0)) := by show _ = _; rw [HDV.out, hr, decide_eq_true (by omega)]; rfl
            clear h1 hr hr0 hr1
            by_cases hrz : r = 0
            · have HDT : Hid (dv = true) := by show _ = _; rw [HDR.out]; simp [hrz]
              subst hrz
              have HLS2 := Lib.hid (HLS.out HDT.out)
              by_cases h2 : p1 < a1
              · have t2 : decide (p1 < a1) = true := decide_eq_true h2
                have HLA : Hid ((ls : Int) < a1) := by show _ < _; have := HLE.out; omega
                clear h2
                obtain rfl : q = (14, (k : Int)) := by rw [HST.out, show bad1N ids ws n k ah ⟨s1, p1, a1⟩ = 14 from by rw [HBD.out]; simp [HZ.out, HDT.out, HLA.out], if_neg (by omega)]
                go_wp2
                go_quiet (fail)
                go_wp2
                go_quiet (fail)
                go_wp2
                go_ret2
                exact ⟨rfl, (HR5.out.drewN _).below⟩
              · have t2 : decide (p1 < a1) = false := decide_eq_false h2
                clear h2
                by_cases h3 : (ls : Int) < a1
                · have t3 : decide ((ls : Int) < a1) = true := decide_eq_true h3
                  have HLA := Lib.hid h3
                  clear h3
                  obtain rfl : q = (14, (k : Int)) := by rw [HST.out, show bad1N ids ws n k ah ⟨s1, p1, a1⟩ = 14 from by rw [HBD.out]; simp [HZ.out, HDT.out, HLA.out], if_neg (by omega)]
                  go_wp2
                  go_quiet (fail)
                  go_wp2
                  have HPD : Hid (RN w.heap.size #[.int .i64 id, .int .i64 (n : Int), .slice P nl pc, .slice (some ax) a cc] VB n vc ws w (W.drewN (nq + 1))) := HR5.out.drewN (nq + 1)
                  go_region_held3 (fun wx => wx.cell? ⟨X, 0, none⟩ = some (.int .i64 s1) ∧ wx.cell? ⟨X, 1, none⟩ = some (.int .i64 p1) ∧ wx.cell? ⟨X, 2, none⟩ = some (.int .i64 a1))
                    (first | (refine ⟨?_, ?_, ?_⟩ <;> assumption) | exact ⟨x0, x1, x2⟩ | (go_keep; done))
                    (first
                      | (go_at_call 21; refine (HLS2.out _ HPD.out).mono ?_; rintro e w7 ⟨rfl, rfl⟩))
                  go_wp2
                  go_ret2
                  exact ⟨rfl, (HR5.out.drewN _).below⟩
                · have t3 : decide ((ls : Int) < a1) = false := decide_eq_false h3
                  have HLA : Hid (¬ (ls : Int) < a1) := h3
                  clear h3
                  have HB0 : Hid (bad1N ids ws n k ah ⟨s1, p1, a1⟩ = 0) := by show _ = _; rw [HBD.out]; simp [HZ.out, HDT.out, HLA.out]
                  go_wp2
                  go_quiet (fail)
                  go_wp2
                  have HPD : Hid (RN w.heap.size #[.int .i64 id, .int .i64 (n : Int), .slice P nl pc, .slice (some ax) a cc] VB n vc ws w (W.drewN (nq + 1))) := HR5.out.drewN (nq + 1)
                  go_region_held3 (fun wx => wx.cell? ⟨X, 0, none⟩ = some (.int .i64 s1) ∧ wx.cell? ⟨X, 1, none⟩ = some (.int .i64 p1) ∧ wx.cell? ⟨X, 2, none⟩ = some (.int .i64 a1))
                    (first | (refine ⟨?_, ?_, ?_⟩ <;> assumption) | exact ⟨x0, x1, x2⟩ | (go_keep; done))
                    (first
                      | (go_at_call 21; refine (HLS2.out _ HPD.out).mono ?_; rintro e w7 ⟨rfl, rfl⟩))
                  go_wp2
                  go_roundw
                  case rel =>
                    refine ⟨k + 1, by have := HA.out; omega, by go_num, ?_, HR5.out.drewN _⟩
                    rw [HLT.out, HST.out, HB0.out]; simp
                  case measure => simp [intOf]; omega
            · have hrb : (r != 0) = true := by simp [hrz]
              have hrb2 : (r == 0) = false := by simp [hrz]
              have HDF : Hid (dv = false) := by show _ = _; rw [HDR.out, hrb2]
              obtain rfl : q = (13, (k : Int)) := by rw [HST.out, show bad1N ids ws n k ah ⟨s1, p1, a1⟩ = 13 from by rw [HBD.out]; simp [HZ.out, HDF.out], if_neg (by omega)]
              go_wp2
              go_quiet (fail)
              go_wp2
              go_ret2
              exact ⟨rfl, (HR5.out.drewN _).below⟩
        · obtain ⟨j, hkj⟩ : ∃ j, k = j + 1 := ⟨k - 1, by omega⟩
          obtain ⟨y, hy⟩ : ∃ y, l[j]? = some y := ⟨_, List.getElem?_eq_getElem (by have := HA.out; omega)⟩
          obtain ⟨ay, hay, e1, _, _⟩ := (H1.out.kept HR5.out.below) j y hy
          obtain rfl := Option.some.inj hay
          have hla : lastW (l.take k) = y := by rw [hkj]; exact last_takeW l j y hy
          obtain rfl : ah = y := by rw [← HAH.out, hla]
          obtain ⟨s2, p2, a2⟩ := ah
          dsimp only at e1 HBD
          have tkk : decide ((0 : Int) < (k : Int)) = true := decide_eq_true (by omega)
          have tkk2 : decide (0 < k) = true := decide_eq_true hz
          have hj1 : IntKind.i64.wrap ((k : Int) - 1) = (j : Int) := by rw [IntKind.wrap_i64]; omega
          have hj0 : (0 : Int) ≤ (j : Int) := by omega
          have hja : (j : Int) < a := by omega
          have HZ := Lib.hid hz
          clear hla hay hy hkj hz
          by_cases u1 : s1 ≤ s2
          · have tu1 : decide (s1 ≤ s2) = true := decide_eq_true u1
            have HU := Lib.hid u1
            clear u1
            obtain rfl : q = (9, (k : Int)) := by rw [HST.out, show bad1N ids ws n k ⟨s2, p2, a2⟩ ⟨s1, p1, a1⟩ = 9 from by rw [HBD.out]; simp [HZ.out, HU.out], if_neg (by omega)]
            go_wp2
            go_quiet (fail)
            go_wp2
            go_ret2
            exact ⟨rfl, (HR5.out.drewN _).below⟩
          · have tu1 : decide (s1 ≤ s2) = false := decide_eq_false u1
            have HU : Hid (¬ s1 ≤ s2) := u1
            clear u1
            by_cases h1 : p1 < 1
            · have t1 : decide (p1 < 1) = true := decide_eq_true h1
              have HDF : Hid (dv = false) := by show _ = _; rw [HDV.out, decide_eq_false (by omega)]; rfl
              clear h1
              obtain rfl : q = (13, (k : Int)) := by rw [HST.out, show bad1N ids ws n k ⟨s2, p2, a2⟩ ⟨s1, p1, a1⟩ = 13 from by rw [HBD.out]; simp [HU.out, HDF.out], if_neg (by omega)]
              go_wp2
              go_quiet (fail)
              go_wp2
              go_ret2
              exact ⟨rfl, (HR5.out.drewN _).below⟩
            · have t1 : decide (p1 < 1) = false := decide_eq_false h1
              obtain ⟨r, hr⟩ : ∃ r : Int, (n : Int) % p1 = r := ⟨_, rfl⟩
              have ht : Int.tmod (n : Int) p1 = r := by rw [← hr]; exact Int.tmod_eq_emod_of_nonneg (by omega)
              have hp1 : ¬ p1 = 0 := by omega
              have hr0 : 0 ≤ r := by rw [← hr]; exact Int.emod_nonneg _ (by omega)
              have hr1 : r ≤ n := by
                obtain ⟨pn, rfl⟩ : ∃ m : Nat, p1 = (m : Int) := ⟨p1.toNat, by omega⟩
                rw [← hr, ← Int.natCast_emod]
                have := Nat.mod_le n pn
                omega
              have hrw : IntKind.i64.wrap r = r := IntWalk.i64_in _ (by have := HNN.out; omega)
              have HDR : Hid (dv = (r == 0)) := by show _ = _; rw [HDV.out, hr, decide_eq_true (by omega)]; rfl
              clear h1 hr hr0 hr1
              by_cases hrz : r = 0
              · have HDT : Hid (dv = true) := by show _ = _; rw [HDR.out]; simp [hrz]
                subst hrz
                have HLS2 := Lib.hid (HLS.out HDT.out)
                by_cases h2 : p1 < a1
                · have t2 : decide (p1 < a1) = true := decide_eq_true h2
                  have HLA : Hid ((ls : Int) < a1) := by show _ < _; have := HLE.out; omega
                  clear h2
                  obtain rfl : q = (14, (k : Int)) := by rw [HST.out, show bad1N ids ws n k ⟨s2, p2, a2⟩ ⟨s1, p1, a1⟩ = 14 from by rw [HBD.out]; simp [HU.out, HDT.out, HLA.out], if_neg (by omega)]
                  go_wp2
                  go_quiet (fail)
                  go_wp2
                  go_quiet (fail)
                  go_wp2
                  go_ret2
                  exact ⟨rfl, (HR5.out.drewN _).below⟩
                · have t2 : decide (p1 < a1) = false := decide_eq_false h2
                  clear h2
                  by_cases h3 : (ls : Int) < a1
                  · have t3 : decide ((ls : Int) < a1) = true := decide_eq_true h3
                    have HLA := Lib.hid h3
                    clear h3
                    obtain rfl : q = (14, (k : Int)) := by rw [HST.out, show bad1N ids ws n k ⟨s2, p2, a2⟩ ⟨s1, p1, a1⟩ = 14 from by rw [HBD.out]; simp [HU.out, HDT.out, HLA.out], if_neg (by omega)]
                    go_wp2
                    go_quiet (fail)
                    go_wp2
                    have HPD : Hid (RN w.heap.size #[.int .i64 id, .int .i64 (n : Int), .slice P nl pc, .slice (some ax) a cc] VB n vc ws w (W.drewN (nq + 1))) := HR5.out.drewN (nq + 1)
                    go_region_held3 (fun wx => wx.cell? ⟨X, 0, none⟩ = some (.int .i64 s1) ∧ wx.cell? ⟨X, 1, none⟩ = some (.int .i64 p1) ∧ wx.cell? ⟨X, 2, none⟩ = some (.int .i64 a1))
                      (first | (refine ⟨?_, ?_, ?_⟩ <;> assumption) | exact ⟨x0, x1, x2⟩ | (go_keep; done))
                      (first
                        | (go_at_call 21; refine (HLS2.out _ HPD.out).mono ?_; rintro e w7 ⟨rfl, rfl⟩))
                    go_wp2
                    go_ret2
                    exact ⟨rfl, (HR5.out.drewN _).below⟩
                  · have t3 : decide ((ls : Int) < a1) = false := decide_eq_false h3
                    have HLA : Hid (¬ (ls : Int) < a1) := h3
                    clear h3
                    have HB0 : Hid (bad1N ids ws n k ⟨s2, p2, a2⟩ ⟨s1, p1, a1⟩ = 0) := by show _ = _; rw [HBD.out]; simp [HU.out, HDT.out, HLA.out]
                    go_wp2
                    go_quiet (fail)
                    go_wp2
                    have HPD : Hid (RN w.heap.size #[.int .i64 id, .int .i64 (n : Int), .slice P nl pc, .slice (some ax) a cc] VB n vc ws w (W.drewN (nq + 1))) := HR5.out.drewN (nq + 1)
                    go_region_held3 (fun wx => wx.cell? ⟨X, 0, none⟩ = some (.int .i64 s1) ∧ wx.cell? ⟨X, 1, none⟩ = some (.int .i64 p1) ∧ wx.cell? ⟨X, 2, none⟩ = some (.int .i64 a1))
                      (first | (refine ⟨?_, ?_, ?_⟩ <;> assumption) | exact ⟨x0, x1, x2⟩ | (go_keep; done))
                      (first
                        | (go_at_call 21; refine (HLS2.out _ HPD.out).mono ?_; rintro e w7 ⟨rfl, rfl⟩))
                    go_wp2
                    go_roundw
                    case rel =>
                      refine ⟨k + 1, by have := HA.out; omega, by go_num, ?_, HR5.out.drewN _⟩
                      rw [HLT.out, HST.out, HB0.out]; simp
                    case measure => simp [intOf]; omega
              · have hrb : (r != 0) = true := by simp [hrz]
                have hrb2 : (r == 0) = false := by simp [hrz]
                have HDF : Hid (dv = false) := by show _ = _; rw [HDR.out, hrb2]
                obtain rfl : q = (13, (k : Int)) := by rw [HST.out, show bad1N ids ws n k ⟨s2, p2, a2⟩ ⟨s1, p1, a1⟩ = 13 from by rw [HBD.out]; simp [HU.out, HDF.out], if_neg (by omega)]
                go_wp2
                go_quiet (fail)
                go_wp2
                go_ret2
                exact ⟨rfl, (HR5.out.drewN _).below⟩
    · obtain rfl : k = a := by omega
      have hqe : q = (0, 0) := by
        rw [HQK.out, List.drop_eq_nil_of_le (by rw [HA.out]; exact Nat.le_refl _)]; rfl
      subst hqe
      have HBE := Lib.hid HRN.out.below
      clear HRN HQK
      go_wp2
      go_ret2
      exact ⟨rfl, HBE.out⟩
end Go.Proofs.YtpjillclladjaaaDoor.Nee
