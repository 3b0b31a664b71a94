
/- The function FrameWords returns true for every slice of schedules, every slice of ids and every slice of calls. Condition: the package-level variables hold what the program lays in them (the card ties that). This text: the walk through the Go text; the row is in the text without the W at its name's end. -/

import Derived.Test.YtofcjkfaccdnjaaDoorArgs

import Derived.Test.YtofcjkfaccdnjaaDoorFrmI

import Derived.Test.YtofcjkfaccdnjaaDoorWinAA

import Derived.Deep.RegionHeld3

namespace Go.Proofs.YtofcjkfaccdnjaaDoor.frameWords

open Go.RowKit Go.PlainAid Go.Proofs.YtofcjkfaccdnjaaDoor.Args

set_option linter.unusedVariables false

open Go.Proofs.YtofcjkfaccdnjaaDoor.Flt Go.Proofs.YtofcjkfaccdnjaaDoor.Rdr Go.Proofs.YtofcjkfaccdnjaaDoor.Oct Go.Proofs.YtofcjkfaccdnjaaDoor.Win Go.Proofs.YtofcjkfaccdnjaaDoor.Tab Go.Proofs.YtofcjkfaccdnjaaDoor.Clk Go.Proofs.YtofcjkfaccdnjaaDoor.Frm

open Go.Proofs.YtofcjkfaccdnjaaDoor.Act (A3 actL flatA flatA_get flatA_len ActsAt I64 Wide acts_of)

open Go.Proofs.YtofcjkfaccdnjaaDoor.Scd (SC scC rgS rgS_in rowB sright09_any ScdAt WideS scheds_of)

set_option linter.unusedSimpArgs false

theorem num_of {x : A3} (h : rowB x = true) : Num x ∧ 0 ≤ x.s ∧ x.s ≤ 255 := by
  unfold rowB Go.Proofs.YtofcjkfaccdnjaaDoor.Scd.tkB Go.Proofs.YtofcjkfaccdnjaaDoor.Act.idB at h
  simp at h
  unfold Num
  omega
theorem num_all {x : SC} (h : rgS x = 0) : ∀ y ∈ x.ws, Num y := fun y hy => (num_of ((rgS_in h).2.2.2.1 y hy)).1
set_option maxRecDepth 4000 in
theorem sameints_none (A A' : Option Addr) (c c' : Nat) (w : World) :
    Calls Tryd.prog 19 #[.slice A 0 c, .slice A' 0 c'] w fun e w' => e = .returned (.bool true) ∧ Below w.heap.size w w' := by
  go_enter Tryd.func19, Tryd.ntmps19
  go_wp2
  go_loopw [5] (fun i wr => i = .int .i64 0 ∧ Below w.heap.size w wr) (fun i _ => 0)
  case atStart => exact ⟨rfl, Below.refl _ _⟩
  case round =>
    obtain ⟨rfl, hb⟩ := hrel
    have HB := Lib.hid hb
    clear hb
    go_wp2
    go_ret
    exact ⟨rfl, HB.out⟩
/-- The document's schedule of an id that has a table. -/
theorem get_ok (A : Option Addr) (cap n : Nat) (l : List SC) (Ts : List TR) (id : Int) (w : World) (h : ScdAt w A l) (hn : l.length = n) (hl : n ≤ maxLen) (ht : Ts.length = l.length) (hlk : ∀ (i : Nat) (x : SC) (X : TR), l[i]? = some x → Ts[i]? = some X → Like x X) (hp : pick Ts id ≠ none) :
    Calls Tryd.prog 10 #[.slice A n cap, .int .i64 id] w fun e w' => ∃ x X B cb C cc, pick Ts id = some X ∧ Like x X ∧ x ∈ l ∧ e = .returned (.tuple #[.agg (scC x B cb C cc), .bool true]) ∧ ActsAt w' B x.ws ∧ ActsAt w' C x.ns ∧ Below w.heap.size w w' := by
  refine (get18_any A cap n l id w h hn hl).mono ?_
  rintro e w' ⟨hb, ⟨h1, _⟩ | ⟨x, B, cb, C, cc, h1, h2, h3, h4⟩⟩
  · rcases pick_like id ht hlk with ⟨_, h⟩ | ⟨x, X, h, _⟩
    · exact absurd h hp
    · rw [h1] at h; cases h
  · rcases pick_like id ht hlk with ⟨_, h⟩ | ⟨x', X, h, h5, h6, h7⟩
    · exact absurd h hp
    · rw [h1] at h
      obtain rfl := Option.some.inj h
      exact ⟨x, X, B, cb, C, cc, h5, h6, h7, h2, h3, h4, hb⟩
set_option maxRecDepth 8000 in
set_option maxHeartbeats 12800000 in
theorem walk (a0 : Option Addr) (len0 cap0 : Nat) (a1 : Option Addr) (len1 cap1 : Nat) (z1 : List Int) (a2 : Option Addr) (len2 cap2 : Nat) (w : World) (w0 : IsRows w a0 len0 cap0 [.one (.int .i64), .one (.int .i64), .recs [.int .i64, .int .i64, .int .i64], .recs [.int .i64, .int .i64, .int .i64]]) (w1 : IsRow .i64 w a1 len1 cap1 z1) (w2 : IsRecs w a2 len2 cap2 [.bool, .int .i64]) (hn : Go.Proofs.YtofcjkfaccdnjaaDoor.Flt.Names w) :
    Calls Tryd.prog 4 #[.slice a0 len0 cap0, .slice a1 len1 cap1, .slice a2 len2 cap2] w fun e w' => e = .returned (.bool true) ∧ Below w.heap.size w w' := by
  obtain ⟨l, hln, hsc, hwd, hlm⟩ := scheds_of w0
  obtain ⟨hzl, hints, hilm⟩ := ints_in w1
  obtain ⟨ids, hids⟩ : ∃ ids, z1.take len1 = ids := ⟨_, rfl⟩
  rw [hids] at hzl hints
  have HFW := Lib.hid (few_any a0 cap0 len0 l a1 len1 cap1 ids w hsc hwd hln hlm hints hzl (by rw [hzl]; exact hilm))
  have HSC := Lib.hid hsc
  have HWD := Lib.hid hwd
  have HLN := Lib.hid hln
  have HINT := Lib.hid hints
  have HNM := Lib.hid hn
  obtain ⟨ops, holn, hops, hopw, holm⟩ := ops_of w2
  have HOLN := Lib.hid holn
  have HOPS := Lib.hid hops
  have HOPW := Lib.hid hopw
  have ho64 : len2 ≤ 9223372036854775807 := holm
  have hl64 : len0 ≤ 9223372036854775807 := hlm
  clear w0 w1 w2 holn hops hopw holm hsc hwd hln hints hzl hids hn hilm hlm
  go_enter Tryd.func4, Tryd.ntmps4
  go_wp2_with fail
  refine HFW.out.mono ?_
  rintro e w1 ⟨b, rfl, hb, hb1⟩
  have HB1 := Lib.hid hb1
  clear hb1 HFW
  cases b with
  | false =>
    go_wp2_with (go_at_call 7; refine (awake18 _ (HNM.out.kept HB1.out)).mono ?_; rintro e w' ⟨rfl, hb⟩; have HBF := Lib.hid (HB1.out.trans (hb.mono HB1.out.size)); clear hb)
    go_ret
    exact ⟨rfl, HBF.out⟩
  | true =>
    have HFEW := Lib.hid (hb rfl)
    have h8 : Hid (len0 ≤ 8) := by have := HFEW.out.l8; rw [HLN.out] at this; exact this
    clear hb
    by_cases h300 : 300 < len2
    · have t0 : decide ((300 : Int) < (len2 : Int)) = true := decide_eq_true (by omega)
      clear h300
      go_wp2_with (go_at_call 7; refine (awake18 _ (HNM.out.kept HB1.out)).mono ?_; rintro e w' ⟨rfl, hb⟩; have HBF := Lib.hid (HB1.out.trans (hb.mono HB1.out.size)); clear hb)
      go_ret
      exact ⟨rfl, HBF.out⟩
    have t0 : decide ((300 : Int) < (len2 : Int)) = false := decide_eq_false (by omega)
    have H300 : Hid (len2 ≤ 300) := by show _ ≤ _; omega
    clear h300
    by_cases hz : len0 = 0
    · have t1 : ((len0 : Int) == 0) = true := by simp [hz]
      have t2 : (len0 == 0) = true := by simp [hz]
      clear hz
      go_wp2_with (go_at_call 7; refine (awake18 _ (HNM.out.kept HB1.out)).mono ?_; rintro e w' ⟨rfl, hb⟩; have HBF := Lib.hid (HB1.out.trans (hb.mono HB1.out.size)); clear hb)
      go_ret
      exact ⟨rfl, HBF.out⟩
    · have t1 : ((len0 : Int) == 0) = false := by simp [hz]
      have t2 : (len0 == 0) = false := by simp [hz]
      have HPOS : Hid (0 < len0) := by show _ < _; omega
      clear hz
      go_wp2_with fail
      clear t0 t1 t2
      go_loopw [43] (fun i wr => ∃ k : Nat, k ≤ len0 ∧ i = .int .i64 (k : Int) ∧ UniqL l k ∧ Below w.heap.size w wr) (fun i _ => len0 - (intOf i).toNat)
      case atStart => exact ⟨0, Nat.zero_le _, rfl, fun i j x y h1 h2 => by omega, HB1.out⟩
      case round =>
        obtain ⟨k, hk, rfl, hun, hbel⟩ := hrel
        have HUN := Lib.hid hun
        have HB := Lib.hid hbel
        clear hun hbel HB1
        obtain ⟨wo, hwo⟩ : ∃ wo, wo = wr := ⟨_, rfl⟩
        rw [← hwo] at HB ⊢
        clear hwo
        by_cases hlt : k < len0
        · have hki : (0 : Int) ≤ k := by omega
          have hkb : (k : Int) < len0 := by omega
          have hk1 : IntKind.i64.wrap ((k : Int) + 1) = (k : Int) + 1 := IntWalk.i64_in _ (by omega)
          obtain ⟨x, hx⟩ : ∃ x, l[k]? = some x := ⟨_, List.getElem?_eq_getElem (by rw [HLN.out]; exact hlt)⟩
          have HX := Lib.hid hx
          obtain ⟨y, _, _, _, _, rfl, _⟩ := HSC.out k x hx
          clear hx
          go_wp2_with fail
          go_loopw [47] (fun m wr => ∃ j : Nat, j ≤ k ∧ m = .int .i64 (j : Int) ∧ (∀ (i : Nat) (z : SC), i < j → l[i]? = some z → z.id ≠ x.id) ∧ Below w.heap.size w wr) (fun m _ => k - (intOf m).toNat)
          case atStart => exact ⟨0, Nat.zero_le _, rfl, fun i z h => by omega, HB.out⟩
          case round =>
            obtain ⟨j, hj, rfl, hne, hbel⟩ := hrel
            have HNE := Lib.hid hne
            have HBJ := Lib.hid hbel
            clear hne hbel
            by_cases hlj : j < k
            · obtain ⟨z, hz⟩ : ∃ z, l[j]? = some z := ⟨_, List.getElem?_eq_getElem (by rw [HLN.out]; omega)⟩
              have HZ := Lib.hid hz
              have cz := sc_id (HSC.out.kept HBJ.out) hz
              have cx := sc_id (HSC.out.kept HBJ.out) HX.out
              have hji : (0 : Int) ≤ j := by omega
              have hjb : (j : Int) < k := by omega
              have hjl : (j : Int) < len0 := by omega
              have hj1 : IntKind.i64.wrap ((j : Int) + 1) = (j : Int) + 1 := IntWalk.i64_in _ (by omega)
              clear hz
              by_cases hq : x.id = z.id
              · have te : (x.id == z.id) = true := by simp [hq]
                have HA := Lib.hid (fun W (b : Below w.heap.size w W) => awake18 W (HNM.out.kept b))
                clear hq
                go_wp2
                go_quiet (fail)
                have HBQ := Lib.hid (below_drewN HBJ.out nq)
                go_wp2_with (go_at_call 7; refine (HA.out _ HBQ.out).mono ?_; rintro e w' ⟨rfl, hb⟩; have HBF := Lib.hid (HBQ.out.trans (hb.mono HBQ.out.size)); clear hb)
                go_ret
                exact ⟨rfl, HBF.out⟩
              · have te : (x.id == z.id) = false := by simp [hq]
                have HQ := Lib.hid (fun h : z.id = x.id => hq h.symm)
                clear hq
                go_wp2
                go_quiet (fail)
                have HBQ := Lib.hid (below_drewN HBJ.out nq)
                go_wp2
                go_roundw
                case rel => exact ⟨j + 1, by omega, by go_num, fun i v hi hv => by
                  by_cases hij : i = j
                  · subst hij
                    rw [HZ.out] at hv
                    obtain rfl := Option.some.inj hv
                    exact HQ.out
                  · exact HNE.out i v (by omega) hv, HBQ.out⟩
                case measure => simp [intOf]; omega
            · obtain rfl : j = k := by omega
              go_wp2
              go_roundw
              case rel => exact ⟨j + 1, by omega, by go_num, fun i m u v h1 h2 h3 h4 => by
                by_cases hm : m = j
                · subst hm
                  rw [HX.out] at h4
                  obtain rfl := Option.some.inj h4
                  exact HNE.out i u h1 h3
                · exact HUN.out i m u v h1 (by omega) h3 h4, HBJ.out⟩
              case measure => simp [intOf]; omega
        · obtain rfl : k = len0 := by omega
          have HUL : Hid (UniqL l l.length) := by rw [HLN.out]; exact HUN.out
          clear HUN hlt hk
          obtain ⟨x, hx⟩ : ∃ x, l[0]? = some x := ⟨_, List.getElem?_eq_getElem (by rw [HLN.out]; exact HPOS.out)⟩
          have HX := Lib.hid hx
          have HWX := Lib.hid (HWD.out x (List.mem_of_getElem? hx))
          obtain ⟨y, _, _, _, _, rfl, cx, _⟩ := (HSC.out.kept HB.out) 0 x hx
          have hkp : (0 : Int) < k := by have := HPOS.out; omega
          have hkn : 0 < k := HPOS.out
          have HTB : Hid (∀ W, Below w.heap.size w W → _) := fun W b => tables_any (some y) cap0 k l a1 len1 cap1 ids W (HNM.out.kept b) (HSC.out.kept b) HWD.out HLN.out ((HINT.out.below b).mono b.size) HFEW.out
          clear hx
          go_upto_region 13 with fail
          have HBD := Lib.hid (below_drewN HB.out 1)
          have c0 := sc_id0 (HSC.out.kept HBD.out) HX.out
          clear cx
          go_region_held3 (fun wx => wx.cell? y = some (.int .i64 x.id))
            (first | assumption | (go_keep; done))
            (first
              | (go_at_call 8; refine (HTB.out _ HBD.out).mono ?_; rintro e w5 ⟨V, Ts, rfl, htr⟩; have HTR := Lib.hid htr; have HB5 := Lib.hid (HBD.out.trans (htr.below.mono HBD.out.size)); have c1 := sc_id0 (HSC.out.kept HB5.out) HX.out; clear htr)
              | (go_at_call 9; refine (new_ok HTR.out (by rw [HLN.out]; have := h8.out; omega) 0 (by omega) HUL.out HX.out HWX.out.1).mono ?_; rintro e w6 ⟨T, q, mb, ck, cu, hT, rfl, he, hb6⟩; have HE := Lib.hid he; have HB6 := Lib.hid (HB5.out.trans (hb6.mono HB5.out.size)); have HBB : Hid (w.heap.size ≤ w5.heap.size) := HB5.out.size; have c1 := sc_id0 (HSC.out.kept HB6.out) HX.out; have HPT := Lib.hid hT; clear hb6 he hT))
          obtain ⟨Bn, hBn⟩ : ∃ Bn, w5.heap.size = Bn := ⟨_, rfl⟩
          rw [hBn] at HE HBB
          obtain ⟨W6, hW6⟩ : ∃ W, w6 = W := ⟨_, rfl⟩
          rw [hW6] at HE HB6 c1 ⊢
          have hszB : Bn ≤ W6.heap.size := by have h1 := HE.out.lt; have h2 := HE.out.hB; omega
          have hb7 : Below W6.heap.size W6 (W6.alloc (.cells #[.int .i64 x.id] 3)) := (Below.refl _ _).alloc (Nat.le_refl _) _
          have hlt6 := HE.out.lt
          have HF0 : Hid (FW w (W6.alloc (.cells #[.int .i64 x.id] 3)) Bn q mb ck cu Ts T 0 x.id 0 0 (.slice none 0 0) (.slice (some ⟨W6.heap.size, 0, none⟩) 1 1) [] [x.id]) :=
            ⟨HE.out.keep hb7, World.ownsRow_nil _ _ _ _, World.ownsRow_lit W6 #[.int .i64 x.id] 1 hszB (by decide) rfl, fun j hj => by simp [Value.ownBlock] at hj, fun j hj => by
              obtain rfl : W6.heap.size = j := by simpa [Value.ownBlock] using hj
              omega, fun j hj => by simp [Value.ownBlock] at hj, HB6.out.trans (hb7.mono HB6.out.size), HBB.out⟩
          have HWI0 := Lib.hid (WI.start HPT.out)
          have HTL : Hid (Ts.length = l.length) := HTR.out.len
          have HTK : Hid (∀ (i : Nat) (x : SC) (X : TR), l[i]? = some x → Ts[i]? = some X → Like x X) := HTR.out.like
          clear c0 HTB hBn hW6 HTR HB5 HBD HE HB6 HB hkp hkn hszB hb7 hlt6
          obtain ⟨i0, hi, hz0, hz1, hz2⟩ := info_parts infoInt
          go_wp2_with fail
          clear c1
          go_loopw [88, 11, 12] (fun i v1 v2 wr => ∃ (k nw fm t : Nat) (T : TR) (cu : Nat) (due : Int) (E O : List Int) (A1 A2 : Option Addr) (c1 c2 : Nat), k ≤ len2 ∧ i = .int .i64 (k : Int) ∧ v1 = .slice A1 E.length c1 ∧ v2 = .slice A2 O.length c2 ∧ FW w wr Bn q mb ck cu Ts T t due nw fm v1 v2 E O ∧ WI Ts E O T t ∧ nw ≤ k ∧ E.length ≤ k ∧ O.length ≤ k + 1) (fun i _ _ _ => len2 - (intOf i).toNat)
          case atStart => exact ⟨0, 0, 0, 0, T, cu, x.id, [], [x.id], none, _, 0, 1, Nat.zero_le _, rfl, rfl, rfl, HF0.out, HWI0.out, Nat.le_refl _, Nat.le_refl _, Nat.le_refl _⟩
          case round =>
            clear HF0 HWI0 HPT
            obtain ⟨j, nw, fm, t, T, cu, due, E, O, A1, A2, e1, e2, hj, rfl, rfl, rfl, hfw, hwi, hnw, hel, hol⟩ := hrel
            have HFW := Lib.hid hfw
            have HWI := Lib.hid hwi
            obtain ⟨n1, hn1⟩ : ∃ m, E.length = m := ⟨_, rfl⟩
            obtain ⟨n2, hn2⟩ : ∃ m, O.length = m := ⟨_, rfl⟩
            rw [hn1] at HFW hel
            rw [hn2] at HFW hol
            simp only [hn1, hn2]
            have HN1 := Lib.hid hn1
            have HN2 := Lib.hid hn2
            clear hfw hwi hn1 hn2
            by_cases hlt : j < len2
            · have hji : (0 : Int) ≤ j := by omega
              have hjb : (j : Int) < len2 := by omega
              have hj1 : IntKind.i64.wrap ((j : Int) + 1) = (j : Int) + 1 := IntWalk.i64_in _ (by omega)
              obtain ⟨o, ho⟩ : ∃ o, ops[j]? = some o := ⟨_, List.getElem?_eq_getElem (by rw [HOLN.out]; exact hlt)⟩
              have HOW := Lib.hid (HOPW.out o (List.mem_of_getElem? ho))
              obtain ⟨yo, rfl, d0, d1⟩ := (HOPS.out.kept HFW.out.below) j o ho
              obtain ⟨mk, oid⟩ := o
              dsimp only at d0 d1 HOW
              clear ho
              have hb8 : Below wr.heap.size wr (wr.alloc (.cells #[.bool mk, .int .i64 oid] 43)) := (Below.refl _ _).alloc (Nat.le_refl _) _
              have HF8 := Lib.hid (HFW.out.keep hb8)
              clear hb8
              cases mk with
              | true =>
                have HMK := Lib.hid (emake_any HF8.out.eng oid HOW.out)
                go_wp2_with fail
                refine HMK.out.mono ?_
                rintro e w9 ⟨rfl, he9, ho9⟩
                have HF9 := Lib.hid (HF8.out.step he9 ho9 (.inl rfl))
                have hb2 : nw ≤ j := hnw
                clear he9 ho9 HMK
                go_wp2
                go_roundw
                case rel => exact ⟨j + 1, nw, fm, t, T, cu, _, E, O, A1, A2, e1, e2, by omega, by first | rfl | go_num, by rw [HN1.out], by rw [HN2.out], HF9.out, HWI.out, by omega, by rw [HN1.out]; omega, by rw [HN2.out]; omega⟩
                case measure => simp [intOf]; omega
              | false =>
                have HDU := Lib.hid (edue_any HF8.out.eng)
                have HTI := Lib.hid (etick_any HF8.out.eng)
                go_wp2_with fail
                refine HDU.out.mono ?_
                rintro e w9 ⟨rfl, rfl⟩
                go_wp2_with fail
                refine HTI.out.mono ?_
                rintro e w9 (⟨h, _⟩ | ⟨-, ht, rfl, he, ho⟩ | ⟨-, ht, X, cu', hX, rfl, hcu, he, ho⟩)
                · have := H300.out; omega
                · have HF9 := Lib.hid (HF8.out.step he ho (.inl rfl))
                  have HWI9 := Lib.hid HWI.out.on
                  obtain ⟨v, hv⟩ : ∃ v, T.f (t : Int) = v := ⟨_, rfl⟩
                  rw [hv] at HWI9 ⊢
                  have HF10 := Lib.hid (HF9.out.keep ((Below.refl w9.heap.size w9).alloc (Nat.le_refl _) (.cells #[.int .i64 v] 3)))
                  clear he ho HTI HDU HF8 HF9 HFW HWI hv
                  go_wp2_with (at_builtin; refine wpList_append_own_at _ rfl _ _ 23 rfl Bn 3 i0 (.int .i64 0) 1 8 Tryd.underlying23 hi hz0 hz1 hz2 rfl (by decide) _ _ _ rfl (by have := HF10.out.own1; rw [HN1.out] at this; exact this) ⟨w9.heap.size, 0, none⟩ 1 1 [.int .i64 v] rfl rfl (cell_one_new _ _ _) ?c2 ?c3 ?c4 ?c5 ?_)
                  case c2 => intro u hu; simp at hu; subst hu; rfl
                  case c3 => have := H300.out; unfold maxLen; omega
                  case c4 => have := H300.out; omega
                  case c5 => have h1 := HF10.out.eng.lt; have h2 := HF10.out.eng.hB; omega
                  intro V5 W5 ho5 hg5 _ hat5
                  have HF11 := Lib.hid (HF10.out.app1 (by rw [HN1.out]; exact ho5) hg5 (by rw [World.size_alloc]; exact hat5))
                  obtain ⟨A5, c5, hV5⟩ := own_form ho5
                  subst hV5
                  have HL5 : Hid ((E ++ [v]).length = n1 + 1) := by show _ = _; simp [HN1.out]
                  clear ho5 hg5 hat5 HF10
                  go_wp2
                  go_roundw
                  case rel => exact ⟨j + 1, nw + 1, fm, t + 1, T, cu, due, E ++ [v], O, A5, A2, c5, e2, by omega, by first | rfl | go_num, by rw [HL5.out], by rw [HN2.out], HF11.out, HWI9.out, by omega, by rw [HL5.out]; omega, by rw [HN2.out]; omega⟩
                  case measure => simp [intOf]; omega
                · have HF9 := Lib.hid (HF8.out.step he ho (.inr hcu))
                  have HWI9 := Lib.hid (HWI.out.next ht hX)
                  obtain ⟨v, hv⟩ : ∃ v, T.f (t : Int) = v := ⟨_, rfl⟩
                  rw [hv] at HWI9 ⊢
                  have HF10 := Lib.hid (HF9.out.keep ((Below.refl w9.heap.size w9).alloc (Nat.le_refl _) (.cells #[.int .i64 v] 3)))
                  clear he ho HTI HDU HF8 HF9 HFW HWI hv ht hX hcu
                  go_wp2_with (at_builtin; refine wpList_append_own_at _ rfl _ _ 23 rfl Bn 3 i0 (.int .i64 0) 1 8 Tryd.underlying23 hi hz0 hz1 hz2 rfl (by decide) _ _ _ rfl (by have := HF10.out.own1; rw [HN1.out] at this; exact this) ⟨w9.heap.size, 0, none⟩ 1 1 [.int .i64 v] rfl rfl (cell_one_new _ _ _) ?c2 ?c3 ?c4 ?c5 ?_)
                  case c2 => intro u hu; simp at hu; subst hu; rfl
                  case c3 => have := H300.out; unfold maxLen; omega
                  case c4 => have := H300.out; omega
                  case c5 => have h1 := HF10.out.eng.lt; have h2 := HF10.out.eng.hB; omega
                  intro V5 W5 ho5 hg5 _ hat5
                  have HF11 := Lib.hid (HF10.out.app1 (by rw [HN1.out]; exact ho5) hg5 (by rw [World.size_alloc]; exact hat5))
                  obtain ⟨A5, c5, hV5⟩ := own_form ho5
                  subst hV5
                  have HL5 : Hid ((E ++ [v]).length = n1 + 1) := by show _ = _; simp [HN1.out]
                  clear ho5 hg5 hat5 HF10
                  have HF12 := Lib.hid (HF11.out.keep ((Below.refl W5.heap.size W5).alloc (Nat.le_refl _) (.cells #[.int .i64 due] 3)))
                  clear HF11
                  go_wp2_with (at_builtin; refine wpList_append_own_at _ rfl _ _ 23 rfl Bn 3 i0 (.int .i64 0) 1 8 Tryd.underlying23 hi hz0 hz1 hz2 rfl (by decide) _ _ _ rfl (by have := HF12.out.own2; rw [HN2.out] at this; exact this) ⟨W5.heap.size, 0, none⟩ 1 1 [.int .i64 due] rfl rfl (cell_one_new _ _ _) ?c2 ?c3 ?c4 ?c5 ?_)
                  case c2 => intro u hu; simp at hu; subst hu; rfl
                  case c3 => have := H300.out; unfold maxLen; omega
                  case c4 => have := H300.out; omega
                  case c5 => have h1 := HF12.out.eng.lt; have h2 := HF12.out.eng.hB; omega
                  intro V6 W6 ho6 hg6 _ hat6
                  have HF13 := Lib.hid (HF12.out.app2 (by rw [HN2.out]; exact ho6) hg6 (by rw [World.size_alloc]; exact hat6))
                  obtain ⟨A6, c6, hV6⟩ := own_form ho6
                  subst hV6
                  have HL6 : Hid ((O ++ [due]).length = n2 + 1) := by show _ = _; simp [HN2.out]
                  clear ho6 hg6 hat6 HF12
                  go_wp2
                  go_roundw
                  case rel => exact ⟨j + 1, nw + 1, fm + 1, 0, X, cu', due, E ++ [v], O ++ [due], A5, A6, c5, c6, by omega, by first | rfl | go_num, by rw [HL5.out], by rw [HL6.out], HF13.out, HWI9.out, by omega, by rw [HL5.out]; omega, by rw [HL6.out]; omega⟩
                  case measure => simp [intOf]; omega
            · obtain rfl : j = len2 := by omega
              clear hlt hnw
              have hO1 : 0 < n2 := by
                obtain ⟨P, hP, _⟩ := HWI.out.wo
                have := HN2.out
                rw [hP] at this
                simp at this
                omega
              obtain ⟨g2, c2, hV2⟩ : ∃ g c, Value.slice A2 n2 e2 = .slice (some ⟨g, 0, none⟩) n2 c := by
                have h2 := HFW.out.own2
                rw [HN2.out] at h2
                rcases h2.2 with ⟨_, h0⟩ | ⟨g, cap, _, e, _⟩
                · omega
                · exact ⟨g, cap, e⟩
              injection hV2 with h1 _ h2
              subst h1 h2
              have H2 : Hid (wr.ownsRow Bn 3 1 (.slice (some ⟨g2, 0, none⟩) n2 e2) n2 (O.map (Value.int .i64))) := by have h2 := HFW.out.own2; rw [HN2.out] at h2; exact h2
              have H1 : Hid (wr.ownsRow Bn 3 1 (.slice A1 n1 e1) n1 (E.map (Value.int .i64))) := by have h2 := HFW.out.own1; rw [HN1.out] at h2; exact h2
              have HB := Lib.hid HFW.out.below
              have HTF := Lib.hid (HFW.out.eng.tick_lt.1)
              have HN2L : Hid (n2 ≤ 301) := by have := H300.out; show _ ≤ _; omega
              have HN1L : Hid (n1 ≤ 300) := by have := H300.out; show _ ≤ _; omega
              obtain ⟨W0, hW0⟩ : ∃ W, wr = W := ⟨_, rfl⟩
              rw [hW0] at H1 H2 HB ⊢
              have HGET : Hid (∀ id W, Below w.heap.size w W → pick Ts id ≠ none → _) := fun id W b hp => get_ok (some y) cap0 k l Ts id W (HSC.out.kept b) HLN.out hl64 HTL.out HTK.out hp
              have hn2l : n2 ≤ 301 := HN2L.out
              clear hW0 HFW hj hel hol ho64
              go_wp2_with fail
              go_loopw [120, 19] (fun i v wr => ∃ (k m : Nat) (A : Option Addr) (c : Nat), k ≤ n2 ∧ i = .int .i64 (k : Int) ∧ v = .slice A m c ∧ m ≤ 60 * k ∧ ((O.take k).flatMap (wdT Ts)).length = m ∧ wr.ownsRow W0.heap.size 3 1 v m (((O.take k).flatMap (wdT Ts)).map (Value.int .i64)) ∧ Below W0.heap.size W0 wr) (fun i _ _ => n2 - (intOf i).toNat)
              case atStart => exact ⟨0, 0, none, 0, Nat.zero_le _, rfl, rfl, Nat.le_refl _, rfl, World.ownsRow_nil _ _ _ _, Below.refl _ _⟩
              case round =>
                obtain ⟨u, m, A3, e3, hu, rfl, rfl, hm, hml, how, hb0⟩ := hrel
                have HOW := Lib.hid how
                have HB0 := Lib.hid hb0
                have HML := Lib.hid hml
                have HBU := Lib.hid (HB.out.trans (hb0.mono HB.out.size))
                clear how hb0 hml
                by_cases hlt : u < n2
                · obtain ⟨o, ho⟩ : ∃ o, O[u]? = some o := ⟨_, List.getElem?_eq_getElem (by rw [HN2.out]; exact hlt)⟩
                  have hc := H2.out.cellAt u (by omega)
                  rw [List.getElem?_map, ho] at hc
                  have hd : wr.cell? ⟨g2, u, none⟩ = some (.int .i64 o) := (HB0.out.cell (p := ⟨g2, u, none⟩) (H2.out.lt g2 rfl).2).trans hc
                  have hui : (0 : Int) ≤ u := by omega
                  have hub : (u : Int) < n2 := by omega
                  have hu1 : IntKind.i64.wrap ((u : Int) + 1) = (u : Int) + 1 := IntWalk.i64_in _ (by omega)
                  have HG := Lib.hid (HGET.out o wr HBU.out (HWI.out.all o (List.mem_of_getElem? ho)))
                  have HTKE : Hid ((O.take (u + 1)).flatMap (wdT Ts) = (O.take u).flatMap (wdT Ts) ++ wdT Ts o) := by show _ = _; rw [List.take_add_one, ho, List.flatMap_append]; simp
                  clear hc ho
                  go_wp2_with fail
                  refine HG.out.mono ?_
                  rintro e w9 ⟨x1, X, B, cb, C, cc, hX, hlk, hmem, rfl, hB, hC, hb9⟩
                  have HB9 := Lib.hid (HB0.out.trans (hb9.mono HB0.out.size))
                  have HO9 := Lib.hid (owns_kept HOW.out hb9)
                  have hok := HFEW.out.all x1 hmem
                  have hwd : wdT Ts o = ticksL (ownT (X.fr : Int) x1.ws) 0 X.fr := by unfold wdT; rw [hX]; dsimp only; rw [hlk.f, ← hlk.fr]
                  have hfr := hlk.fr
                  have hf60 : X.fr ≤ 60 := by have := hok.fr; omega
                  have HWRD : Hid (∀ W, Below w9.heap.size w9 W → _) := fun W b => rword_any x1.id X.fr B cb x1.ws C x1.ns.length cc W (hB.kept b) (num_all hok.rg) (by omega) (by have := hok.ws; omega)
                  obtain ⟨f, hf⟩ : ∃ f, ownT (X.fr : Int) x1.ws = f := ⟨_, rfl⟩
                  rw [hf] at hwd HWRD
                  obtain ⟨xfr, hxf⟩ : ∃ m, X.fr = m := ⟨_, rfl⟩
                  rw [hxf] at hwd HWRD hf60 hfr
                  have HWD2 := Lib.hid hwd
                  clear hX hlk hmem hB hC hb9 hok hwd hf hxf HG HOW
                  obtain ⟨id1, fr1, ws1, ns1⟩ := x1
                  dsimp only at hfr HWRD
                  subst hfr
                  unfold scC
                  dsimp only
                  obtain ⟨nw1, hnw1⟩ : ∃ m, ws1.length = m := ⟨_, rfl⟩
                  obtain ⟨nn1, hnn1⟩ : ∃ m, ns1.length = m := ⟨_, rfl⟩
                  rw [hnw1] at HWRD ⊢
                  rw [hnn1] at HWRD ⊢
                  clear hnw1 hnn1
                  have hbx : Below w9.heap.size w9 (w9.alloc (.cells #[.int .i64 id1, .int .i64 (xfr : Int), .slice B nw1 cb, .slice C nn1 cc] 37)) := (Below.refl _ _).alloc (Nat.le_refl _) _
                  have hrow := heap_alloc_new w9 (.cells #[.int .i64 id1, .int .i64 (xfr : Int), .slice B nw1 cb, .slice C nn1 cc] 37)
                  have y0 := cell_of_row _ _ 0 _ _ _ hrow
                  have y1 := cell_of_row _ _ 1 _ _ _ hrow
                  have y2 := cell_of_row _ _ 2 _ _ _ hrow
                  have y3 := cell_of_row _ _ 3 _ _ _ hrow
                  simp only [List.getElem?_toArray, List.getElem?_cons_zero, List.getElem?_cons_succ] at y0 y1 y2 y3
                  have HBX := Lib.hid (HB9.out.trans (hbx.mono HB9.out.size))
                  have HOX := Lib.hid (owns_kept HO9.out hbx)
                  have HWX2 := Lib.hid (HWRD.out _ hbx)
                  clear hbx hrow HB9 HO9 HWRD
                  go_wp2_with fail
                  refine HWX2.out.mono ?_
                  rintro e w10 ⟨VB, cw, rfl, how, hb10⟩
                  have HB10 := Lib.hid (HBX.out.trans (hb10.mono HBX.out.size))
                  have HO10 := Lib.hid (owns_kept HOX.out hb10)
                  have HOV := Lib.hid how
                  clear how hb10 HBX HOX HWX2 y0 y1 y2 y3
                  go_wp2_with (at_builtin; refine wpList_append_own _ rfl _ _ 23 rfl W0.heap.size 3 i0 (.int .i64 0) 1 8 Tryd.underlying23 hi hz0 hz1 hz2 rfl (by decide) _ _ _ rfl HO10.out ⟨VB, 0, none⟩ xfr cw ((ticksL f 0 xfr).map (Value.int .i64)) rfl HOV.out.1 (HOV.out.cells rfl) ?c2 ?c3 ?c4 ?c5 ?_)
                  case c2 => intro z hz; obtain ⟨v, _, rfl⟩ := List.mem_map.1 hz; rfl
                  case c3 => have := HN2L.out; unfold maxLen; omega
                  case c4 => have := HN2L.out; omega
                  case c5 => exact HB10.out.size
                  intro V11 W11 ho11 hg11 _
                  have HB11 := Lib.hid (HB10.out.grown hg11 HB10.out.size fun j hj => (HO10.out.lt j hj).1)
                  obtain ⟨A11, c11, hV11⟩ := own_form ho11
                  subst hV11
                  have HO11 : Hid (W11.ownsRow W0.heap.size 3 1 (.slice A11 (m + xfr) c11) (m + xfr) (((O.take (u + 1)).flatMap (wdT Ts)).map (Value.int .i64))) := by
                    show World.ownsRow _ _ _ _ _ _ _
                    rw [HTKE.out, HWD2.out, List.map_append]
                    exact ho11
                  have HL11 : Hid (((O.take (u + 1)).flatMap (wdT Ts)).length = m + xfr) := by
                    show _ = _
                    rw [HTKE.out, HWD2.out, List.length_append, HML.out, ticks_len]
                  clear ho11 hg11 HB10 HO10 HOV
                  go_wp2
                  go_roundw
                  case rel => exact ⟨u + 1, m + xfr, A11, c11, by omega, by first | rfl | go_num, rfl, by omega, HL11.out, HO11.out, HB11.out⟩
                  case measure => simp [intOf]; omega
                · obtain rfl : u = n2 := by omega
                  clear hlt hu
                  have htk : O.take u = O := List.take_of_length_le (by rw [HN2.out]; exact Nat.le_refl _)
                  rw [htk] at HOW HML
                  obtain ⟨R, hR, hRl⟩ := HWI.out.words HTF.out
                  rw [hR] at HOW HML
                  obtain ⟨rl, hrl⟩ : ∃ m, R.length = m := ⟨_, rfl⟩
                  have HM : Hid (m = n1 + rl) := by have := HML.out; rw [List.length_append, HN1.out, hrl] at this; exact this.symm
                  have HRL : Hid (1 ≤ rl ∧ rl ≤ T.fr) := by have := HTF.out; show _ ∧ _; omega
                  obtain ⟨kz, hkz⟩ : ∃ kz, u = kz + 1 := ⟨u - 1, by omega⟩
                  have hlast : O[kz]? = some T.id := by
                    obtain ⟨P, hP, _⟩ := HWI.out.wo
                    have h1 := HN2.out
                    rw [hP] at h1 ⊢
                    have : P.length = kz := by simp at h1; omega
                    rw [← this]
                    simp
                  have hc := H2.out.cellAt kz (by omega)
                  rw [List.getElem?_map, hlast] at hc
                  have hd : wr.cell? ⟨g2, kz, none⟩ = some (.int .i64 T.id) := (HB0.out.cell (p := ⟨g2, kz, none⟩) (H2.out.lt g2 rfl).2).trans hc
                  have hi0 : (0 : Int) ≤ kz := by omega
                  have hi1 : (kz : Int) < u := by omega
                  have hi2 : IntKind.i64.wrap ((u : Int) - 1) = (kz : Int) := by rw [show (u : Int) - 1 = (kz : Int) by omega]; exact IntWalk.i64_in _ (by omega)
                  have HG := Lib.hid (HGET.out T.id wr HBU.out (by rw [HWI.out.pk]; simp))
                  obtain ⟨gz, ez, hV3⟩ : ∃ g c, Value.slice A3 m e3 = .slice (some ⟨g, 0, none⟩) m c := by
                    rcases HOW.out.2 with ⟨_, h0⟩ | ⟨g, cap, _, e, _⟩
                    · have := HM.out; have := HRL.out; omega
                    · exact ⟨g, cap, e⟩
                  injection hV3 with h1 _ h2
                  subst h1 h2
                  clear hc hlast hR hRl hrl htk
                  go_wp2_with fail
                  refine HG.out.mono ?_
                  rintro e w9 ⟨x1, X, B, cb, C, cc, hX, hlk, hmem, rfl, hB, hC, hb9⟩
                  have HB9 := Lib.hid (HBU.out.trans (hb9.mono HBU.out.size))
                  have HO9 := Lib.hid (owns_kept HOW.out hb9)
                  have HE9 := Lib.hid (owns_kept H1.out (HB0.out.trans (hb9.mono HB0.out.size)))
                  have hTX : T = X := by have h := HWI.out.pk; rw [hX] at h; exact (Option.some.inj h).symm
                  have hfr := hlk.fr
                  rw [← hTX] at hfr
                  have hm := HM.out
                  have hrl := HRL.out
                  have h300 := HN1L.out
                  have hn301 := HN2L.out
                  have hcap : m ≤ e3 := by
                    rcases HO9.out.2 with ⟨h, _⟩ | ⟨g, cap, _, e, _, _, h, _⟩
                    · cases h
                    · injection e with _ _ h3
                      rw [h3]; exact h
                  have HSI : Hid (∀ W, Below w9.heap.size w9 W → Calls Tryd.prog 19 #[.slice A1 n1 e1, .slice (some ⟨gz, 0, none⟩) n1 e3] W fun e w' => e = .returned (.bool true) ∧ Below W.heap.size W w') := fun W b => by
                    have ho2 := owns_first n1 (by omega) HO9.out
                    have e2 : ((E ++ R).map (Value.int .i64)).take n1 = E.map (Value.int .i64) := by
                      rw [List.map_append, List.take_left' (by rw [List.length_map, HN1.out])]
                    rw [e2] at ho2
                    rcases Nat.eq_zero_or_pos n1 with hz | hz
                    · rw [hz]
                      exact sameints_none _ _ _ _ W
                    · rcases HE9.out.2 with ⟨_, h0⟩ | ⟨ga, cap, _, e, _⟩
                      · omega
                      · injection e with hA _ _
                        have ho1 := HE9.out
                        rw [hA] at ho1 ⊢
                        exact sameints_any E ga gz n1 e1 e3 _ _ W (owns_kept ho1 b) (owns_kept ho2 b) HN1.out (by omega)
                  obtain ⟨xfr, hxf⟩ : ∃ m, T.fr = m := ⟨_, rfl⟩
                  rw [hxf] at hfr hrl
                  have tz1 : decide ((m : Int) < (n1 : Int)) = false := decide_eq_false (by omega)
                  have tz1' : decide (m < n1) = false := decide_eq_false (by omega)
                  have tz2 : IntKind.i64.wrap ((m : Int) - (n1 : Int)) = (rl : Int) := by rw [show (m : Int) - (n1 : Int) = (rl : Int) by omega]; exact IntWalk.i64_in _ (by have := HN1L.out; have := HFEW.out; have := hrl; omega)
                  have tz3 : decide ((xfr : Int) < (rl : Int)) = false := decide_eq_false (by omega)
                  have tz3' : decide (xfr < rl) = false := decide_eq_false (by omega)
                  have tz4 : ((m : Int) == (n1 : Int)) = false := by simp; omega
                  have tz4' : (m == n1) = false := by simp; omega
                  have tz5 : (0 : Int) ≤ n1 := by omega
                  have tz6 : (n1 : Int) ≤ e3 := by omega
                  have tz6' : n1 ≤ e3 := by omega
                  clear hX hlk hmem hB hC hb9 hTX hxf hcap hm hrl h300 hn301 hi0 hi1 hi2 hd HG
                  obtain ⟨id1, fr1, ws1, ns1⟩ := x1
                  dsimp only at hfr
                  subst hfr
                  unfold scC
                  dsimp only
                  obtain ⟨nw1, hnw1⟩ : ∃ m, ws1.length = m := ⟨_, rfl⟩
                  obtain ⟨nn1, hnn1⟩ : ∃ m, ns1.length = m := ⟨_, rfl⟩
                  rw [hnw1, hnn1]
                  clear hnw1 hnn1
                  have hbx : Below w9.heap.size w9 (w9.alloc (.cells #[.int .i64 id1, .int .i64 (xfr : Int), .slice B nw1 cb, .slice C nn1 cc] 37)) := (Below.refl _ _).alloc (Nat.le_refl _) _
                  have hrow := heap_alloc_new w9 (.cells #[.int .i64 id1, .int .i64 (xfr : Int), .slice B nw1 cb, .slice C nn1 cc] 37)
                  have y1 := cell_of_row _ _ 1 _ _ _ hrow
                  simp only [List.getElem?_toArray, List.getElem?_cons_zero, List.getElem?_cons_succ] at y1
                  have HBX := Lib.hid (HB9.out.trans (hbx.mono HB9.out.size))
                  have HSX := Lib.hid (HSI.out _ hbx)
                  clear hbx hrow HB9 HSI
                  go_wp2_with fail
                  refine HSX.out.mono ?_
                  rintro e w10 ⟨rfl, hb10⟩
                  have HB10 := Lib.hid (HBX.out.trans (hb10.mono HBX.out.size))
                  clear hb10
                  go_wp2_with (go_at_call 7; refine (awake18 _ (HNM.out.kept HB10.out)).mono ?_; rintro e w' ⟨rfl, hb⟩; have HBF := Lib.hid (HB10.out.trans (hb.mono HB10.out.size)); clear hb)
                  go_ret
                  exact ⟨rfl, HBF.out⟩

end Go.Proofs.YtofcjkfaccdnjaaDoor.frameWords
