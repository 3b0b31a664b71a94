
/- The function FrameHalts returns true for every slice of schedules, every slice of ids and every two bytes. Condition: the package-level variables hold what the program lays in them (the card ties that). This text: the walk through the Go text; the row is in the text without the W at its name's end. -/

import Derived.Test.YtofcjkfaccdnjaaDoorArgs

import Derived.Test.YtofcjkfaccdnjaaDoorFrmF

import Derived.Deep.RegionHeld3

namespace Go.Proofs.YtofcjkfaccdnjaaDoor.frameHalts

open Go.RowKit Go.PlainAid Go.Proofs.YtofcjkfaccdnjaaDoor.Args

set_option linter.unusedVariables false

open Go.Proofs.YtofcjkfaccdnjaaDoor.Flt Go.Proofs.YtofcjkfaccdnjaaDoor.Rdr Go.Proofs.YtofcjkfaccdnjaaDoor.Oct Go.Proofs.YtofcjkfaccdnjaaDoor.Win Go.Proofs.YtofcjkfaccdnjaaDoor.Tab Go.Proofs.YtofcjkfaccdnjaaDoor.Clk Go.Proofs.YtofcjkfaccdnjaaDoor.Frm

open Go.Proofs.YtofcjkfaccdnjaaDoor.Act (A3 actL flatA flatA_get flatA_len ActsAt I64 Wide acts_of)

open Go.Proofs.YtofcjkfaccdnjaaDoor.Scd (SC scC rgS rgS_in rowB sright09_any ScdAt WideS scheds_of)

set_option linter.unusedSimpArgs false

theorem ints_in {w : World} {a : Option Addr} {len cap : Nat} {z : List Int} (h : IsRow .i64 w a len cap z) : (z.take len).length = len ∧ IntsBelow w.heap.size w (.slice a len cap) (z.take len) ∧ len ≤ maxLen := by
  rcases h with ⟨rfl, rfl, rfl, rfl⟩ | ⟨y, rfl, h1, h2, h3, h4, _⟩
  · exact ⟨rfl, .inl ⟨rfl, rfl⟩, Nat.zero_le _⟩
  · have hl : (z.take len).length = len := by rw [List.length_take]; omega
    refine ⟨hl, ?_, by omega⟩
    refine .inr ⟨y, cap, by rw [hl], fun h0 => ?_, fun j hj => ?_⟩
    · have := Go.block_lt_of_cell (h4 0 (by rw [hl] at h0; omega))
      rw [add_block] at this
      exact this
    · rw [hl] at hj
      rw [h4 j (by omega)]
      simp [List.getD, List.getElem?_take_of_lt hj]
theorem sc_id {w : World} {y : Addr} {l : List SC} (h : ScdAt w (some y) l) {i : Nat} {x : SC} (hx : l[i]? = some x) : w.cell? (y.add (i * 4)) = some (.int .i64 x.id) := by
  obtain ⟨y', _, _, _, _, e, c, _⟩ := h i x hx
  rw [Option.some.inj e]
  exact c
theorem sc_id0 {w : World} {y : Addr} {l : List SC} (h : ScdAt w (some y) l) {x : SC} (hx : l[0]? = some x) : w.cell? y = some (.int .i64 x.id) := by
  have := sc_id h hx
  rwa [show y.add (0 * 4) = y by simp [Addr.add]] at this
/-- No two of the first k schedules have one id. -/
def UniqL (l : List SC) (k : Nat) : Prop := ∀ (i j : Nat) (x y : SC), i < j → j < k → l[i]? = some x → l[j]? = some y → x.id ≠ y.id
theorem uniq_of {l : List SC} {Ts : List TR} (hn : Ts.length = l.length) (hl : ∀ (i : Nat) (x : SC) (X : TR), l[i]? = some x → Ts[i]? = some X → Like x X) (hu : UniqL l l.length) : Uniq Ts Ts.length := by
  intro i j X Y h1 h2 hX hY
  have hj : j < l.length := by omega
  have hx : l[i]? = some (l[i]'(by omega)) := List.getElem?_eq_getElem (by omega)
  have hy : l[j]? = some (l[j]'hj) := List.getElem?_eq_getElem hj
  rw [(hl i _ X hx hX).id, (hl j _ Y hy hY).id]
  exact hu i j _ _ h1 hj hx hy
theorem pick_of {l : List SC} {Ts : List TR} {x : SC} (hn : Ts.length = l.length) (hl : ∀ (i : Nat) (x : SC) (X : TR), l[i]? = some x → Ts[i]? = some X → Like x X) {i : Nat} (hx : l[i]? = some x) : pick Ts x.id ≠ none := by
  intro h
  unfold pick at h
  rw [List.find?_eq_none] at h
  have hi : i < Ts.length := by have := (List.getElem?_eq_some_iff.1 hx).1; omega
  have hX : Ts[i]? = some Ts[i] := List.getElem?_eq_getElem hi
  have := h _ (List.getElem_mem hi)
  simp [(hl i x _ hx hX).id] at this
theorem new_ok {l : List SC} {Ts : List TR} {V : Value} {w0 w : World} {x : SC} (f : TRl l l.length Ts V w0 w) (hl : l.length ≤ 1099511627776) (epoch : Nat) (he : epoch ≤ 18446744073709551615) (hu : UniqL l l.length) {i : Nat} (hx : l[i]? = some x) (hw : I64 x.id) :
    Calls Tryd.prog 9 #[V, .int .i64 x.id, .int .u64 (epoch : Int)] w fun e w' => ∃ T q mb ck cu, pick Ts x.id = some T ∧ e = .returned (.tuple #[.pointer (some ⟨q, 0, none⟩), .int .i64 0]) ∧ IsE w' w.heap.size q mb ck cu Ts T 0 x.id epoch 0 ∧ Below w.heap.size w w' := by
  refine (new_of f hl x.id epoch hw he).mono ?_
  rintro e w' ⟨hb, ⟨h, _⟩ | ⟨_, h, _⟩ | ⟨_, T, q, mb, ck, cu, h1, h2, h3⟩⟩
  · exact absurd (uniq_of f.len f.like hu) h
  · exact absurd h (pick_of f.len f.like hx)
  · exact ⟨T, q, mb, ck, cu, h1, h2, h3, hb⟩
theorem eb_step {w wr w' : World} {B q mb ck cu : Nat} {Ts : List TR} {T : TR} {t : Nat} {due : Int} {now frames : Nat} (hE : IsE wr B q mb ck cu Ts T t due now frames) (ho : Oth q ck cu wr w') (hb : Below w.heap.size w wr) (hB : w.heap.size ≤ B) : Below w.heap.size w w' :=
  hb.trans (ho.below (by have := hE.hB; omega) (by have := hE.hB; omega) (by have := hE.hB; omega) hb.size)
set_option maxRecDepth 8000 in
set_option maxHeartbeats 12800000 in
theorem walk (a0 : Option Addr) (len0 cap0 : Nat) (a1 : Option Addr) (len1 cap1 : Nat) (z1 : List Int) (a2 : Int) (a3 : Int) (w : World) (w0 : IsRows w a0 len0 cap0 [.one (.int .i64), .one (.int .i64), .recs [.int .i64, .int .i64, .int .i64], .recs [.int .i64, .int .i64, .int .i64]]) (w1 : IsRow .i64 w a1 len1 cap1 z1) (w2 : (Lit.int .u8 a2).wf = true) (w3 : (Lit.int .u8 a3).wf = true) (hn : Go.Proofs.YtofcjkfaccdnjaaDoor.Flt.Names w) :
    Calls Tryd.prog 5 #[.slice a0 len0 cap0, .slice a1 len1 cap1, .int .u8 a2, .int .u8 a3] w fun e w' => e = .returned (.bool true) ∧ Below w.heap.size w w' := by
  obtain ⟨l, hln, hsc, hwd, hlm⟩ := scheds_of w0
  obtain ⟨hzl, hints, hilm⟩ := ints_in w1
  obtain ⟨ids, hids⟩ : ∃ ids, z1.take len1 = ids := ⟨_, rfl⟩
  rw [hids] at hzl hints
  have HFW := Lib.hid (few_any a0 cap0 len0 l a1 len1 cap1 ids w hsc hwd hln hlm hints hzl (by rw [hzl]; exact hilm))
  have HSC := Lib.hid hsc
  have HWD := Lib.hid hwd
  have HLN := Lib.hid hln
  have HINT := Lib.hid hints
  have HNM := Lib.hid hn
  have b2 := bounds_u8 w2
  have b3 := bounds_u8 w3
  obtain ⟨left, hleft⟩ : ∃ m : Nat, a2 = (m : Int) := ⟨a2.toNat, by omega⟩
  obtain ⟨more, hmore⟩ : ∃ m : Nat, a3 = (m : Int) := ⟨a3.toNat, by omega⟩
  subst hleft hmore
  have HLEFT : Hid (left ≤ 255) := by show _ ≤ _; omega
  have HMORE : Hid (more ≤ 255) := by show _ ≤ _; omega
  have hl64 : len0 ≤ 9223372036854775807 := hlm
  clear w0 w1 w2 w3 hsc hwd hln hints hzl hids hn b2 b3 hilm hlm
  go_enter Tryd.func5, Tryd.ntmps5
  go_wp2_with fail
  refine HFW.out.mono ?_
  rintro e w1 ⟨b, rfl, hb, hb1⟩
  have HB1 := Lib.hid hb1
  clear hb1 HFW
  cases b with
  | false =>
    go_wp2_with (go_at_call 7; refine (awake18 _ (HNM.out.kept HB1.out)).mono ?_; rintro e w' ⟨rfl, hb⟩; have HBF := Lib.hid (HB1.out.trans (hb.mono HB1.out.size)); clear hb)
    go_ret
    exact ⟨rfl, HBF.out⟩
  | true =>
    have HFEW := Lib.hid (hb rfl)
    have h8 : Hid (len0 ≤ 8) := by have := HFEW.out.l8; rw [HLN.out] at this; exact this
    clear hb
    by_cases hz : len0 = 0
    · have t1 : ((len0 : Int) == 0) = true := by simp [hz]
      have t2 : (len0 == 0) = true := by simp [hz]
      clear hz
      go_wp2_with (go_at_call 7; refine (awake18 _ (HNM.out.kept HB1.out)).mono ?_; rintro e w' ⟨rfl, hb⟩; have HBF := Lib.hid (HB1.out.trans (hb.mono HB1.out.size)); clear hb)
      go_ret
      exact ⟨rfl, HBF.out⟩
    · have t1 : ((len0 : Int) == 0) = false := by simp [hz]
      have t2 : (len0 == 0) = false := by simp [hz]
      have HPOS : Hid (0 < len0) := by show _ < _; omega
      clear hz
      go_wp2_with fail
      clear t1 t2
      go_loopw [34] (fun i wr => ∃ k : Nat, k ≤ len0 ∧ i = .int .i64 (k : Int) ∧ UniqL l k ∧ Below w.heap.size w wr) (fun i _ => len0 - (intOf i).toNat)
      case atStart => exact ⟨0, Nat.zero_le _, rfl, fun i j x y h1 h2 => by omega, HB1.out⟩
      case round =>
        obtain ⟨k, hk, rfl, hun, hbel⟩ := hrel
        have HUN := Lib.hid hun
        have HB := Lib.hid hbel
        clear hun hbel HB1
        obtain ⟨wo, hwo⟩ : ∃ wo, wo = wr := ⟨_, rfl⟩
        rw [← hwo] at HB ⊢
        clear hwo
        by_cases hlt : k < len0
        · have hki : (0 : Int) ≤ k := by omega
          have hkb : (k : Int) < len0 := by omega
          have hk1 : IntKind.i64.wrap ((k : Int) + 1) = (k : Int) + 1 := IntWalk.i64_in _ (by omega)
          obtain ⟨x, hx⟩ : ∃ x, l[k]? = some x := ⟨_, List.getElem?_eq_getElem (by rw [HLN.out]; exact hlt)⟩
          have HX := Lib.hid hx
          obtain ⟨y, _, _, _, _, rfl, _⟩ := HSC.out k x hx
          clear hx
          go_wp2_with fail
          go_loopw [38] (fun m wr => ∃ j : Nat, j ≤ k ∧ m = .int .i64 (j : Int) ∧ (∀ (i : Nat) (z : SC), i < j → l[i]? = some z → z.id ≠ x.id) ∧ Below w.heap.size w wr) (fun m _ => k - (intOf m).toNat)
          case atStart => exact ⟨0, Nat.zero_le _, rfl, fun i z h => by omega, HB.out⟩
          case round =>
            obtain ⟨j, hj, rfl, hne, hbel⟩ := hrel
            have HNE := Lib.hid hne
            have HBJ := Lib.hid hbel
            clear hne hbel
            by_cases hlj : j < k
            · obtain ⟨z, hz⟩ : ∃ z, l[j]? = some z := ⟨_, List.getElem?_eq_getElem (by rw [HLN.out]; omega)⟩
              have HZ := Lib.hid hz
              have cz := sc_id (HSC.out.kept HBJ.out) hz
              have cx := sc_id (HSC.out.kept HBJ.out) HX.out
              have hji : (0 : Int) ≤ j := by omega
              have hjb : (j : Int) < k := by omega
              have hjl : (j : Int) < len0 := by omega
              have hj1 : IntKind.i64.wrap ((j : Int) + 1) = (j : Int) + 1 := IntWalk.i64_in _ (by omega)
              clear hz
              by_cases hq : x.id = z.id
              · have te : (x.id == z.id) = true := by simp [hq]
                have HA := Lib.hid (fun W (b : Below w.heap.size w W) => awake18 W (HNM.out.kept b))
                clear hq
                go_wp2
                go_quiet (fail)
                have HBQ := Lib.hid (below_drewN HBJ.out nq)
                go_wp2_with (go_at_call 7; refine (HA.out _ HBQ.out).mono ?_; rintro e w' ⟨rfl, hb⟩; have HBF := Lib.hid (HBQ.out.trans (hb.mono HBQ.out.size)); clear hb)
                go_ret
                exact ⟨rfl, HBF.out⟩
              · have te : (x.id == z.id) = false := by simp [hq]
                have HQ := Lib.hid (fun h : z.id = x.id => hq h.symm)
                clear hq
                go_wp2
                go_quiet (fail)
                have HBQ := Lib.hid (below_drewN HBJ.out nq)
                go_wp2
                go_roundw
                case rel => exact ⟨j + 1, by omega, by go_num, fun i v hi hv => by
                  by_cases hij : i = j
                  · subst hij
                    rw [HZ.out] at hv
                    obtain rfl := Option.some.inj hv
                    exact HQ.out
                  · exact HNE.out i v (by omega) hv, HBQ.out⟩
                case measure => simp [intOf]; omega
            · obtain rfl : j = k := by omega
              go_wp2
              go_roundw
              case rel => exact ⟨j + 1, by omega, by go_num, fun i m u v h1 h2 h3 h4 => by
                by_cases hm : m = j
                · subst hm
                  rw [HX.out] at h4
                  obtain rfl := Option.some.inj h4
                  exact HNE.out i u h1 h3
                · exact HUN.out i m u v h1 (by omega) h3 h4, HBJ.out⟩
              case measure => simp [intOf]; omega
        · obtain rfl : k = len0 := by omega
          have HUL : Hid (UniqL l l.length) := by rw [HLN.out]; exact HUN.out
          clear HUN hlt hk
          obtain ⟨x, hx⟩ : ∃ x, l[0]? = some x := ⟨_, List.getElem?_eq_getElem (by rw [HLN.out]; exact HPOS.out)⟩
          have HX := Lib.hid hx
          have HWX := Lib.hid (HWD.out x (List.mem_of_getElem? hx))
          obtain ⟨y, _, _, _, _, rfl, cx, _⟩ := (HSC.out.kept HB.out) 0 x hx
          have hkp : (0 : Int) < k := by have := HPOS.out; omega
          have hkn : 0 < k := HPOS.out
          have hcv : IntKind.u64.wrap (left : Int) = (left : Int) := IntWalk.u64_in _ (by have := HLEFT.out; omega)
          obtain ⟨ep, hep⟩ : ∃ ep : Nat, ep = 18446744073709551615 - left := ⟨_, rfl⟩
          have HEP : Hid (ep + left = 18446744073709551615) := by have := HLEFT.out; show _ = _; omega
          have hsub : IntKind.u64.wrap (18446744073709551615 - (left : Int)) = (ep : Int) := by
            rw [show (18446744073709551615 - (left : Int)) = (ep : Int) by have := HEP.out; omega]
            exact IntWalk.u64_in _ (by have := HEP.out; omega)
          have HTB : Hid (∀ W, Below w.heap.size w W → _) := fun W b => tables_any (some y) cap0 k l a1 len1 cap1 ids W (HNM.out.kept b) (HSC.out.kept b) HWD.out HLN.out ((HINT.out.below b).mono b.size) HFEW.out
          clear hx hep
          go_upto_region 13 with fail
          have HBD := Lib.hid (below_drewN HB.out 1)
          have c0 := sc_id0 (HSC.out.kept HBD.out) HX.out
          clear cx
          go_region_held3 (fun wx => wx.cell? y = some (.int .i64 x.id))
            (first | assumption | (go_keep; done))
            (first
              | (go_at_call 8; refine (HTB.out _ HBD.out).mono ?_; rintro e w5 ⟨V, Ts, rfl, htr⟩; have HTR := Lib.hid htr; have HB5 := Lib.hid (HBD.out.trans (htr.below.mono HBD.out.size)); have c1 := sc_id0 (HSC.out.kept HB5.out) HX.out; clear htr)
              | (go_at_call 9; refine (new_ok HTR.out (by rw [HLN.out]; have := h8.out; omega) ep (by have := HEP.out; omega) HUL.out HX.out HWX.out.1).mono ?_; rintro e w6 ⟨T, q, mb, ck, cu, hT, rfl, he, hb6⟩; have HE := Lib.hid he; have HB6 := Lib.hid (HB5.out.trans (hb6.mono HB5.out.size)); have HBB : Hid (w.heap.size ≤ w5.heap.size) := HB5.out.size; have c1 := sc_id0 (HSC.out.kept HB6.out) HX.out; clear hb6 he hT))
          obtain ⟨Bn, hBn⟩ : ∃ Bn, w5.heap.size = Bn := ⟨_, rfl⟩
          rw [hBn] at HE HBB
          have hci : IntKind.i64.wrap (left : Int) = (left : Int) := IntWalk.i64_in _ (by have := HLEFT.out; omega)
          have HE0 : Hid (∃ T t cu fm, IsE w6 Bn q mb ck cu Ts T t x.id (ep + 0) fm) := ⟨T, 0, cu, 0, HE.out⟩
          clear c0 c1 HTB hBn HTR HB5 HBD HE HB hsub hcv hkp hkn
          go_wp2_with fail
          go_loopw [77] (fun i wr => ∃ k : Nat, k ≤ left ∧ i = .int .i64 (k : Int) ∧ (∃ T t cu fm, IsE wr Bn q mb ck cu Ts T t x.id (ep + k) fm) ∧ Below w.heap.size w wr) (fun i _ => left - (intOf i).toNat)
          case atStart => exact ⟨0, Nat.zero_le _, rfl, HE0.out, HB6.out⟩
          case round =>
            obtain ⟨j, hj, rfl, ⟨T, t, cu, fm, hE⟩, hbel⟩ := hrel
            have HE := Lib.hid hE
            have HBJ := Lib.hid hbel
            clear hE hbel HE0 HB6
            by_cases hlt : j < left
            · have hji : (0 : Int) ≤ j := by omega
              have hjb : (j : Int) < left := by omega
              have hj1 : IntKind.i64.wrap ((j : Int) + 1) = (j : Int) + 1 := IntWalk.i64_in _ (by have := HLEFT.out; omega)
              have HTK := Lib.hid (etick_any HE.out)
              go_wp2_with fail
              refine HTK.out.mono ?_
              rintro e w7 (⟨h, _⟩ | ⟨-, -, rfl, he, ho⟩ | ⟨-, -, X, cu', -, rfl, -, he, ho⟩)
              · have := HEP.out; omega
              · have HE7 := Lib.hid he
                have HB7 := Lib.hid (eb_step HE.out ho HBJ.out HBB.out)
                clear he ho HTK
                go_wp2
                go_roundw
                case rel => exact ⟨j + 1, by omega, by go_num, ⟨_, _, _, _, HE7.out⟩, HB7.out⟩
                case measure => simp [intOf]; omega
              · have HE7 := Lib.hid he
                have HB7 := Lib.hid (eb_step HE.out ho HBJ.out HBB.out)
                clear he ho HTK
                go_wp2
                go_roundw
                case rel => exact ⟨j + 1, by omega, by go_num, ⟨_, _, _, _, HE7.out⟩, HB7.out⟩
                case measure => simp [intOf]; omega
            · obtain rfl : j = left := by omega
              have hep : ep + j = 18446744073709551615 := HEP.out
              rw [hep] at HE
              have htm := HE.out.tm
              have HO := Lib.hid (eoffset_any HE.out)
              have HC := Lib.hid (ecurrent_any HE.out)
              have HF := Lib.hid (eframes_any HE.out)
              have hm9 : (more : Int) % 9 = ((more % 9 : Nat) : Int) := rfl
              have hmi : IntKind.i64.wrap (more : Int) = (more : Int) := IntWalk.i64_in _ (by have := HMORE.out; omega)
              clear hep htm
              go_wp2_with (first
                | (go_at_call 20; refine HO.out.mono ?_; rintro e wa ⟨rfl, rfl⟩)
                | (go_at_call 21; refine HC.out.mono ?_; rintro e wa ⟨rfl, rfl⟩)
                | (go_at_call 22; refine HF.out.mono ?_; rintro e wa ⟨rfl, rfl⟩))
              clear hm9 hmi
              have HE1 := Lib.hid HE.out
              go_loopw [97] (fun i wr => ∃ k : Nat, k ≤ more % 9 ∧ i = .int .i64 (k : Int) ∧ IsE wr Bn q mb ck cu Ts T t x.id 18446744073709551615 fm ∧ Below w.heap.size w wr) (fun i _ => more % 9 - (intOf i).toNat)
              case atStart => exact ⟨0, Nat.zero_le _, rfl, HE1.out, HBJ.out⟩
              case round =>
                obtain ⟨i, hi, rfl, hE, hbel⟩ := hrel
                have HE2 := Lib.hid hE
                have HB2 := Lib.hid hbel
                clear hE hbel HE1 HBJ HE HO HC HF
                obtain ⟨m9, hm9⟩ : ∃ m, more % 9 = m := ⟨_, rfl⟩
                by_cases hlt : i < more % 9
                · have hji : (0 : Int) ≤ i := by omega
                  have hj1 : IntKind.i64.wrap ((i : Int) + 1) = (i : Int) + 1 := IntWalk.i64_in _ (by have := HMORE.out; omega)
                  have hib : (i : Int) < (more : Int) % 9 := by omega
                  have HTK := Lib.hid (etick_any HE2.out)
                  go_wp2_with fail
                  refine HTK.out.mono ?_
                  rintro e w7 (⟨-, rfl, he, ho⟩ | ⟨h, _⟩ | ⟨h, _⟩)
                  · have HE7 := Lib.hid he
                    have HB7 := Lib.hid (eb_step HE2.out ho HB2.out HBB.out)
                    clear he ho HTK
                    go_wp2
                    go_roundw
                    case rel => exact ⟨i + 1, by omega, by go_num, HE7.out, HB7.out⟩
                    case measure => simp [intOf]; omega
                  · omega
                  · omega
                · have hib : ¬ (i : Int) < (more : Int) % 9 := by omega
                  have hnow : (((18446744073709551615 : Nat) : Int) == 18446744073709551615) = true := by decide
                  have HHL := Lib.hid (ehalt_any HE2.out)
                  have HNW := Lib.hid (enow_any HE2.out)
                  have HO := Lib.hid (eoffset_any HE2.out)
                  have HC := Lib.hid (ecurrent_any HE2.out)
                  have HF := Lib.hid (eframes_any HE2.out)
                  rw [hnow] at HHL
                  go_wp2_with (first
                    | (go_at_call 23; refine HHL.out.mono ?_; rintro e wa ⟨rfl, rfl⟩)
                    | (go_at_call 24; refine HNW.out.mono ?_; rintro e wa ⟨rfl, rfl⟩)
                    | (go_at_call 20; refine HO.out.mono ?_; rintro e wa ⟨rfl, rfl⟩)
                    | (go_at_call 21; refine HC.out.mono ?_; rintro e wa ⟨rfl, rfl⟩)
                    | (go_at_call 22; refine HF.out.mono ?_; rintro e wa ⟨rfl, rfl⟩)
                    | (go_at_call 7; refine (awake18 _ (HNM.out.kept HB2.out)).mono ?_; rintro e w' ⟨rfl, hb⟩; have HBF := Lib.hid (HB2.out.trans (hb.mono HB2.out.size)); clear hb))
                  go_ret
                  exact ⟨rfl, HBF.out⟩

end Go.Proofs.YtofcjkfaccdnjaaDoor.frameHalts
