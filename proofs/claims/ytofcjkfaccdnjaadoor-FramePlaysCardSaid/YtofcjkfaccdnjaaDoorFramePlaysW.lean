
/- The function FramePlays returns true for every slice of schedules, every slice of ids, every two numbers and every slice of calls. Condition: the package-level variables hold what the program lays in them (the card ties that). This text: the walk through the Go text; the row is in the text without the W at its name's end. -/

import Derived.Test.YtofcjkfaccdnjaaDoorArgs

import Derived.Test.YtofcjkfaccdnjaaDoorFrmM

import Derived.Deep.RegionHeld3

namespace Go.Proofs.YtofcjkfaccdnjaaDoor.framePlays

open Go.RowKit Go.PlainAid Go.Proofs.YtofcjkfaccdnjaaDoor.Args

set_option linter.unusedVariables false

open Go.Proofs.YtofcjkfaccdnjaaDoor.Flt Go.Proofs.YtofcjkfaccdnjaaDoor.Rdr Go.Proofs.YtofcjkfaccdnjaaDoor.Oct Go.Proofs.YtofcjkfaccdnjaaDoor.Win Go.Proofs.YtofcjkfaccdnjaaDoor.Tab Go.Proofs.YtofcjkfaccdnjaaDoor.Clk Go.Proofs.YtofcjkfaccdnjaaDoor.Frm

open Go.Proofs.YtofcjkfaccdnjaaDoor.Act (A3 actL flatA flatA_get flatA_len ActsAt I64 Wide acts_of)

open Go.Proofs.YtofcjkfaccdnjaaDoor.Scd (SC scC rgS rgS_in rowB sright09_any ScdAt WideS scheds_of)

set_option linter.unusedSimpArgs false

/-- What a new engine is, its answer's numbers told. -/
def NC (W w' : World) (Ts : List TR) (first : Int) (ep : Nat) (P : Option Addr) (K : Int) : Prop :=
  (¬ Uniq Ts Ts.length ∧ P = none ∧ K = 9) ∨ (Uniq Ts Ts.length ∧ pick Ts first = none ∧ P = none ∧ K = 10) ∨
  (Uniq Ts Ts.length ∧ ∃ T q mb ck cu, pick Ts first = some T ∧ P = some ⟨q, 0, none⟩ ∧ K = 0 ∧ IsE w' W.heap.size q mb ck cu Ts T 0 first ep 0)
theorem new_nc {l : List SC} {n : Nat} {Ts : List TR} {V : Value} {w0 w : World} (f : TRl l n Ts V w0 w) (hl : n ≤ 1099511627776) (first : Int) (epoch : Nat) (hf : I64 first) (he : epoch ≤ 18446744073709551615) :
    Calls Tryd.prog 9 #[V, .int .i64 first, .int .u64 (epoch : Int)] w fun e w' => ∃ P K, e = .returned (.tuple #[.pointer P, .int .i64 K]) ∧ NC w w' Ts first epoch P K ∧ Below w.heap.size w w' := by
  refine (new_of f hl first epoch hf he).mono ?_
  rintro e w' ⟨hb, ⟨h, rfl⟩ | ⟨h1, h2, rfl⟩ | ⟨h0, T, q, mb, ck, cu, h1, rfl, h3⟩⟩
  · exact ⟨none, 9, rfl, .inl ⟨h, rfl, rfl⟩, hb⟩
  · exact ⟨none, 10, rfl, .inr (.inl ⟨h1, h2, rfl, rfl⟩), hb⟩
  · exact ⟨some ⟨q, 0, none⟩, 0, rfl, .inr (.inr ⟨h0, T, q, mb, ck, cu, h1, rfl, rfl, h3⟩), hb⟩
theorem get_nc {w : World} {A : Option Addr} {n : Nat} {l : List SC} {ids : List Int} {Ts : List TR} (h : LK w A n l ids Ts) (cap : Nat) (id : Int) :
    Calls Tryd.prog 10 #[.slice A n cap, .int .i64 id] w fun e w' => ∃ (i f : Int) (B : Option Addr) (nb cb : Nat) (C : Option Addr) (nc cc : Nat), e = .returned (.tuple #[.agg #[.int .i64 i, .int .i64 f, .slice B nb cb, .slice C nc cc], .bool (pick Ts id).isSome]) ∧ Below w.heap.size w w' := by
  cases hp : pick Ts id with
  | none =>
    refine (h.get_no cap id hp).mono ?_
    rintro e w' ⟨rfl, hb⟩
    exact ⟨_, _, _, _, _, _, _, _, rfl, hb⟩
  | some X =>
    refine (h.get cap id (by rw [hp]; simp)).mono ?_
    rintro e w' ⟨x, X, B, cb, C, cc, _, _, _, rfl, _, _, hb⟩
    exact ⟨_, _, _, _, _, _, _, _, rfl, hb⟩
theorem fp_cells {w wr : World} {Bn q mb ck cu XB : Nat} {Ts : List TR} {T : TR} {t : Nat} {due : Int} {now frames : Nat} {v0 v1 v2 v3 v4 v5 : Value} (f : FP w wr Bn q mb ck cu XB Ts T t due now frames #[v0, v1, v2, v3, v4, v5]) :
    wr.cell? ⟨XB, 0, none⟩ = some v0 ∧ wr.cell? ⟨XB, 1, none⟩ = some v1 ∧ wr.cell? ⟨XB, 2, none⟩ = some v2 ∧ wr.cell? ⟨XB, 3, none⟩ = some v3 ∧ wr.cell? ⟨XB, 4, none⟩ = some v4 ∧ wr.cell? ⟨XB, 5, none⟩ = some v5 := by
  refine ⟨?_, ?_, ?_, ?_, ?_, ?_⟩
  all_goals (rw [cell_of_row wr _ _ _ _ _ f.box]; rfl)
set_option maxRecDepth 8000 in
set_option maxHeartbeats 12800000 in
theorem walk (a0 : Option Addr) (len0 cap0 : Nat) (a1 : Option Addr) (len1 cap1 : Nat) (z1 : List Int) (a2 : Int) (a3 : Int) (a4 : Option Addr) (len4 cap4 : Nat) (w : World) (w0 : IsRows w a0 len0 cap0 [.one (.int .i64), .one (.int .i64), .recs [.int .i64, .int .i64, .int .i64], .recs [.int .i64, .int .i64, .int .i64]]) (w1 : IsRow .i64 w a1 len1 cap1 z1) (w2 : (Lit.int .i64 a2).wf = true) (w3 : (Lit.int .u64 a3).wf = true) (w4 : IsRecs w a4 len4 cap4 [.bool, .int .i64]) (hn : Go.Proofs.YtofcjkfaccdnjaaDoor.Flt.Names w) :
    Calls Tryd.prog 3 #[.slice a0 len0 cap0, .slice a1 len1 cap1, .int .i64 a2, .int .u64 a3, .slice a4 len4 cap4] w fun e w' => e = .returned (.bool true) ∧ Below w.heap.size w w' := by
  obtain ⟨l, hln, hsc, hwd, hlm⟩ := scheds_of w0
  obtain ⟨hzl, hints, hilm⟩ := ints_in w1
  obtain ⟨ids, hids⟩ : ∃ ids, z1.take len1 = ids := ⟨_, rfl⟩
  rw [hids] at hzl hints
  have HFW := Lib.hid (few_any a0 cap0 len0 l a1 len1 cap1 ids w hsc hwd hln hlm hints hzl (by rw [hzl]; exact hilm))
  have HSC := Lib.hid hsc
  have HWD := Lib.hid hwd
  have HLN := Lib.hid hln
  have HINT := Lib.hid hints
  have HNM := Lib.hid hn
  obtain ⟨ops, holn, hops, hopw, holm⟩ := ops_of w4
  have HOLN := Lib.hid holn
  have HOPS := Lib.hid hops
  have HOPW := Lib.hid hopw
  have ho64 : len4 ≤ 9223372036854775807 := holm
  have HFI : Hid (I64 a2) := bounds_i64 w2
  have b3 := bounds_u64 w3
  obtain ⟨ep, hep⟩ : ∃ m : Nat, a3 = (m : Int) := ⟨a3.toNat, by omega⟩
  subst hep
  have HEP : Hid (ep ≤ 18446744073709551615) := by show _ ≤ _; omega
  have hl64 : len0 ≤ 9223372036854775807 := hlm
  clear w0 w1 w2 w3 w4 holn hops hopw holm hsc hwd hln hints hzl hids hn hilm hlm b3
  go_enter Tryd.func3, Tryd.ntmps3
  go_wp2_with fail
  refine HFW.out.mono ?_
  rintro e w1 ⟨b, rfl, hb, hb1⟩
  have HB1 := Lib.hid hb1
  clear hb1 HFW
  cases b with
  | false =>
    go_wp2_with (go_at_call 7; refine (awake18 _ (HNM.out.kept HB1.out)).mono ?_; rintro e w' ⟨rfl, hb⟩; have HBF := Lib.hid (HB1.out.trans (hb.mono HB1.out.size)); clear hb)
    go_ret
    exact ⟨rfl, HBF.out⟩
  | true =>
    have HFEW := Lib.hid (hb rfl)
    have h8 : Hid (len0 ≤ 8) := by have := HFEW.out.l8; rw [HLN.out] at this; exact this
    clear hb
    by_cases h300 : 300 < len4
    · have t0 : decide ((300 : Int) < (len4 : Int)) = true := decide_eq_true (by omega)
      clear h300
      go_wp2_with (go_at_call 7; refine (awake18 _ (HNM.out.kept HB1.out)).mono ?_; rintro e w' ⟨rfl, hb⟩; have HBF := Lib.hid (HB1.out.trans (hb.mono HB1.out.size)); clear hb)
      go_ret
      exact ⟨rfl, HBF.out⟩
    have t0 : decide ((300 : Int) < (len4 : Int)) = false := decide_eq_false (by omega)
    have H300 : Hid (len4 ≤ 300) := by show _ ≤ _; omega
    have HTB := Lib.hid (tables_any a0 cap0 len0 l a1 len1 cap1 ids w1 (HNM.out.kept HB1.out) (HSC.out.kept HB1.out) HWD.out HLN.out ((HINT.out.below HB1.out).mono HB1.out.size) HFEW.out)
    clear h300
    go_wp2_with fail
    refine HTB.out.mono ?_
    rintro e w2 ⟨V, Ts, rfl, htr⟩
    have HB2 := Lib.hid (HB1.out.trans (htr.below.mono HB1.out.size))
    have HNW := Lib.hid (new_nc htr (by rw [HLN.out]; have := h8.out; omega) a2 ep HFI.out HEP.out)
    have HLK : Hid (∀ W, Below w.heap.size w W → LK W a0 len0 l ids Ts) := fun W b => ⟨HSC.out.kept b, HLN.out, h8.out, htr.len, htr.like, HFEW.out.all⟩
    have HUB : Hid (Uniq Ts Ts.length ↔ UniqL l l.length) := ⟨uniq_back htr.len htr.like, uniq_of htr.len htr.like⟩
    obtain ⟨AT, cT, hV, _⟩ := htr.ptrs_at
    rw [HLN.out] at hV
    subst hV
    clear htr HTB t0 HB1
    go_wp2_with fail
    refine HNW.out.mono ?_
    rintro e w3 ⟨P, K, rfl, hnc, hb3⟩
    have HB3 := Lib.hid (HB2.out.trans (hb3.mono HB2.out.size))
    have HNC := Lib.hid hnc
    have HBB : Hid (w.heap.size ≤ w2.heap.size) := HB2.out.size
    obtain ⟨Bn, hBn⟩ : ∃ b, w2.heap.size = b := ⟨_, rfl⟩
    rw [hBn] at HBB
    have HG := Lib.hid (get_nc (HLK.out w3 HB3.out) cap0 a2)
    have HBN := Lib.hid hBn
    clear hnc hb3 HNW hBn
    go_wp2_with fail
    refine HG.out.mono ?_
    rintro e w4 ⟨gi, gf, gB, gnb, gcb, gC, gnc, gcc, rfl, hb4⟩
    obtain ⟨has, hhas⟩ : ∃ b, (pick Ts a2).isSome = b := ⟨_, rfl⟩
    rw [hhas]
    have HHAS := Lib.hid hhas
    have hb5 : Below w4.heap.size w4 (w4.alloc (.cells #[.int .i64 gi, .int .i64 gf, .slice gB gnb gcb, .slice gC gnc gcc] 37)) := (Below.refl _ _).alloc (Nat.le_refl _) _
    have HB35 := Lib.hid (hb4.trans (hb5.mono hb4.size))
    clear hb4 hb5 HG hhas
    go_wp2_with fail
    obtain ⟨W0, hW0⟩ : ∃ W, w4.alloc (.cells #[.int .i64 gi, .int .i64 gf, .slice gB gnb gcb, .slice gC gnc gcc] 37) = W := ⟨_, rfl⟩
    rw [hW0] at HB35 ⊢
    clear hW0
    have HB0 := Lib.hid (HB3.out.trans (HB35.out.mono HB3.out.size))
    go_loopw [67, 16] (fun i tw wr => ∃ (k : Nat) (b : Bool), k ≤ len0 ∧ i = .int .i64 (k : Int) ∧ tw = .bool b ∧ (b = false ↔ UniqL l k) ∧ Below W0.heap.size W0 wr) (fun i _ _ => len0 - (intOf i).toNat)
    case atStart => exact ⟨0, false, Nat.zero_le _, rfl, rfl, ⟨fun _ i j x y h1 h2 => by omega, fun _ => rfl⟩, Below.refl _ _⟩
    case round =>
      obtain ⟨k, b, hk, rfl, rfl, hun, hbel⟩ := hrel
      have HUN := Lib.hid hun
      have HB := Lib.hid hbel
      clear hun hbel
      obtain ⟨wo, hwo⟩ : ∃ wo, wo = wr := ⟨_, rfl⟩
      rw [← hwo] at HB ⊢
      clear hwo
      by_cases hlt : k < len0
      · have hki : (0 : Int) ≤ k := by omega
        have hkb : (k : Int) < len0 := by omega
        have hk1 : IntKind.i64.wrap ((k : Int) + 1) = (k : Int) + 1 := IntWalk.i64_in _ (by omega)
        obtain ⟨x, hx⟩ : ∃ x, l[k]? = some x := ⟨_, List.getElem?_eq_getElem (by rw [HLN.out]; exact hlt)⟩
        have HX := Lib.hid hx
        obtain ⟨y, _, _, _, _, rfl, _⟩ := HSC.out k x hx
        clear hx
        go_wp2_with fail
        go_loopw [71, 16] (fun m tw wr => ∃ (j : Nat) (b : Bool), j ≤ k ∧ m = .int .i64 (j : Int) ∧ tw = .bool b ∧ (b = false ↔ (UniqL l k ∧ ∀ (i : Nat) (z : SC), i < j → l[i]? = some z → z.id ≠ x.id)) ∧ Below W0.heap.size W0 wr) (fun m _ _ => k - (intOf m).toNat)
        case atStart => exact ⟨0, b, Nat.zero_le _, rfl, rfl, ⟨fun h => ⟨HUN.out.1 h, fun i z h => by omega⟩, fun h => HUN.out.2 h.1⟩, HB.out⟩
        case round =>
          obtain ⟨j, b, hj, rfl, rfl, hne, hbel⟩ := hrel
          have HNE := Lib.hid hne
          have HBJ := Lib.hid hbel
          have HBW := Lib.hid (HB0.out.trans (hbel.mono HB0.out.size))
          clear hne hbel
          by_cases hlj : j < k
          · obtain ⟨z, hz⟩ : ∃ z, l[j]? = some z := ⟨_, List.getElem?_eq_getElem (by rw [HLN.out]; omega)⟩
            have HZ := Lib.hid hz
            have cz := sc_id (HSC.out.kept HBW.out) hz
            have cx := sc_id (HSC.out.kept HBW.out) HX.out
            have hji : (0 : Int) ≤ j := by omega
            have hjb : (j : Int) < k := by omega
            have hjl : (j : Int) < len0 := by omega
            have hj1 : IntKind.i64.wrap ((j : Int) + 1) = (j : Int) + 1 := IntWalk.i64_in _ (by omega)
            obtain ⟨q, hq⟩ : ∃ q, (x.id == z.id) = q := ⟨_, rfl⟩
            have HR : Hid ((b || q) = false ↔ (UniqL l k ∧ ∀ (i : Nat) (z : SC), i < j + 1 → l[i]? = some z → z.id ≠ x.id)) := by
              show _ ↔ _
              rw [Bool.or_eq_false_iff, HNE.out]
              constructor
              · rintro ⟨⟨h1, h2⟩, h3⟩
                refine ⟨h1, fun i v hi hv => ?_⟩
                by_cases hij : i = j
                · subst hij
                  rw [HZ.out] at hv
                  obtain rfl := Option.some.inj hv
                  rw [h3] at hq
                  intro e
                  rw [e] at hq
                  simp at hq
                · exact h2 i v (by omega) hv
              · rintro ⟨h1, h2⟩
                refine ⟨⟨h1, fun i v hi hv => h2 i v (by omega) hv⟩, ?_⟩
                have := h2 j z (by omega) HZ.out
                rw [← hq]
                simp
                exact fun e => this e.symm
            clear hz
            cases b with
            | true =>
              clear hq
              go_wp2
              go_quiet (fail)
              have HBQ := Lib.hid (below_drewN HBJ.out nq)
              go_wp2
              go_roundw
              case rel => exact ⟨j + 1, true, by omega, by go_num, rfl, by have := HR.out; simpa using this, HBQ.out⟩
              case measure => simp [intOf]; omega
            | false =>
              cases q with
              | true =>
                go_wp2
                go_quiet (fail)
                have HBQ := Lib.hid (below_drewN HBJ.out nq)
                go_wp2
                go_roundw
                case rel => exact ⟨j + 1, true, by omega, by go_num, rfl, by have := HR.out; simpa using this, HBQ.out⟩
                case measure => simp [intOf]; omega
              | false =>
                go_wp2
                go_quiet (fail)
                have HBQ := Lib.hid (below_drewN HBJ.out nq)
                go_wp2
                go_roundw
                case rel => exact ⟨j + 1, false, by omega, by go_num, rfl, by have := HR.out; simpa using this, HBQ.out⟩
                case measure => simp [intOf]; omega
          · obtain rfl : j = k := by omega
            have HR : Hid (b = false ↔ UniqL l (j + 1)) := by
              show _ ↔ _
              rw [HNE.out]
              constructor
              · rintro ⟨h1, h2⟩ i m u v h3 h4 h5 h6
                by_cases hm : m = j
                · subst hm
                  rw [HX.out] at h6
                  obtain rfl := Option.some.inj h6
                  exact h2 i u h3 h5
                · exact h1 i m u v h3 (by omega) h5 h6
              · intro h
                exact ⟨fun i m u v h3 h4 h5 h6 => h i m u v h3 (by omega) h5 h6, fun i z hi hz => h i j z x hi (by omega) hz HX.out⟩
            go_wp2
            go_roundw
            case rel => exact ⟨j + 1, b, by omega, by go_num, rfl, HR.out, HBJ.out⟩
            case measure => simp [intOf]; omega
      · obtain rfl : k = len0 := by omega
        have HBW := Lib.hid (HB0.out.trans (HB.out.mono HB0.out.size))
        have HNC2 : Hid (∀ T q mb ck cu, IsE w3 Bn q mb ck cu Ts T 0 a2 ep 0 → IsE wo Bn q mb ck cu Ts T 0 a2 ep 0) := fun T q mb ck cu h => h.keep (HB35.out.trans (HB.out.mono HB35.out.size))
        have HUU : Hid (b = false ↔ Uniq Ts Ts.length) := by
          show _ ↔ _
          rw [HUN.out, HUB.out, HLN.out]
        have hnc := HNC.out
        unfold NC at hnc
        rw [HBN.out] at hnc
        clear HNC HUN HUB HBN hlt hk
        cases b with
        | true =>
          rcases hnc with ⟨h1, rfl, rfl⟩ | ⟨h1, _⟩ | ⟨h1, _⟩
          · clear h1
            go_wp2_with (go_at_call 7; refine (awake18 _ (HNM.out.kept HBW.out)).mono ?_; rintro e w' ⟨rfl, hb⟩; have HBF := Lib.hid (HBW.out.trans (hb.mono HBW.out.size)); clear hb)
            go_ret
            exact ⟨rfl, HBF.out⟩
          · have := HUU.out.2 h1; cases this
          · have := HUU.out.2 h1; cases this
        | false =>
          have hu := HUU.out.1 rfl
          rcases hnc with ⟨h1, _⟩ | ⟨_, hp, rfl, rfl⟩ | ⟨_, T, q, mb, ck, cu, hp, rfl, rfl, hE⟩
          · exact absurd hu h1
          · have hh := HHAS.out
            rw [hp] at hh
            subst hh
            clear hu hp
            go_wp2_with (go_at_call 7; refine (awake18 _ (HNM.out.kept HBW.out)).mono ?_; rintro e w' ⟨rfl, hb⟩; have HBF := Lib.hid (HBW.out.trans (hb.mono HBW.out.size)); clear hb)
            go_ret
            exact ⟨rfl, HBF.out⟩
          · have hh := HHAS.out
            rw [hp] at hh
            subst hh
            have HE := Lib.hid (HNC2.out T q mb ck cu hE)
            have HP := Lib.hid hp
            clear hu hp hE HNC2 HUU
            obtain ⟨XB, hXB⟩ : ∃ b, wo.heap.size = b := ⟨_, rfl⟩
            have hb9 : Below wo.heap.size wo (wo.alloc (.cells #[.slice a0 k cap0, .int .i64 a2, .int .i64 a2, .int .i64 0, .int .u64 (ep : Int), .int .u64 0] 41)) := (Below.refl _ _).alloc (Nat.le_refl _) _
            have hlt := HE.out.lt
            have hBB := HE.out.hB
            have hbx := heap_alloc_new wo (.cells #[.slice a0 k cap0, .int .i64 a2, .int .i64 a2, .int .i64 0, .int .u64 (ep : Int), .int .u64 0] 41)
            rw [hXB] at hbx hlt
            have hid : T.id = a2 := (pick_mem HP.out).2
            have HF0 : Hid (FP w (wo.alloc (.cells #[.slice a0 k cap0, .int .i64 a2, .int .i64 a2, .int .i64 0, .int .u64 (ep : Int), .int .u64 0] 41)) Bn q mb ck cu XB Ts T 0 a2 ep 0 #[.slice a0 k cap0, .int .i64 T.id, .int .i64 a2, .int .i64 ((0 : Nat) : Int), .int .u64 (ep : Int), .int .u64 ((0 : Nat) : Int)]) :=
              ⟨HE.out.keep hb9, by rw [hid]; exact HP.out, by rw [hid]; exact hbx, by omega, HBB.out, HBW.out.trans (hb9.mono HBW.out.size)⟩
            clear hb9 hlt hBB hbx hid HE HP HHAS
            have hpn : ∀ W : World, (binOp BinOp.eql 30 (.pointer (some ⟨q, 0, none⟩)) (.pointer none)).run Tryd.prog W = .ok (.bool false) W := fun W => by rfl
            go_wp2_with fail
            go_loopw [124] (fun i wr => ∃ (u : Nat) (T : TR) (t : Nat) (due : Int) (now fm cu : Nat), u ≤ len4 ∧ i = .int .i64 (u : Int) ∧ FP w wr Bn q mb ck cu XB Ts T t due now fm #[.slice a0 k cap0, .int .i64 T.id, .int .i64 due, .int .i64 (t : Int), .int .u64 (now : Int), .int .u64 (fm : Int)]) (fun i _ => len4 - (intOf i).toNat)
            case atStart => exact ⟨0, T, 0, a2, ep, 0, cu, Nat.zero_le _, rfl, HF0.out⟩
            case round =>
              clear HF0
              obtain ⟨j, T, t, due, now, fm, cu, hj, rfl, hfp⟩ := hrel
              have HFP := Lib.hid hfp
              clear hfp
              by_cases hlt : j < len4
              · have hji : (0 : Int) ≤ j := by omega
                have hjb : (j : Int) < len4 := by omega
                have hj1 : IntKind.i64.wrap ((j : Int) + 1) = (j : Int) + 1 := IntWalk.i64_in _ (by omega)
                obtain ⟨o, ho⟩ : ∃ o, ops[j]? = some o := ⟨_, List.getElem?_eq_getElem (by rw [HOLN.out]; exact hlt)⟩
                have HOW := Lib.hid (HOPW.out o (List.mem_of_getElem? ho))
                obtain ⟨yo, rfl, d0, d1⟩ := (HOPS.out.kept HFP.out.below) j o ho
                obtain ⟨mk, oid⟩ := o
                dsimp only at d0 d1 HOW
                clear ho
                have hb8 : Below wr.heap.size wr (wr.alloc (.cells #[.bool mk, .int .i64 oid] 43)) := (Below.refl _ _).alloc (Nat.le_refl _) _
                have hop := heap_alloc_new wr (.cells #[.bool mk, .int .i64 oid] 43)
                have HF8 := Lib.hid (HFP.out.keep hb8)
                obtain ⟨ob, hob⟩ : ∃ b, wr.heap.size = b := ⟨_, rfl⟩
                have HXO : Hid (ob ≠ XB) := by have := lt_of_block HFP.out.box; show _ ≠ _; omega
                rw [hob] at hop
                have HOP := Lib.hid hop
                have HOBE := Lib.hid hob
                clear hb8 hop HFP hob
                have c0 := cell_of_row _ _ 0 _ _ _ HF8.out.box
                have c1 := cell_of_row _ _ 1 _ _ _ HF8.out.box
                have c2 := cell_of_row _ _ 2 _ _ _ HF8.out.box
                have c3 := cell_of_row _ _ 3 _ _ _ HF8.out.box
                have c4 := cell_of_row _ _ 4 _ _ _ HF8.out.box
                have c5 := cell_of_row _ _ 5 _ _ _ HF8.out.box
                simp only [List.getElem?_toArray, List.getElem?_cons_zero, List.getElem?_cons_succ] at c0 c1 c2 c3 c4 c5
                cases mk with
                | true =>
                  obtain ⟨ms, hms⟩ : ∃ b, (pick Ts oid).isSome = b := ⟨_, rfl⟩
                  have HMK := Lib.hid (rmake_det (cap := cap0) (HLK.out _ HF8.out.below) T.id due (t : Int) (now : Int) (fm : Int) oid)
                  have HEM : Hid (∀ W cs, FP w W Bn q mb ck cu XB Ts T t due now fm cs → _) := fun W cs f => emake_any f.eng oid HOW.out
                  rw [hms] at HMK HEM
                  obtain ⟨due', hd'⟩ : ∃ d, (if ms = true then oid else due) = d := ⟨_, rfl⟩
                  rw [hd'] at HMK HEM
                  clear hms hd'
                  go_wp2_with fail
                  refine HMK.out.mono ?_
                  rintro e w9 ⟨rfl, hb9⟩
                  have hrow := heap_alloc_new w9 (.cells #[.slice a0 k cap0, .int .i64 T.id, .int .i64 due', .int .i64 (t : Int), .int .u64 (now : Int), .int .u64 (fm : Int)] 41)
                  have hb10 : Below w9.heap.size w9 (w9.alloc (.cells #[.slice a0 k cap0, .int .i64 T.id, .int .i64 due', .int .i64 (t : Int), .int .u64 (now : Int), .int .u64 (fm : Int)] 41)) := (Below.refl _ _).alloc (Nat.le_refl _) _
                  have HF10 := Lib.hid ((HF8.out.keep hb9).keep hb10)
                  have HF11 := Lib.hid (HF10.out.put #[.slice a0 k cap0, .int .i64 T.id, .int .i64 due', .int .i64 (t : Int), .int .u64 (now : Int), .int .u64 (fm : Int)])
                  have HOP2 : Hid (((w9.alloc (.cells #[.slice a0 k cap0, .int .i64 T.id, .int .i64 due', .int .i64 (t : Int), .int .u64 (now : Int), .int .u64 (fm : Int)] 41)).setRow XB #[.slice a0 k cap0, .int .i64 T.id, .int .i64 due', .int .i64 (t : Int), .int .u64 (now : Int), .int .u64 (fm : Int)]).heap[ob]? = some (.cells #[.bool true, .int .i64 oid] 43 (0, 0))) := by
                    have h9 := (hb9.block _ (lt_of_block HOP.out)).trans HOP.out
                    have h10 := (hb10.block _ (lt_of_block h9)).trans h9
                    exact (setRow_other _ XB ob _ HXO.out).trans h10
                  clear c0 c1 c2 c3 c4 c5 hb9 hb10 HMK HOP HF8 d0 d1
                  have d0 := cell_of_row _ _ 0 _ _ _ hrow
                  have d1 := cell_of_row _ _ 1 _ _ _ hrow
                  have d2 := cell_of_row _ _ 2 _ _ _ hrow
                  have d3 := cell_of_row _ _ 3 _ _ _ hrow
                  have d4 := cell_of_row _ _ 4 _ _ _ hrow
                  have d5 := cell_of_row _ _ 5 _ _ _ hrow
                  simp only [List.getElem?_toArray, List.getElem?_cons_zero, List.getElem?_cons_succ] at d0 d1 d2 d3 d4 d5
                  have HSIZ := Lib.hid size_en
                  have HONE := Lib.hid (one_en a0 k cap0 T.id due' (t : Int) (now : Int) (fm : Int))
                  unfold engC at HONE
                  clear hrow
                  have o1 := cell_of_row _ _ 1 _ _ _ HOP2.out
                  simp only [List.getElem?_toArray, List.getElem?_cons_zero, List.getElem?_cons_succ] at o1
                  rw [← HOBE.out] at o1
                  go_wp2_with (first
                    | ((with_reducible show wpList _ _ _ _ _ _); refine wpList_store_row rfl 41 (.tmp 19) (.tmp 137) rfl XB #[.slice a0 k cap0, .int .i64 T.id, .int .i64 due', .int .i64 (t : Int), .int .u64 (now : Int), .int .u64 (fm : Int)] rfl rfl 41 #[.slice a0 k cap0, .int .i64 T.id, .int .i64 due, .int .i64 (t : Int), .int .u64 (now : Int), .int .u64 (fm : Int)] HF10.out.box (by rw [HSIZ.out]; rfl) rfl HONE.out ?_))
                  refine (HEM.out _ _ HF11.out).mono ?_
                  rintro e w12 ⟨rfl, he12, ho12⟩
                  have HF12 := Lib.hid (HF11.out.step HF11.out.pk he12 ho12 (.inl rfl))
                  have HSM := Lib.hid (same18_any HF12.out.eng (HLK.out _ HF12.out.below) HF12.out.pk cap0)
                  unfold engC at HSM
                  clear he12 ho12 d0 d1 d2 d3 d4 d5 o1
                  obtain ⟨c0, c1, c2, c3, c4, c5⟩ := fp_cells HF12.out
                  go_wp2_with fail
                  refine HSM.out.mono ?_
                  rintro e w13 ⟨rfl, hb13⟩
                  have HF13 := Lib.hid (HF12.out.keep hb13)
                  clear hb13 c0 c1 c2 c3 c4 c5
                  go_wp2
                  go_roundw
                  case rel => exact ⟨_, _, _, _, _, _, _, _, _, _, _, .int .i64 ((j : Int) + 1), _, _, _, _, _, _, _, _, _, _, _, _, _, _, _, _, _, _, _, _, _, _, _, _, _, _, _, _, _, _, _, _, _, _, _, _, _, _, _, _, _, _, _, _, _, _, _, _, _, _, _, ⟨j + 1, T, t, due', now, fm, cu, by omega, by first | rfl | go_num, HF13.out⟩, rfl⟩
                  case measure => simp [intOf]; omega
                | false =>
                  obtain ⟨T', t', now', fm', ow, bd, okk, hk⟩ := tk_some HF8.out.eng
                  have HTK := Lib.hid hk
                  have htl := HF8.out.eng.tick_lt
                  have HRT := Lib.hid (rtick_det (cap := cap0) (HLK.out _ HF8.out.below) HF8.out.pk htl.1 ((HLK.out _ HF8.out.below).fr60 HF8.out.eng.mem) HF8.out.eng.tm.2 HF8.out.eng.tm.1 hk)
                  clear hk htl
                  go_wp2_with fail
                  refine HRT.out.mono ?_
                  rintro e w9 ⟨rfl, hb9⟩
                  have hrow := heap_alloc_new w9 (.cells #[.slice a0 k cap0, .int .i64 T'.id, .int .i64 due, .int .i64 (t' : Int), .int .u64 (now' : Int), .int .u64 (fm' : Int)] 41)
                  have hb10 : Below w9.heap.size w9 (w9.alloc (.cells #[.slice a0 k cap0, .int .i64 T'.id, .int .i64 due, .int .i64 (t' : Int), .int .u64 (now' : Int), .int .u64 (fm' : Int)] 41)) := (Below.refl _ _).alloc (Nat.le_refl _) _
                  have HF10 := Lib.hid ((HF8.out.keep hb9).keep hb10)
                  have HF11 := Lib.hid (HF10.out.put #[.slice a0 k cap0, .int .i64 T'.id, .int .i64 due, .int .i64 (t' : Int), .int .u64 (now' : Int), .int .u64 (fm' : Int)])
                  clear c0 c1 c2 c3 c4 c5 hb9 hb10 HRT HOP HF8 d0 d1
                  have d0 := cell_of_row _ _ 0 _ _ _ hrow
                  have d1 := cell_of_row _ _ 1 _ _ _ hrow
                  have d2 := cell_of_row _ _ 2 _ _ _ hrow
                  have d3 := cell_of_row _ _ 3 _ _ _ hrow
                  have d4 := cell_of_row _ _ 4 _ _ _ hrow
                  have d5 := cell_of_row _ _ 5 _ _ _ hrow
                  simp only [List.getElem?_toArray, List.getElem?_cons_zero, List.getElem?_cons_succ] at d0 d1 d2 d3 d4 d5
                  have HSIZ := Lib.hid size_en
                  have HONE := Lib.hid (one_en a0 k cap0 T'.id due (t' : Int) (now' : Int) (fm' : Int))
                  unfold engC at HONE
                  clear hrow
                  go_wp2_with (first
                    | ((with_reducible show wpList _ _ _ _ _ _); refine wpList_store_row rfl 41 (.tmp 19) (.tmp 151) rfl XB #[.slice a0 k cap0, .int .i64 T'.id, .int .i64 due, .int .i64 (t' : Int), .int .u64 (now' : Int), .int .u64 (fm' : Int)] rfl rfl 41 #[.slice a0 k cap0, .int .i64 T.id, .int .i64 due, .int .i64 (t : Int), .int .u64 (now : Int), .int .u64 (fm : Int)] HF10.out.box (by rw [HSIZ.out]; rfl) rfl HONE.out ?_))
                  refine (etick_det HF11.out.eng HTK.out).mono ?_
                  rintro e w12 ⟨rfl, cu', hcu, he12, ho12⟩
                  have HF12 := Lib.hid (HF11.out.step (tk_pick HTK.out HF11.out.pk) he12 ho12 hcu)
                  have HSM := Lib.hid (same18_any HF12.out.eng (HLK.out _ HF12.out.below) HF12.out.pk cap0)
                  unfold engC at HSM
                  clear he12 ho12 hcu d0 d1 d2 d3 d4 d5
                  obtain ⟨c0, c1, c2, c3, c4, c5⟩ := fp_cells HF12.out
                  go_wp2_with fail
                  refine HSM.out.mono ?_
                  rintro e w13 ⟨rfl, hb13⟩
                  have HF13 := Lib.hid (HF12.out.keep hb13)
                  clear hb13 c0 c1 c2 c3 c4 c5
                  go_wp2
                  go_roundw
                  case rel => exact ⟨_, _, _, _, _, _, _, _, _, _, _, .int .i64 ((j : Int) + 1), _, _, _, _, _, _, _, _, _, _, _, _, _, _, _, _, _, _, _, _, _, _, _, _, _, _, _, _, _, _, _, _, _, _, _, _, _, _, _, _, _, _, _, _, _, _, _, _, _, _, _, ⟨j + 1, T', t', due, now', fm', cu', by omega, by first | rfl | go_num, HF13.out⟩, rfl⟩
                  case measure => simp [intOf]; omega
              · obtain rfl : j = len4 := by omega
                have HCP := Lib.hid (ecopy_any HFP.out.eng)
                have hcn : ∀ (g : Nat) (W : World), (binOp BinOp.eql 30 (.pointer (some ⟨g, 0, none⟩)) (.pointer none)).run Tryd.prog W = .ok (.bool false) W := fun g W => by rfl
                clear hlt
                go_wp2_with fail
                refine HCP.out.mono ?_
                rintro e w5 ⟨qn, ck', cu', rfl, hq1, hq2, hq3, hE5, hb5⟩
                have HF5 := Lib.hid (HFP.out.keep hb5)
                have HB5 := Lib.hid hb5
                have HE5 := Lib.hid hE5
                have HQ := Lib.hid (And.intro hq1 (And.intro hq2 hq3))
                have HSM := Lib.hid (same18_any hE5 (HLK.out _ HF5.out.below) HFP.out.pk cap0)
                unfold engC at HSM
                obtain ⟨c0, c1, c2, c3, c4, c5⟩ := fp_cells HF5.out
                clear hq1 hq2 hq3 hE5 hb5 HCP
                go_wp2_with fail
                refine HSM.out.mono ?_
                rintro e w6 ⟨rfl, hb6⟩
                have HE6 := Lib.hid (HE5.out.keep hb6)
                have HB6 := Lib.hid (HB5.out.trans (hb6.mono HB5.out.size))
                clear hb6 c0 c1 c2 c3 c4 c5 HSM
                obtain ⟨T', t', now', fm', ow, bd, okk, hk⟩ := tk_some HE6.out
                have HTI := Lib.hid (etick_det HE6.out hk)
                clear hk
                go_wp2_with fail
                refine HTI.out.mono ?_
                rintro e w7 ⟨rfl, cu2, hcu, he7, ho7⟩
                have hq := HQ.out
                have HB7 := Lib.hid (HB6.out.trans (ho7.below hq.1 hq.2.1 hq.2.2 HB6.out.size))
                have HF8 := Lib.hid ((HFP.out.keep HB7.out).keep ((Below.refl w7.heap.size w7).alloc (Nat.le_refl _) (.cells #[.pointer none] 63)))
                have HNN := Lib.hid (enew_nil w7.heap.size 0 0 (w7.alloc (.cells #[.pointer none] 63)) (by rw [cell_of_row _ _ _ _ _ _ (heap_alloc_new w7 (.cells #[.pointer none] 63))]; rfl))
                clear hq hcu he7 ho7 HTI HE6 HB6 HE5 HB5 HF5
                go_wp2_with fail
                refine HNN.out.mono ?_
                rintro e w9 ⟨rfl, hb9⟩
                have HF9 := Lib.hid (HF8.out.keep hb9)
                have HSM := Lib.hid (same18_any HF9.out.eng (HLK.out _ HF9.out.below) HF9.out.pk cap0)
                unfold engC at HSM
                obtain ⟨c0, c1, c2, c3, c4, c5⟩ := fp_cells HF9.out
                clear hb9 HNN HF8
                go_wp2_with fail
                refine HSM.out.mono ?_
                rintro e w10 ⟨rfl, hb10⟩
                have HB10 := Lib.hid (HF9.out.below.trans (hb10.mono HF9.out.below.size))
                clear hb10 c0 c1 c2 c3 c4 c5
                go_wp2_with (go_at_call 7; refine (awake18 _ (HNM.out.kept HB10.out)).mono ?_; rintro e w' ⟨rfl, hb⟩; have HBF := Lib.hid (HB10.out.trans (hb.mono HB10.out.size)); clear hb)
                go_ret
                exact ⟨rfl, HBF.out⟩

end Go.Proofs.YtofcjkfaccdnjaaDoor.framePlays
