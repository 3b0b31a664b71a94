
/- The function ReaderReads returns true for every text and every list of calls. Condition: the package-level variables hold what the program lays in them (the card ties that). This text: the walk through the Go text; the row is in the text without the W at its name's end. -/

import Derived.Test.YtbjolbgjohggiaaDoorArgs

import Derived.Test.YtbjolbgjohggiaaDoorRdrI

import Derived.Test.YtbjolbgjohggiaaDoorArgsR

import Derived.Deep.RegionHeld3

import Derived.IntWalk

namespace Go.Proofs.YtbjolbgjohggiaaDoor.readerReads

open Go.RowKit Go.PlainAid Go.Proofs.YtbjolbgjohggiaaDoor.Args

set_option linter.unusedVariables false

open Go.Proofs.YtbjolbgjohggiaaDoor.Flt Go.Proofs.YtbjolbgjohggiaaDoor.Rdr

/-- What the rounds keep: the reader's block and the document's reader's row, and that nothing that was there has changed. -/
def QRel (s : ByteArray) (g C : Nat) (w : World) (n : Nat) (i : Value) (wr : World) : Prop :=
  ∃ (k : Nat) (t : St), k ≤ n ∧ i = .int .i64 k ∧ t.s = s ∧ Ok t ∧ IsRdr wr g t ∧ wr.heap[C]? = some (.cells (rdC t) 30 (0, 0)) ∧ Names wr ∧ Below w.heap.size w wr
theorem op_s (t : St) (K N E : Int) (B : Bool) : (opS t K N E B).s = t.s := by
  have hf : ∀ (t : St) (k a : Int), (failS t k a).s = t.s := by intro t k a; unfold failS; split <;> rfl
  have hn : ∀ n, (numS t n).s = t.s := by intro n; unfold numS; split; split; rfl; exact hf _ _ _; rfl
  have hx : (txtS t N).s = t.s := by unfold txtS; split; split; rfl; exact hf _ _ _; rfl
  unfold opS
  repeat' split
  all_goals first | rfl | exact hn _ | exact hx | exact hf _ _ _
/-- What is known behind a round's call: the rows, the reader, what is there. -/
structure RF (s : ByteArray) (g C : Nat) (t T : St) (w w2 : World) : Prop where
  row : (w2.alloc (.cells (rdC T) 30)).heap[C]? = some (.cells (rdC t) 30 (0, 0))
  rdr : IsRdr ((w2.alloc (.cells (rdC T) 30)).setRow C (rdC T)) g T
  names : Names ((w2.alloc (.cells (rdC T) 30)).setRow C (rdC T))
  bel : Below w.heap.size w ((w2.alloc (.cells (rdC T) 30)).setRow C (rdC T))
  now : ((w2.alloc (.cells (rdC T) 30)).setRow C (rdC T)).heap[C]? = some (.cells (rdC T) 30 (0, 0))
theorem rf_of {s : ByteArray} {g C : Nat} {t T : St} {w wr w2 : World} {op : Array Value} (hg : w.heap.size ≤ g) (hC0 : w.heap.size ≤ C) (hne : C ≠ g) (hr : IsRdr wr g t) (hC : wr.heap[C]? = some (.cells (rdC t) 30 (0, 0))) (hn : Names wr) (hb : Below w.heap.size w wr)
    (hr2 : IsRdr w2 g T) (j : Just g (wr.alloc (.cells op 32)) w2) : RF s g C t T w w2 := by
  have hba : Below wr.heap.size wr (wr.alloc (.cells op 32)) := (Below.refl _ _).alloc (Nat.le_refl _) _
  have hlt := hr.lt
  have hcl := lt_of_block hC
  have hr1 := hr.kept hba
  have hn1 := hn.kept hba
  have hb2 : Below w.heap.size w w2 := (hb.trans (hba.mono hb.size)).trans (j.below hg hr1.lt)
  have hC2 : w2.heap[C]? = some (.cells (rdC t) 30 (0, 0)) := by
    rw [j.block C (by simp; omega) hne, Below.heap_alloc _ _ _ hcl]; exact hC
  have hbb : Below w2.heap.size w2 (w2.alloc (.cells (rdC T) 30)) := (Below.refl _ _).alloc (Nat.le_refl _) _
  have hC3 : (w2.alloc (.cells (rdC T) 30)).heap[C]? = some (.cells (rdC t) 30 (0, 0)) := (Below.heap_alloc _ _ _ (lt_of_block hC2)).trans hC2
  have hn2 : Names (w2.alloc (.cells (rdC T) 30)) := (Rdr.Names.just hn1 hr1 j).kept hbb
  have hfar : ∀ k, k ≠ C → ((w2.alloc (.cells (rdC T) 30)).setRow C (rdC T)).heap[k]? = (w2.alloc (.cells (rdC T) 30)).heap[k]? := fun k hk => setRow_other _ _ _ _ hk
  refine ⟨hC3, (hr2.kept hbb).far (hfar g (Ne.symm hne)) ?_, ?_, below_setRow (hb2.trans (hbb.mono hb2.size)) hC0, setRow_heap _ _ _ _ _ _ hC3⟩
  · intro k cs hk
    refine hfar k ?_
    rintro rfl
    rw [hC3] at hk
    simp at hk
  · obtain ⟨u, hu⟩ := hn2
    refine ⟨u, (hfar _ ?_).trans hu⟩
    intro hk
    rw [hk, hC3] at hu
    simp only [Option.some.injEq, Obj.cells.injEq] at hu
    have := congrArg Array.size hu.1
    simp [rdC, nmCells_size] at this
theorem left_s {s : ByteArray} {g : Nat} {t : St} {w : World} (hs : t.s = s) (h : IsRdr w g t) (ho : Ok t) :
    Calls Tryd.prog 14 #[.pointer (some ⟨g, 0, none⟩)] w fun e w' => e = .returned (.int .i64 ((s.size : Int) - (t.p : Int))) ∧ ∃ n, w' = w.drewN n := by
  subst hs; exact left_int g t w h ho
set_option maxRecDepth 8000 in
set_option maxHeartbeats 1600000 in
theorem walk (a0 : ByteArray) (a1 : Option Addr) (len1 cap1 : Nat) (w : World) (w0 : a0.size ≤ maxLen) (w1 : IsRecs w a1 len1 cap1 [.int .i64, .int .i64, .int .i64, .bool]) (hn : Go.Proofs.YtbjolbgjohggiaaDoor.Flt.Names w) :
    Calls Tryd.prog 3 #[.string a0, .slice a1 len1 cap1] w fun e w' => e = .returned (.bool true) ∧ Below w.heap.size w w' := by
  have HN := Lib.hid hn
  clear hn
  by_cases hl : 300 < (a0.size : Int) ∨ 60 < (len1 : Int)
  · have hor : (decide (300 < (a0.size : Int)) = true) ∨ (decide (300 < (a0.size : Int)) = false ∧ decide (60 < (len1 : Int)) = true) := by
      by_cases h3 : 300 < (a0.size : Int)
      · exact .inl (decide_eq_true h3)
      · exact .inr ⟨decide_eq_false h3, decide_eq_true (by omega)⟩
    clear hl w0 w1
    rcases hor with t | ⟨t, t'⟩
    all_goals
      go_enter Tryd.func3, Tryd.ntmps3
      go_wp2_with fail
      refine (new_any a0 _).mono ?_
      rintro e w3 ⟨g, hg, rfl, hr3, hb3⟩
      have HB3 := Lib.hid hb3
      have HN3 := Lib.hid (HN.out.kept hb3)
      clear hr3 hb3
      go_wp2_with (go_at_call 10; refine (Go.Proofs.YtbjolbgjohggiaaDoor.Rdr.awake_any _ HN3.out).mono ?_; rintro e w' ⟨rfl, hb⟩)
      go_ret
      exact ⟨rfl, HB3.out.trans (hb.mono HB3.out.size)⟩
  · have t : decide (300 < (a0.size : Int)) = false := decide_eq_false (by omega)
    have t' : decide (60 < (len1 : Int)) = false := decide_eq_false (by omega)
    have hl60 : len1 ≤ 60 := by omega
    have HS : Hid (a0.size ≤ 300) := by show _ ≤ _; omega
    have HZ : Hid (∀ (j : Nat) (wr : World), j < len1 → Below w.heap.size w wr → ∃ x K N E B, a1 = some x ∧ wr.cell? (x.add (j * 4)) = some (.int .i64 K) ∧ wr.cell? ⟨(x.add (j * 4)).block, (x.add (j * 4)).off + 1, none⟩ = some (.int .i64 N) ∧ wr.cell? ⟨(x.add (j * 4)).block, (x.add (j * 4)).off + 2, none⟩ = some (.int .i64 E) ∧ wr.cell? ⟨(x.add (j * 4)).block, (x.add (j * 4)).off + 3, none⟩ = some (.bool B) ∧ -9223372036854775808 ≤ E ∧ E ≤ 9223372036854775807) := by
      intro j wr hj hb
      rcases w1 with ⟨_, h0, _⟩ | ⟨x, hx, hlc, hcm, hcell⟩
      · omega
      · obtain ⟨_, c0, K, rfl, _⟩ := hcell j hj 0 _ rfl
        obtain ⟨_, c1, N, rfl, _⟩ := hcell j hj 1 _ rfl
        obtain ⟨_, c2, E, rfl, hE⟩ := hcell j hj 2 _ rfl
        obtain ⟨_, c3, B, rfl⟩ := hcell j hj 3 _ rfl
        have hEb := bounds_i64 hE
        exact ⟨x, K, N, E, B, hx, (hb.cell (Go.block_lt_of_cell c0)).trans c0, (hb.cell (Go.block_lt_of_cell c1)).trans c1, (hb.cell (Go.block_lt_of_cell c2)).trans c2, (hb.cell (Go.block_lt_of_cell c3)).trans c3, hEb.1, hEb.2⟩
    clear w0 w1 hl
    go_enter Tryd.func3, Tryd.ntmps3
    go_wp2_with fail
    refine (new_any a0 _).mono ?_
    rintro e w3 ⟨g, hg, rfl, hr3, hb3⟩
    have hb0 : Below w3.heap.size w3 (w3.alloc (.cells (rdC ⟨a0, 0, 0, 0, 0, 0⟩) 30)) := (Below.refl _ _).alloc (Nat.le_refl _) _
    have hr4 := hr3.kept hb0
    have hn4 := (HN.out.kept hb3).kept hb0
    have hb4 := hb3.trans (hb0.mono hb3.size)
    have hgC : w3.heap.size ≠ g := by have := hr3.lt; omega
    have hwC : w.heap.size ≤ w3.heap.size := hb3.size
    clear hr3 hb3 hb0
    go_wp2_with fail
    go_loopw [34] (fun i wr => QRel a0 g w3.heap.size w len1 i wr) (fun i _ => len1 - (intOf i).toNat)
    case atStart => exact ⟨0, ⟨a0, 0, 0, 0, 0, 0⟩, Nat.zero_le _, rfl, rfl, ⟨Nat.zero_le _, by have := HS.out; show a0.size ≤ _; omega⟩, hr4, heap_alloc_new _ _, hn4, hb4⟩
    case round =>
      clear hr4 hn4 hb4
      generalize w3.heap.size = C at *
      obtain ⟨k, t, hk, rfl, hts, ho, hr, hC, hnr, hb⟩ := hrel
      have HR := Lib.hid hr
      have HCR := Lib.hid hC
      have HNR := Lib.hid hnr
      have HB := Lib.hid hb
      have HO := Lib.hid ho
      have HTS := Lib.hid hts
      have HGC := Lib.hid hgC
      clear hr hnr hb ho hts hgC
      by_cases hlt : k < len1
      · obtain ⟨x, K, N, E, B, rfl, hc0, hc1, hc2, hc3, hE0, hE1⟩ := HZ.out k wr hlt HB.out
        have HONE := Lib.hid (fun w hn hr => one_any g t K N E B w hn hr HO.out ⟨hE0, hE1⟩)
        have HOT := Lib.hid (ok_op HO.out K N E B)
        have HST : Hid ((opS t K N E B).s = a0) := (op_s t K N E B).trans HTS.out
        obtain ⟨T, hT⟩ : ∃ T, opS t K N E B = T := ⟨_, rfl⟩
        rw [hT] at HONE HOT HST
        have HC1 : Hid ((wr.alloc (.cells (opC K N E B) 32)).heap[C]? = some (.cells (rdC t) 30 (0, 0))) := (Below.heap_alloc _ _ _ (lt_of_block hC)).trans hC
        have HN1 : Hid (Names (wr.alloc (.cells (opC K N E B) 32))) := HNR.out.kept ((Below.refl _ _).alloc (Nat.le_refl _) _)
        have HR1 : Hid (IsRdr (wr.alloc (.cells (opC K N E B) 32)) g t) := HR.out.kept ((Below.refl _ _).alloc (Nat.le_refl _) _)
        have HRF : Hid (∀ w2, IsRdr w2 g T → Just g (wr.alloc (.cells (opC K N E B) 32)) w2 → RF a0 g C t T w w2) := fun w2 hr2 j => rf_of hg hwC HGC.out HR.out HCR.out HNR.out HB.out hr2 j
        have HKL : Hid (k < len1) := hlt
        have hkb : (k : Int) ≤ 60 := by omega
        have heq : ∀ wx : World, (Op.equalIn 10000 28 (.agg #[.int .i64 T.k, .int .i64 T.fs, .int .i64 T.fa]) (.agg #[.int .i64 T.k, .int .i64 T.fs, .int .i64 T.fa])).run Tryd.prog wx = .ok true wx := eq_flt T.k T.fs T.fa
        clear hT hC hk hE0 hE1
        dsimp only [opC] at HN1 HR1 HONE
        go_wp2_with (first
          | (go_at_call 11; refine (HONE.out _ HN1.out HR1.out).mono ?_; rintro e w2 ⟨rfl, hr2, hj2⟩; have HRW := Lib.hid (HRF.out w2 hr2 hj2); have HROW := Lib.hid HRW.out.row; clear hr2 hj2; dsimp only [rdC])
          | ((with_reducible show wpList _ _ _ _ _ _); refine wpList_load_row rfl 30 (.tmp 6) rfl C rfl 30 _ (0, 0) _ HC1.out Tryd.underlying30 rfl (by rw [size_rd]; rfl) ?_)
          | ((with_reducible show wpList _ _ _ _ _ _); refine wpList_store_row rfl 30 (.tmp 6) (.tmp 45) rfl C (rdC T) rfl rfl 30 (rdC t) HROW.out (by rw [size_rd]; rfl) rfl (one_rd _) ?_))
        have HR3 := Lib.hid HRW.out.rdr
        have HN3 := Lib.hid HRW.out.names
        have HB3 := Lib.hid HRW.out.bel
        have HC3 := Lib.hid HRW.out.now
        have hd := rd_cells HRW.out.now
        obtain ⟨d1, d3, d4, d5⟩ := hd
        change Code.wp _ _ _ _ ((w2.alloc (.cells (rdC T) 30)).setRow C (rdC T))
        generalize (w2.alloc (.cells (rdC T) 30)).setRow C (rdC T) = W at HR3 HN3 HB3 HC3 d1 d3 d4 d5 ⊢
        have hp1 : (T.p : Int) ≤ (a0.size : Int) := by have h1 := HOT.out.1; rw [HST.out] at h1; omega
        have hs3 : (a0.size : Int) ≤ 300 := by have := HS.out; omega
        have hws : IntKind.i64.wrap ((a0.size : Int) - (T.p : Int)) = (a0.size : Int) - (T.p : Int) := IntWalk.i64_in _ (by omega)
        have hwe : (((a0.size : Int) - (T.p : Int)) != ((a0.size : Int) - (T.p : Int))) = false := by simp
        clear HONE HRF HRW HROW HC1 HN1 HR1 hc0 hc1 hc2 hc3 HZ HCR
        by_cases hk0 : T.k = 0
        · have t1 : ((T.k : Int) != 0) = false := by simp; exact hk0
          have t2 : ((T.k : Int) == 0) = true := by simp; exact hk0
          have HK0 := Lib.hid hk0
          clear hk0
          go_region_held3 (fun w' => w'.cell? ⟨C, 1, none⟩ = some (.int .i64 T.p) ∧ w'.cell? ⟨C, 3, none⟩ = some (.int .i64 T.k) ∧ w'.cell? ⟨C, 4, none⟩ = some (.int .i64 T.fs) ∧ w'.cell? ⟨C, 5, none⟩ = some (.int .i64 T.fa)) (first | (go_keep; done) | fail)
            (first
              | (go_at_call 12; refine (fault_any g T _ (by exact HR3.out.drewN 1)).mono ?_; rintro e w5 ⟨rfl, hb5⟩; (try simp only [fltV]); have HR5 := Lib.hid ((HR3.out.drewN 1).kept hb5); have HN5 : Hid (Names w5) := ((names_drewN HN3.out 1).kept hb5); have HB5 : Hid (Below W.heap.size W w5) := (⟨hb5.os, hb5.tape, hb5.output, hb5.size, hb5.block⟩ : Below W.heap.size W w5); obtain ⟨e1, e3, e4, e5⟩ := rd_cells ((HB5.out.block _ (lt_of_block HC3.out)).trans HC3.out); clear hb5)
              | (go_at_call 13; refine (place_any g _ _ HR5.out).mono ?_; rintro e w' ⟨rfl, rfl⟩)
              | (go_at_call 14; refine (left_s HST.out HR5.out HOT.out).mono ?_; rintro e w' ⟨rfl, nl, rfl⟩)
              | (go_at_call 15; refine (err_ok g _ _ (HR5.out.drewN nl) HK0.out).mono ?_; rintro e w' ⟨rfl, rfl⟩))
          go_wp2
          go_roundw
          case rel => exact ⟨k + 1, T, HKL.out, by go_num, HST.out, HOT.out, HR5.out.drewN nl, (HB5.out.block _ (lt_of_block HC3.out)).trans HC3.out, names_drewN HN5.out nl, HB3.out.trans ((⟨HB5.out.os, HB5.out.tape, HB5.out.output, HB5.out.size, HB5.out.block⟩ : Below W.heap.size W (w5.drewN nl)).mono HB3.out.size)⟩
          case measure => have := HKL.out; simp [intOf]; omega
        · have t1 : ((T.k : Int) != 0) = true := by simp; exact hk0
          have t2 : ((T.k : Int) == 0) = false := by simp; exact hk0
          have HK0 := Lib.hid hk0
          clear hk0
          go_region_held3 (fun w' => w'.cell? ⟨C, 1, none⟩ = some (.int .i64 T.p) ∧ w'.cell? ⟨C, 3, none⟩ = some (.int .i64 T.k) ∧ w'.cell? ⟨C, 4, none⟩ = some (.int .i64 T.fs) ∧ w'.cell? ⟨C, 5, none⟩ = some (.int .i64 T.fa)) (first | (go_keep; done) | fail)
            (first
              | (go_at_call 12; refine (fault_any g T _ (by exact HR3.out.drewN 1)).mono ?_; rintro e w5 ⟨rfl, hb5⟩; (try simp only [fltV]); have HR5 := Lib.hid ((HR3.out.drewN 1).kept hb5); have HN5 : Hid (Names w5) := ((names_drewN HN3.out 1).kept hb5); have HB5 : Hid (Below W.heap.size W w5) := (⟨hb5.os, hb5.tape, hb5.output, hb5.size, hb5.block⟩ : Below W.heap.size W w5); obtain ⟨e1, e3, e4, e5⟩ := rd_cells ((HB5.out.block _ (lt_of_block HC3.out)).trans HC3.out); clear hb5)
              | (go_at_call 13; refine (place_any g _ _ HR5.out).mono ?_; rintro e w' ⟨rfl, rfl⟩)
              | (go_at_call 14; refine (left_s HST.out HR5.out HOT.out).mono ?_; rintro e w' ⟨rfl, nl, rfl⟩)
              | (go_at_call 15; refine (err_bad g _ _ (HR5.out.drewN nl) HK0.out).mono ?_; rintro e w' ⟨u, y, rfl, rfl⟩))
          go_wp2
          go_roundw
          case rel => exact ⟨k + 1, T, HKL.out, by go_num, HST.out, HOT.out, HR5.out.drewN nl, (HB5.out.block _ (lt_of_block HC3.out)).trans HC3.out, names_drewN HN5.out nl, HB3.out.trans ((⟨HB5.out.os, HB5.out.tape, HB5.out.output, HB5.out.size, HB5.out.block⟩ : Below W.heap.size W (w5.drewN nl)).mono HB3.out.size)⟩
          case measure => have := HKL.out; simp [intOf]; omega
      · obtain rfl : k = len1 := by omega
        clear hk hlt hC HZ
        go_wp2_with (go_at_call 10; refine (Go.Proofs.YtbjolbgjohggiaaDoor.Rdr.awake_any _ HNR.out).mono ?_; rintro e w' ⟨rfl, hb⟩)
        go_ret
        exact ⟨rfl, HB.out.trans (hb.mono HB.out.size)⟩

end Go.Proofs.YtbjolbgjohggiaaDoor.readerReads
