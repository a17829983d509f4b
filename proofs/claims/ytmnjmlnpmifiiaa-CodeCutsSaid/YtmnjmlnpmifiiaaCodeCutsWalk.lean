/-
  THE WALK OF CodeCuts: of what one call wrote no shorter beginning is read by that call; and behind the fault nothing is read any more.
-/
import Derived.Test.YtmnjmlnpmifiiaaWalkP
namespace Go.Proofs.Ytmnjmlnpmifiiaa.codeCuts
open Go.RowKit

theorem itB_pos (it : It) (h : 0 ≤ it.k ∧ it.k ≤ 6) : 0 < (itB it).length := by
  unfold itB
  split
  · rw [Cd.fixB_len]; omega
  split
  · rw [Cd.fixB_len]; omega
  split
  · rw [Cd.fixB_len]; omega
  split
  · rw [Cd.fixB_len]; omega
  split
  · exact Cd.vi_pos _
  split
  · exact Cd.vi_pos _
  split
  · unfold Cd.tx
    have := Cd.vi_pos (bs it.s).length
    rw [List.length_append]
    omega
  · omega

set_option maxRecDepth 100000 in
set_option maxHeartbeats 4000000 in
theorem walked (it : It) (cut : Int) (w : World) (hi : it.Ok) (hc1 : -9223372036854775808 ≤ cut) (hc2 : cut ≤ 9223372036854775807) :
    Calls Try.prog 7 #[it.agg, .int .i64 cut] w fun e w' => e = .returned (.bool true) ∧ Below w.heap.size w w' := by
  have hs1 := hi.s1
  have hk1 := hi.k1
  have hk2 := hi.k2
  have HI := Lib.hid hi
  clear hi
  unfold It.agg
  by_cases hbad : it.k < 0 ∨ 6 < it.k ∨ cut < 0 ∨ 65536 < it.s.size
  · have hways : it.k < 0 ∨ (0 ≤ it.k ∧ 6 < it.k) ∨ (0 ≤ it.k ∧ it.k ≤ 6 ∧ cut < 0) ∨ (0 ≤ it.k ∧ it.k ≤ 6 ∧ 0 ≤ cut ∧ 65536 < it.s.size) := by omega
    clear hbad
    rcases hways with h | ⟨h, h'⟩ | ⟨h, h', h''⟩ | ⟨h, h', h'', h'''⟩
    all_goals
      go_enter Try.func7, Try.ntmps7
      go_wp2_with (go_at_call 10; refine (alive_any _).mono ?_; rintro e w1 ⟨rfl, hb⟩)
      go_ret
      exact ⟨rfl, ((Below.refl _ _).alloc (Nat.le_refl _) _).trans (hb.mono (by simp))⟩
  · have hk : 0 ≤ it.k ∧ it.k ≤ 6 := by omega
    have hcut : 0 ≤ cut := by omega
    have hss : it.s.size ≤ 65536 := by omega
    obtain ⟨hk3, hk4⟩ := hk
    obtain ⟨q, rfl⟩ := Int.eq_ofNat_of_zero_le hcut
    have hpos := itB_pos it ⟨hk3, hk4⟩
    have hlen := itB_len it HI.out
    obtain ⟨L, hL⟩ : ∃ L, L = (itB it).length := ⟨_, rfl⟩
    rw [← hL] at hpos hlen
    have HL := Lib.hid hL
    obtain ⟨m, hm⟩ : ∃ m, m = q % L := ⟨_, rfl⟩
    have hmL : m < L := by rw [hm]; exact Nat.mod_lt _ hpos
    have hrem : (q : Int) % (L : Int) = (m : Int) := by rw [hm]; simp
    have hne : ((L : Int) == 0) = false := by simp; omega
    clear hbad hL hm hcut
    go_enter Try.func7, Try.ntmps7
    obtain ⟨w0, hw0⟩ : ∃ w0, w0 = w.alloc (.cells #[.int .i64 it.k, .int .u64 (it.x : Int), .string it.s, .int .i64 it.n] 31) := ⟨_, rfl⟩
    have HB0 := Lib.hid (show Blk w0 w.heap.size 31 #[.int .i64 it.k, .int .u64 (it.x : Int), .string it.s, .int .i64 it.n] from by rw [hw0]; exact Blk.new w 31 _)
    have hsz0 : w.heap.size < w0.heap.size := by rw [hw0]; simp
    have HBL0 := Lib.hid (show Below w.heap.size w w0 from by rw [hw0]; exact (Below.refl _ _).alloc (Nat.le_refl _) _)
    go_wp2_with fail
    rw [← hw0]
    clear hw0
    refine (newWriter_any w0).mono ?_
    rintro e w1 ⟨rfl, hw1, hb1⟩
    have hsz1 := hb1.size
    have HB1 := Lib.hid (HB0.out.below hb1 hsz0)
    have HBL1 := Lib.hid (HBL0.out.trans (hb1.mono (by omega)))
    have hC := write_any w1 _ _ true [] it HI.out (by omega) (by simp) hw1
    have HC := Lib.hid hC
    unfold It.agg at HC
    have c0 := HB1.out.cell 0
    have c1 := HB1.out.cell 1
    have c2 := HB1.out.cell 2
    have c3 := HB1.out.cell 3
    clear hw1 hb1 hC
    go_wp2_with fail
    clear c0 c1 c2 c3
    refine HC.out.mono ?_
    rintro e w2 ⟨A1, cc1, rfl, _, hw2, hf2⟩
    have hsz2 := hf2.size
    have HB2 := Lib.hid (HB1.out.keep hf2 (by omega))
    have HBL2 := Lib.hid (HBL1.out.trans (hf2.below (B := w.heap.size) (fun b hb => by omega) (by omega)))
    have hw2' : Wr w2 (Up (fun b => w0.heap.size ≤ b) w1) (some w0.heap.size) true (itB it) := hw2
    have HC2 := Lib.hid (wbytes_any w2 _ _ true (itB it) hw2' (by rw [← HL.out]; omega))
    rw [← HL.out]
    clear hw2 hw2' hf2
    go_wp2_with fail
    refine HC2.out.mono ?_
    rintro e w3 ⟨v3, rfl, ho3, hb3⟩
    obtain ⟨A3, cc3, rfl, hcc3, _, hr3⟩ := ho3.reads
    rw [← HL.out] at hr3 hcc3
    rw [← HL.out]
    have hsz3 := hb3.size
    have HB3 := Lib.hid (HB2.out.below hb3 (by omega))
    have HBL3 := Lib.hid (HBL2.out.trans (hb3.mono (by omega)))
    have HN := Lib.hid (newReader_any w3 _ A3 m cc3 _ (hr3.take (k := m) (by omega)) (by omega))
    have hmc : m ≤ cc3 := by omega
    clear ho3 hb3 hr3
    go_wp2_with fail
    refine HN.out.mono ?_
    rintro e w4 ⟨g, rfl, hr4, hb4⟩
    have hsz4 := hb4.size
    have HB4 := Lib.hid (HB3.out.below hb4 (by omega))
    have HBL4 := Lib.hid (HBL3.out.trans (hb4.mono (by omega)))
    have HCA := Lib.hid (again_cut w4 _ (some g) it m HI.out (by omega) ⟨hk3, hk4⟩ (by rw [← HL.out]; exact hmL) hr4)
    have c0 := HB4.out.cell 0
    have c2 := HB4.out.cell 2
    clear hr4 hb4
    go_wp2_with fail
    clear c0 c2
    refine HCA.out.mono ?_
    rintro e w5 ⟨rfl, hr5, hf5⟩
    have hsz5 := hf5.size
    have HBL5 := Lib.hid (HBL4.out.trans (hf5.below (B := w.heap.size) (fun b hb => by omega) (by omega)))
    obtain ⟨lc, hlc⟩ : ∃ lc, lc = (itB it).take m := ⟨_, rfl⟩
    rw [← hlc] at hr5
    have hlcl : lc.length = m := by rw [hlc, List.length_take, ← HL.out]; omega
    have HLC := Lib.hid hlcl
    have HE := Lib.hid (err_any w5 _ _ false lc hr5)
    have HLF := Lib.hid (left_any w5 _ _ false lc hr5)
    have HU := Lib.hid (ru8_any w5 _ _ false lc hr5)
    rw [hlcl] at HLF
    simp only [errOf, Bool.false_eq_true, if_false] at HE
    clear hr5 hf5 hlc hlcl
    go_wp2_with (first | (go_at_call 18; refine HE.out.mono ?_; rintro e w' ⟨rfl, rfl⟩) | (go_at_call 17; refine HLF.out.mono ?_; rintro e w' ⟨rfl, rfl⟩))
    refine HU.out.mono ?_
    rintro e w6 ⟨rfl, hr6, hf6⟩
    have hsz6 := hf6.size
    have HBL6 := Lib.hid (HBL5.out.trans (hf6.below (B := w.heap.size) (fun b hb => by omega) (by omega)))
    have hr6' : Rd w6 (fun b => w3.heap.size ≤ b) (some g) false lc := hr6
    have HT := Lib.hid (text_any w6 _ _ false lc 1048576 (by omega) (by omega) hr6')
    have hv0 : (valO false (fixO lc 1) 0 : Nat) = 0 := rfl
    rw [hv0]
    unfold strV at HT
    clear hr6 hr6' hf6 hv0
    go_wp2_with fail
    refine HT.out.mono ?_
    rintro e w7 ⟨rfl, hr7, hf7⟩
    have hsz7 := hf7.size
    have HBL7 := Lib.hid (HBL6.out.trans (hf7.below (B := w.heap.size) (fun b hb => by omega) (by omega)))
    have hr7' : Rd w7 (fun b => w3.heap.size ≤ b) (some g) false lc := hr7
    have hv1 : strOf (valO false (Cd.text lc 1048576) []) = ⟨#[]⟩ := rfl
    rw [hv1]
    have HLF2 := Lib.hid (left_any w7 _ _ false lc hr7')
    rw [HLC.out] at HLF2
    have HEN := Lib.hid (end_any w7 _ _ false lc hr7')
    simp only [Bool.false_and, errOf, Bool.false_eq_true, if_false] at HEN
    clear hr7 hr7' hf7 hv1
    go_wp2_with (go_at_call 17; refine HLF2.out.mono ?_; rintro e w' ⟨rfl, rfl⟩)
    refine HEN.out.mono ?_
    rintro e w8 ⟨rfl, _, hf8⟩
    have HBL8 := Lib.hid (HBL7.out.trans (hf8.below (B := w.heap.size) (fun b hb => by omega) (by omega)))
    clear hf8
    go_wp2_with (go_at_call 10; refine (alive_any _).mono ?_; rintro e w9 ⟨rfl, hb9⟩; have HBL9 := Lib.hid (HBL8.out.trans (hb9.mono HBL8.out.size)); clear hb9)
    go_ret
    exact ⟨rfl, HBL9.out⟩
end Go.Proofs.Ytmnjmlnpmifiiaa.codeCuts
